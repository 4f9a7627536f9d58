/- impl's put: a number's bits as a row. -/
import Derived.Test.YtcgbonlffcpofaaGreatDoorQ9
namespace Go.Proofs.YtcgbonlffcpofaaGreatDoor
open Go.RowKit Go.Deep

set_option maxRecDepth 100000 in
set_option maxHeartbeats 1000000 in
theorem iput_any (v : Int) (size : Nat) (sg li : Bool) (w : World) (hm : Masks 0 w) (hs : size ≤ 49) :
    Calls Tryz.prog 34 #[.agg #[.int .i64 size, .bool sg, .bool li], .int .i64 v] w fun e w' => e = .returned (.agg #[.int .i64 size, .string (strB (putBits v size li))]) ∧ Below w.heap.size w w' := by
  have Hm := hide hm
  have hl := putBits_length v size li
  have h01 := hide (putBits_01 v size li)
  obtain ⟨W0, hW0⟩ : ∃ W0, W0 = (w.alloc (.cells #[.int .i64 size, .bool sg, .bool li] 64)).alloc (.cells #[.int .i64 0, .string ⟨#[]⟩] 27) := ⟨_, rfl⟩
  have hs0 : W0.heap.size = w.heap.size + 2 := by rw [hW0]; simp
  have hb0 : Below w.heap.size w W0 := by rw [hW0]; exact ((Below.refl w.heap.size w).alloc (Nat.le_refl _) _).alloc (by simp) _
  have F : ∀ w', Below W0.heap.size W0 w' → w'.cell? ⟨w.heap.size, 0, none⟩ = some (.int .i64 size) ∧ w'.cell? ⟨w.heap.size, 1, none⟩ = some (.bool sg) ∧ w'.cell? ⟨w.heap.size, 2, none⟩ = some (.bool li) := fun w' hb => by
    rw [hW0] at hb
    exact box3 w _ _ _ _ (Nat.lt_succ_self _) ((((Below.refl (w.heap.size + 1) (w.alloc (.cells #[.int .i64 size, .bool sg, .bool li] 64))).alloc (by simp) _)).trans (hb.mono (by simp)))
  have G : ∀ w', Below W0.heap.size W0 w' → (w'.cell? ⟨w.heap.size + 1, 0, none⟩ = some (.int .i64 0) ∧ w'.cell? ⟨w.heap.size + 1, 1, none⟩ = some (.string ⟨#[]⟩)) ∧ ∀ o, w'.frozen? ⟨w.heap.size + 1, o, none⟩ = false := fun w' hb => by
    have h := box2 (w.alloc (.cells #[.int .i64 size, .bool sg, .bool li] 64)) (.int .i64 0) (.string ⟨#[]⟩) 27 (w' := w') (by rw [hW0] at hb; simpa using hb)
    have h' := box2f (w.alloc (.cells #[.int .i64 size, .bool sg, .bool li] 64)) (.int .i64 0) (.string ⟨#[]⟩) 27 (w' := w') (by rw [hW0] at hb; simpa using hb)
    simp only [World.size_alloc] at h h'
    exact ⟨h, h'⟩
  have HF := hide F
  have HG := hide G
  have Hb0 := hide hb0
  have HW := hide hW0
  clear hm F G hb0
  go_enter Tryz.func34, Tryz.ntmps34
  go_wp2_with fail
  rw [← unhide HW]
  clear hW0
  refine (newRow_any size W0 (by omega)).mono ?_
  rintro e w1 ⟨g, rfl, hown, hb1⟩
  have hs1 := hb1.size
  have hg := (hown.lt g rfl)
  have f0 : ∀ o, (w1.alloc o).cell? ⟨w.heap.size, 0, none⟩ = some (.int .i64 size) := fun o => (unhide HF _ (hb1.alloc hs1 o)).1
  have Hown := hide hown
  have Hb1 := hide hb1
  clear hown hb1
  go_wp2_with fail
  obtain ⟨R, hR⟩ : ∃ R, R = w1.heap.size := ⟨_, rfl⟩
  obtain ⟨m, hm⟩ : ∃ m, m = (size + 7) / 8 := ⟨_, rfl⟩
  have hm8 : ∀ i, i < size → i / 8 < m := fun i hi => by omega
  have hY : w1.ownsRow W0.heap.size 5 1 (.slice (some ⟨g, 0, none⟩) m m) m (u8s (bytesAt (putBits v size li) 0)) := by
    rw [hm, bytesAt_zero, hl]; exact unhide Hown
  have hc := two_new w1 (.int .i64 size) (.slice (some ⟨g, 0, none⟩) m m) 48
  rw [← hR] at hc
  rw [← hR, ← hm]
  have hb2 := (unhide Hb1).alloc hs1 (.cells #[.int .i64 size, .slice (some ⟨g, 0, none⟩) m m] 48)
  have hY2 := hY.alloc (.cells #[.int .i64 size, .slice (some ⟨g, 0, none⟩) m m] 48)
  have hs2 : R < (w1.alloc (.cells #[.int .i64 size, .slice (some ⟨g, 0, none⟩) m m] 48)).heap.size := by rw [hR]; simp
  have hgR : g < R := by omega
  have hgW : W0.heap.size ≤ g := hg.1
  have hRW : W0.heap.size ≤ R := by omega
  have hlm : (bytesAt (putBits v size li) size).length = m := by rw [bytesAt_length, hl, hm]
  clear f0 hm hY
  obtain ⟨w2, hw2⟩ : ∃ w2, w2 = w1.alloc (.cells #[.int .i64 size, .slice (some ⟨g, 0, none⟩) m m] 48) := ⟨_, rfl⟩
  rw [← hw2] at hc hb2 hY2 hs2 ⊢
  clear hw2
  have Hc := hide hc
  have Hb2 := hide hb2
  have HY2 := hide hY2
  clear hc hb2 hY2 hR hs1 hg
  go_loopw [6, 12] (fun jv iv wr => ∃ k : Nat, k ≤ size ∧ iv = .int .i64 k ∧ Below W0.heap.size W0 wr ∧ wr.cell? ⟨R, 0, none⟩ = some (.int .i64 size) ∧ wr.cell? ⟨R, 1, none⟩ = some (.slice (some ⟨g, 0, none⟩) m m) ∧ R < wr.heap.size ∧
      wr.ownsRow W0.heap.size 5 1 (.slice (some ⟨g, 0, none⟩) m m) m (u8s (bytesAt (putBits v size li) k))) (fun _ iv _ => size - (intOf iv).toNat)
  case atStart => exact ⟨0, Nat.zero_le _, rfl, unhide Hb2, (unhide Hc).1, (unhide Hc).2, hs2, unhide HY2⟩
  case round =>
    obtain ⟨k, hk, rfl, hb, r0, r1, hRs, hown⟩ := hrel
    obtain ⟨f0, f1, f2⟩ := unhide HF wr hb
    clear hs2
    have Hb := hide hb
    have Hown := hide hown
    clear hb hown
    by_cases hlt : k < size
    · go_wp2_with fail
      refine (power_any size sg li k wr hlt hs).mono ?_
      rintro e w3 ⟨rfl, hb3⟩
      have hlm8 := hm8 k hlt
      obtain ⟨P, hP⟩ : ∃ P, P = pw size li k := ⟨_, rfl⟩
      have hP48 : P < size := by rw [hP]; exact pw_lt size li k hlt
      have hE := hide (putBits_getD v size li k hlt)
      have hA := hide (and_one (v / 2 ^ P))
      rw [← hP]
      have HP := hide hP
      have hb4 := (unhide Hb).trans (hb3.mono (unhide Hb).size)
      have hown4 := ownsRow_below (unhide Hown) hb3
      have r0' := (hb3.cell (p := ⟨R, 0, none⟩) hRs).trans r0
      have r1' := (hb3.cell (p := ⟨R, 1, none⟩) hRs).trans r1
      have hRs3 := Nat.lt_of_lt_of_le hRs hb3.size
      have Hb4 := hide hb4
      have Hown4 := hide hown4
      clear hP hb3 hb4 hown4 r0 r1 f0 f1 f2 hm8
      go_wp2_with fail
      · have h1 : (bits .and .i64 (v / 2 ^ P) 1 == 1) = true := by assumption
        have hx : (putBits v size li).getD k 0 = 1 := by
          rw [unhide hE, ← unhide HP, ← unhide hA]; simpa using h1
        have hB := hide (bytesAt_one _ (unhide h01) k (by rw [hl]; exact hlt) hx)
        refine (set_any R g m m k (bytesAt (putBits v size li) k) w3 ((unhide Hm).keep ((unhide Hb0).trans ((unhide Hb4).mono (unhide Hb0).size))) r1' (own_cell (unhide Hown4) (k / 8) hlm8) ((unhide Hown4).frozenAt (k / 8)) hlm8 (by omega)).mono ?_
        rintro e w4 ⟨rfl, rfl⟩
        have hown5 := own_set (unhide Hown4) (k / 8) (bits .or .u8 ((bytesAt (putBits v size li) k).getD (k / 8) 0) (2 ^ (7 - k % 8)))
        rw [← unhide hB] at hown5
        obtain ⟨w5, hw5⟩ : ∃ w5, w5 = (w3.setCell ⟨g, k / 8, none⟩ (.int .u8 (bits .or .u8 ((bytesAt (putBits v size li) k).getD (k / 8) 0) (2 ^ (7 - k % 8))))).drew := ⟨_, rfl⟩
        have hown6 : w5.ownsRow W0.heap.size 5 1 (.slice (some ⟨g, 0, none⟩) m m) m (u8s (bytesAt (putBits v size li) (k + 1))) := by rw [hw5]; exact hown5
        have hb6 : Below W0.heap.size W0 w5 := by rw [hw5]; exact ((unhide Hb4).setCell hgW _).drew
        have c0 : w5.cell? ⟨R, 0, none⟩ = some (.int .i64 size) := by rw [hw5]; exact (World.cell?_setCell_other _ _ _ _ (by simp)).trans r0'
        have c1 : w5.cell? ⟨R, 1, none⟩ = some (.slice (some ⟨g, 0, none⟩) m m) := by rw [hw5]; exact (World.cell?_setCell_other _ _ _ _ (by simp)).trans r1'
        have hs6 : R < w5.heap.size := by rw [hw5]; simpa using hRs3
        rw [← hw5]
        clear hown5 hw5 h1 hx r0' r1' hRs3
        have H6 := hide hown6
        clear hown6
        go_wp2_with fail
        go_roundw
        case rel => exact ⟨k + 1, by omega, by go_num, hb6, c0, c1, hs6, unhide H6⟩
        case measure => simp [intOf]; omega
      · have h1 : (bits .and .i64 (v / 2 ^ P) 1 == 1) = false := by assumption
        have hx : (putBits v size li).getD k 0 = 0 := by
          have h2 : ¬ bits .and .i64 (v / 2 ^ P) 1 = 1 := by simpa using h1
          rw [unhide hA] at h2
          rw [unhide hE, ← unhide HP]; omega
        have hB := bytesAt_skip _ (unhide h01) k (by rw [hl]; exact hlt) hx
        go_roundw
        case rel => exact ⟨k + 1, by omega, by go_num, unhide Hb4, r0', r1', hRs3, by rw [hB]; exact unhide Hown4⟩
        case measure => simp [intOf]; omega
    · have hkn : k = size := by omega
      subst hkn
      have hgs : g < wr.heap.size := by omega
      have hc := fun i (hi : i < m) => own_cell (unhide Hown) i hi
      have Hcc := hide hc
      clear hc f0 f1 f2 hm8
      go_wp2_with fail
      refine (rbits_any R g m m k (bytesAt (putBits v k li) k) wr r0 r1 hRs hlm (unhide Hcc) hgs).mono ?_
      rintro e w3 ⟨rfl, hb3⟩
      have hb4 := (unhide Hb).trans (hb3.mono (unhide Hb).size)
      obtain ⟨⟨q0, q1⟩, q2⟩ := unhide HG w3 hb4
      have q20 := q2 0
      have q21 := q2 1
      have Hb4 := hide hb4
      have e2 : strOfNums (bytesAt (putBits v k li) k) = strB (putBits v k li) := by unfold strB; rw [hl]
      rw [e2]
      obtain ⟨S, hS⟩ : ∃ S, S = strB (putBits v k li) := ⟨_, rfl⟩
      rw [← hS]
      have HS := hide hS
      clear hb3 hb4 q2 e2 hS
      go_wp2_with fail
      exact bodyPost_ret (v := .agg #[.int .i64 k, .string S]) (by simp [results, Tryz.results34, go_sem, q0, q1]) rfl ⟨by rw [unhide HS], (((unhide Hb0).trans ((unhide Hb4).mono (unhide Hb0).size)).setCell (by show w.heap.size ≤ w.heap.size + 1; omega) _).setCell (by show w.heap.size ≤ w.heap.size + 1; omega) _⟩

end Go.Proofs.YtcgbonlffcpofaaGreatDoor
