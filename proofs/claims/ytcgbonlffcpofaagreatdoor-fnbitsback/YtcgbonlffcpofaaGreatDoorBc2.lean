/- impl's cut: bits cut out of a row. -/
import Derived.Test.YtcgbonlffcpofaaGreatDoorQ26
import Derived.Deep.RegionWith
namespace Go.Proofs.YtcgbonlffcpofaaGreatDoor
open Go.RowKit Go.Deep

set_option maxRecDepth 100000 in
set_option maxHeartbeats 1000000 in
theorem icut_any (n : Int) (s : ByteArray) (f K : Nat) (w : World) (hm : Masks 0 w) (hfk : f + K ≤ 8 * s.size) (hss : s.size ≤ 1048576) (hK : K ≤ 100000) :
    Calls Tryz.prog 35 #[.agg #[.int .i64 n, .string s], .int .i64 f, .int .i64 K] w fun e w' => e = .returned (.agg #[.int .i64 K, .string (strB (cutBits s f K))]) ∧ Below w.heap.size w w' := by
  have Hm := hide hm
  have hGw := hm.1
  obtain ⟨W0, hW0⟩ : ∃ W0, W0 = (w.alloc (.cells #[.int .i64 n, .string s] 27)).alloc (.cells #[.int .i64 0, .string ⟨#[]⟩] 27) := ⟨_, rfl⟩
  have hs0 : W0.heap.size = w.heap.size + 2 := by rw [hW0]; simp
  have hb0 : Below w.heap.size w W0 := by rw [hW0]; exact ((Below.refl w.heap.size w).alloc (Nat.le_refl _) _).alloc (by simp) _
  have F : ∀ w', Below W0.heap.size W0 w' → w'.cell? ⟨w.heap.size, 0, none⟩ = some (.int .i64 n) ∧ w'.cell? ⟨w.heap.size, 1, none⟩ = some (.string s) := fun w' hb => by
    rw [hW0] at hb
    exact box2 w _ _ _ ((((Below.refl (w.heap.size + 1) (w.alloc (.cells #[.int .i64 n, .string s] 27))).alloc (by simp) _)).trans (hb.mono (by simp)))
  have G : ∀ w', Below W0.heap.size W0 w' → (w'.cell? ⟨w.heap.size + 1, 0, none⟩ = some (.int .i64 0) ∧ w'.cell? ⟨w.heap.size + 1, 1, none⟩ = some (.string ⟨#[]⟩)) ∧ ∀ o, w'.frozen? ⟨w.heap.size + 1, o, none⟩ = false := fun w' hb => by
    have h := box2 (w.alloc (.cells #[.int .i64 n, .string s] 27)) (.int .i64 0) (.string ⟨#[]⟩) 27 (w' := w') (by rw [hW0] at hb; simpa using hb)
    have h' := box2f (w.alloc (.cells #[.int .i64 n, .string s] 27)) (.int .i64 0) (.string ⟨#[]⟩) 27 (w' := w') (by rw [hW0] at hb; simpa using hb)
    simp only [World.size_alloc] at h h'
    exact ⟨h, h'⟩
  have HF := hide F
  have HG := hide G
  have Hb0 := hide hb0
  have HW := hide hW0
  clear hm F G hb0
  go_enter Tryz.func35, Tryz.ntmps35
  go_wp2_with fail
  rw [← unhide HW]
  clear hW0
  refine (newRow_any K W0 hK).mono ?_
  rintro e w1 ⟨g, rfl, hown, hb1⟩
  have hs1 := hb1.size
  have hg := (hown.lt g rfl)
  have Hown := hide hown
  have Hb1 := hide hb1
  clear hown hb1
  by_cases h8 : f % 8 = 0
  · have h8' : ((f : Int) % 8 == 0) = true := by simp; omega
    go_wp2_with fail
    obtain ⟨R, hR⟩ : ∃ R, R = w1.heap.size := ⟨_, rfl⟩
    obtain ⟨m, hm⟩ : ∃ m, m = (K + 7) / 8 := ⟨_, rfl⟩
    have HCut := hide (cut_bytes s f K)
    rw [← hm] at HCut
    have hn0 : K ≤ 8 * m := by omega
    have hn8 : 8 * m < K + 8 := by omega
    have hmm : m ≤ 100000 := by omega
    have hmq : f / 8 + m ≤ s.size := by omega
    have hgR : g < R := by omega
    have hgW : W0.heap.size ≤ g := hg.1
    have hGg : 0 < g := by omega
    have hlm : (bytesAt (cutBits s f K) K).length = m := by rw [bytesAt_length, cutBits_length, hm]
    have hc := two_new w1 (.int .i64 K) (.slice (some ⟨g, 0, none⟩) m m) 48
    rw [← hR] at hc
    rw [← hR, ← hm]
    have hown1 := unhide Hown
    rw [← hm] at hown1
    have hb2 := (unhide Hb1).alloc hs1 (.cells #[.int .i64 K, .slice (some ⟨g, 0, none⟩) m m] 48)
    have hY2 := hown1.alloc (.cells #[.int .i64 K, .slice (some ⟨g, 0, none⟩) m m] 48)
    have hs2 : R < (w1.alloc (.cells #[.int .i64 K, .slice (some ⟨g, 0, none⟩) m m] 48)).heap.size := by rw [hR]; simp
    obtain ⟨w2, hw2⟩ : ∃ w2, w2 = w1.alloc (.cells #[.int .i64 K, .slice (some ⟨g, 0, none⟩) m m] 48) := ⟨_, rfl⟩
    rw [← hw2] at hc hb2 hY2 hs2 ⊢
    obtain ⟨r0, r1⟩ := hc
    obtain ⟨f0, f1⟩ := unhide HF w2 hb2
    have hheap : ∃ cur, w2.heap[g]? = some (.cells cur 5 (0, 0)) ∧ m = cur.size := by
      rcases hY2.2 with ⟨h', _⟩ | ⟨g', cap', cur, h', _, hh, _, _, hsz, _⟩
      · simp at h'
      · simp only [Value.slice.injEq, Option.some.injEq, Addr.mk.injEq, and_true, true_and] at h'
        obtain ⟨rfl, rfl⟩ := h'
        exact ⟨cur, hh, by omega⟩
    obtain ⟨cur, hcur, hcs⟩ := hheap
    have Hcur := hide hcur
    have Hcs := hide hcs
    have hA : 0 ≤ (f : Int) / 8 := by omega
    have hB : (f : Int) / 8 ≤ s.size := by omega
    have hC : ((f : Int) / 8).toNat = f / 8 := by omega
    have hWr : IntKind.i64.wrap ((f : Int) / 8) = (f : Int) / 8 := by simp [IntKind.wrap, IntKind.bits, IntKind.signed]; omega
    have Hb2 := hide hb2
    clear hw2 hb2 hY2 hown1 hcur hcs hR hm hs1 hg h8'
    go_wp2_with fail
    go_region_law (refine step_copy_str rfl (.tmp 15) (.tmp 20) 22 9 rfl 5 Tryz.underlying22 (by kernel_rfl) g m m rfl _ rfl cur 5 (unhide Hcur) (by simp; omega) (unhide Hcs) ?_)
    all_goals
      obtain ⟨w3, hw3⟩ : ∃ w3, w3 = w2.drew.setRow g (firstCells (s.extract (f / 8) s.size) m).toArray := ⟨_, rfl⟩
      have own3 : w3.ownsRow W0.heap.size 5 1 (.slice (some ⟨g, 0, none⟩) m m) m (u8s (fullBytes s f m)) := by
        rw [hw3, ← firstCells_whole s f m h8 hmq]
        exact own_setRow (unhide Hcur) hgW (firstCells_length _ _ (by simp; omega)) (by unfold maxLen; omega)
      have hb3 : Below W0.heap.size W0 w3 := by rw [hw3]; exact below_setRow (unhide Hb2).drew hgW _
      have c0 : w3.cell? ⟨R, 0, none⟩ = some (.int .i64 K) := by rw [hw3]; exact (cell_setRow_other (by omega)).trans r0
      have c1 : w3.cell? ⟨R, 1, none⟩ = some (.slice (some ⟨g, 0, none⟩) m m) := by rw [hw3]; exact (cell_setRow_other (by omega)).trans r1
      have hs3 : R < w3.heap.size := by rw [hw3]; simpa [World.setRow] using hs2
      rw [← hw3]
      have H3 := hide own3
      have Hb3 := hide hb3
      clear hw3 own3 hb3 r0 r1 hs2 f0 f1 hA hB hC hWr
      go_wp2_with fail
      refine (clearEnd_any R g m K W0.heap.size (fullBytes s f m) w3 ((unhide Hm).keep ((unhide Hb0).trans ((unhide Hb3).mono (unhide Hb0).size))) c0 c1 (unhide H3) (fullBytes_length s f m) (full_mem s f m) hgR hGg hn0 hn8 hmm).mono ?_
      rintro e w4 ⟨rfl, own4, d0, d1, hb4, hs4⟩
      rw [unhide HCut] at own4
      have hb5 := (unhide Hb3).trans (hb4.mono hgW)
      have hR4 : R < w4.heap.size := by omega
      have hc := hide (fun i (hi : i < m) => own_cell own4 i hi)
      have Hb5 := hide hb5
      clear hb4 hb5 own4 c0 c1
      go_wp2_with fail
      refine (rbits_any R g m m K (bytesAt (cutBits s f K) K) w4 d0 d1 hR4 hlm (unhide hc) (by omega)).mono ?_
      rintro e w5 ⟨rfl, hb6⟩
      have hb7 := (unhide Hb5).trans (hb6.mono (unhide Hb5).size)
      obtain ⟨⟨q0, q1⟩, q2⟩ := unhide HG w5 hb7
      have q20 := q2 0
      have q21 := q2 1
      have Hb7 := hide hb7
      have e2 : strOfNums (bytesAt (cutBits s f K) K) = strB (cutBits s f K) := by unfold strB; rw [cutBits_length]
      rw [e2]
      obtain ⟨S, hS⟩ : ∃ S, S = strB (cutBits s f K) := ⟨_, rfl⟩
      rw [← hS]
      have HS := hide hS
      clear hb6 hb7 q2 e2 hS d0 d1
      go_wp2_with fail
      exact bodyPost_ret (v := .agg #[.int .i64 K, .string S]) (by simp [results, Tryz.results35, go_sem, q0, q1]) rfl ⟨by rw [unhide HS], (((unhide Hb0).trans ((unhide Hb7).mono (unhide Hb0).size)).setCell (by show w.heap.size ≤ w.heap.size + 1; omega) _).setCell (by show w.heap.size ≤ w.heap.size + 1; omega) _⟩
  · have h8' : ((f : Int) % 8 == 0) = false := by simp; omega
    go_wp2_with fail
    obtain ⟨R, hR⟩ : ∃ R, R = w1.heap.size := ⟨_, rfl⟩
    obtain ⟨m, hm⟩ : ∃ m, m = (K + 7) / 8 := ⟨_, rfl⟩
    have HCut := hide (cut_bytes s f K)
    rw [← hm] at HCut
    have hn0 : K ≤ 8 * m := by omega
    have hn8 : 8 * m < K + 8 := by omega
    have hmm : m ≤ 100000 := by omega
    have hmq : f / 8 + m ≤ s.size := by omega
    have hgR : g < R := by omega
    have hgW : W0.heap.size ≤ g := hg.1
    have hGg : 0 < g := by omega
    have hlm : (bytesAt (cutBits s f K) K).length = m := by rw [bytesAt_length, cutBits_length, hm]
    have hc := two_new w1 (.int .i64 K) (.slice (some ⟨g, 0, none⟩) m m) 48
    rw [← hR] at hc
    rw [← hR, ← hm]
    have hown1 := unhide Hown
    rw [← hm] at hown1
    have hb2 := (unhide Hb1).alloc hs1 (.cells #[.int .i64 K, .slice (some ⟨g, 0, none⟩) m m] 48)
    have hY2 := hown1.alloc (.cells #[.int .i64 K, .slice (some ⟨g, 0, none⟩) m m] 48)
    have hs2 : R < (w1.alloc (.cells #[.int .i64 K, .slice (some ⟨g, 0, none⟩) m m] 48)).heap.size := by rw [hR]; simp
    obtain ⟨w2, hw2⟩ : ∃ w2, w2 = w1.alloc (.cells #[.int .i64 K, .slice (some ⟨g, 0, none⟩) m m] 48) := ⟨_, rfl⟩
    rw [← hw2] at hc hb2 hY2 hs2 ⊢
    have hmq : ∀ k, k < m → (f + 8 * k) / 8 < s.size := fun k hk => by omega
    have hmod : ∀ k, (f + 8 * k) % 8 ≠ 0 := fun k => by omega
    have hY0 : w2.ownsRow W0.heap.size 5 1 (.slice (some ⟨g, 0, none⟩) m m) m (u8s (part s f m 0)) := by rw [part_zero]; exact hY2
    obtain ⟨r0, r1⟩ := hc
    have Hb2 := hide hb2
    have HY := hide hY0
    clear hw2 hb2 hY2 hY0 hown1 hR hm hs1 hg h8'
    go_wp2_with fail
    have HR := hide (And.intro r0 (And.intro r1 hs2))
    clear r0 r1 hs2
    go_loopw [8, 25] (fun jv iv wr => ∃ k : Nat, k ≤ m ∧ iv = .int .i64 k ∧ Below W0.heap.size W0 wr ∧ wr.cell? ⟨R, 0, none⟩ = some (.int .i64 K) ∧ wr.cell? ⟨R, 1, none⟩ = some (.slice (some ⟨g, 0, none⟩) m m) ∧ R < wr.heap.size ∧
        wr.ownsRow W0.heap.size 5 1 (.slice (some ⟨g, 0, none⟩) m m) m (u8s (part s f m k))) (fun _ iv _ => m - (intOf iv).toNat)
    case atStart => exact ⟨0, Nat.zero_le _, rfl, unhide Hb2, (unhide HR).1, (unhide HR).2.1, (unhide HR).2.2, unhide HY⟩
    case round =>
      obtain ⟨k, hk, rfl, hb, r0, r1, hRs, hown⟩ := hrel
      obtain ⟨f0, f1⟩ := unhide HF wr hb
      have Hb := hide hb
      have Hown := hide hown
      by_cases hlt : k < m
      · have hB0 := fun w => byteAt_any n s (f + 8 * k) w
        have eB : ((f + 8 * k : Nat) : Int) = (f : Int) + 8 * (k : Int) := by omega
        rw [eB] at hB0
        have hB := hide hB0
        have eW1 : IntKind.i64.wrap (8 * (k : Int)) = 8 * (k : Int) := by simp [IntKind.wrap, IntKind.bits, IntKind.signed]; omega
        have eW2 : IntKind.i64.wrap ((f : Int) + 8 * (k : Int)) = (f : Int) + 8 * (k : Int) := by simp [IntKind.wrap, IntKind.bits, IntKind.signed]; omega
        clear hB0 eB
        have hP := hide (part_succ s f m k hlt)
        have hq := hmq k hlt
        have hne := hmod k
        have hdr : Below wr.heap.size wr wr.drew := (Below.refl _ _).drew
        have Hdr := hide hdr
        have hcg := own_cell hown k hlt
        have hfg := hown.frozenAt k
        obtain ⟨y, hy⟩ : ∃ y, y = (part s f m k).getD k 0 := ⟨_, rfl⟩
        rw [← hy] at hcg
        obtain ⟨z, hz⟩ : ∃ z, z = full s (f + 8 * k) 0 := ⟨_, rfl⟩
        rw [← hz] at hB hP
        have hgs : g < wr.heap.size := by omega
        clear hb hown hdr hmq hmod hy hz
        go_wp2_with fail
        go_region_with (go_at_call 53; refine (unhide hB _ hq hne (by omega)).mono ?_; rintro e w3 ⟨rfl, hb3⟩; have hB3 := (unhide Hdr).trans hb3; have c0 := (hB3.cell (p := ⟨R, 0, none⟩) hRs).trans r0; have c1 := (hB3.cell (p := ⟨R, 1, none⟩) hRs).trans r1; have c2 := (hB3.cell (p := ⟨g, k, none⟩) hgs).trans hcg; have c3 := (hB3.frozen (p := ⟨g, k, none⟩) hgs).trans hfg; have HB3 := hide hB3; clear hb3 hB3)
        all_goals
          have own3 := own_set (ownsRow_below (unhide Hown) (unhide HB3)) k z
          rw [← unhide hP] at own3
          obtain ⟨w5, hw5⟩ : ∃ w5, w5 = w3.setCell ⟨g, k, none⟩ (.int .u8 z) := ⟨_, rfl⟩
          have own5 : w5.ownsRow W0.heap.size 5 1 (.slice (some ⟨g, 0, none⟩) m m) m (u8s (part s f m (k + 1))) := by rw [hw5]; exact own3
          have hb5 : Below W0.heap.size W0 w5 := by rw [hw5]; exact (((unhide Hb).trans ((unhide HB3).mono (unhide Hb).size)).setCell hgW _)
          have q0 : w5.cell? ⟨R, 0, none⟩ = some (.int .i64 K) := by rw [hw5]; exact (World.cell?_setCell_other _ _ _ _ (by simp)).trans c0
          have q1 : w5.cell? ⟨R, 1, none⟩ = some (.slice (some ⟨g, 0, none⟩) m m) := by rw [hw5]; exact (World.cell?_setCell_other _ _ _ _ (by simp)).trans c1
          have hs5 : R < w5.heap.size := by rw [hw5]; have := (unhide HB3).size; simp; omega
          rw [← hw5]
          have H5 := hide own5
          have HB5 := hide hb5
          clear hw5 own3 own5 hb5 c0 c1 c2 c3
          go_wp2_with fail
          go_roundw
          case rel => exact ⟨k + 1, by omega, by go_num, unhide HB5, q0, q1, hs5, unhide H5⟩
          case measure => simp [intOf]; omega
      · have hkm : k = m := by omega
        subst hkm
        have own3 := hown
        rw [part_all] at own3
        obtain ⟨w3, hw3⟩ : ∃ w3, w3 = wr := ⟨_, rfl⟩
        rw [← hw3] at own3 hb r0 r1 hRs ⊢
        have H3 := hide own3
        have Hb3 := hide hb
        have c0 := r0
        have c1 := r1
        have hs3 := hRs
        clear own3 hb hown r0 r1 hRs f0 f1 hw3 hmq hmod
        go_wp2_with fail
        refine (clearEnd_any R g k K W0.heap.size (fullBytes s f k) w3 ((unhide Hm).keep ((unhide Hb0).trans ((unhide Hb3).mono (unhide Hb0).size))) c0 c1 (unhide H3) (fullBytes_length s f k) (full_mem s f k) hgR hGg hn0 hn8 hmm).mono ?_
        rintro e w4 ⟨rfl, own4, d0, d1, hb4, hs4⟩
        rw [unhide HCut] at own4
        have hb5 := (unhide Hb3).trans (hb4.mono hgW)
        have hR4 : R < w4.heap.size := by omega
        have hc := hide (fun i (hi : i < k) => own_cell own4 i hi)
        have Hb5 := hide hb5
        clear hb4 hb5 own4 c0 c1
        go_wp2_with fail
        refine (rbits_any R g k k K (bytesAt (cutBits s f K) K) w4 d0 d1 hR4 hlm (unhide hc) (by omega)).mono ?_
        rintro e w5 ⟨rfl, hb6⟩
        have hb7 := (unhide Hb5).trans (hb6.mono (unhide Hb5).size)
        obtain ⟨⟨q0, q1⟩, q2⟩ := unhide HG w5 hb7
        have q20 := q2 0
        have q21 := q2 1
        have Hb7 := hide hb7
        have e2 : strOfNums (bytesAt (cutBits s f K) K) = strB (cutBits s f K) := by unfold strB; rw [cutBits_length]
        rw [e2]
        obtain ⟨S, hS⟩ : ∃ S, S = strB (cutBits s f K) := ⟨_, rfl⟩
        rw [← hS]
        have HS := hide hS
        clear hb6 hb7 q2 e2 hS d0 d1
        go_wp2_with fail
        exact bodyPost_ret (v := .agg #[.int .i64 K, .string S]) (by simp [results, Tryz.results35, go_sem, q0, q1]) rfl ⟨by rw [unhide HS], (((unhide Hb0).trans ((unhide Hb7).mono (unhide Hb0).size)).setCell (by show w.heap.size ≤ w.heap.size + 1; omega) _).setCell (by show w.heap.size ≤ w.heap.size + 1; omega) _⟩

end Go.Proofs.YtcgbonlffcpofaaGreatDoor
