/- impl's fits of a segment; areSegs, haveTerms. -/
import Derived.Test.YtcgbonlffcpofaaGreatDoorQ9
import Derived.Test.YtcgbonlffcpofaaGreatDoorQ17
namespace Go.Proofs.YtcgbonlffcpofaaGreatDoor
open Go.RowKit Go.Deep

section
variable (g1 g2 g3 : Int) (g4 g5 : Bool) (k m : Int) (s : ByteArray) (ua : Option Addr) (ul uc : Nat) (w : World)
set_option maxRecDepth 40000 in
set_option maxHeartbeats 4000000 in
theorem sfits_any {n : Nat} (t : Tm n) : Calls Tryz.prog 31 #[sgV g1 g2 g3 g4 g5 k m s ua ul uc] w fun e w' => e = .returned (.bool (sgOK ((g1, g2, g3, g4, g5, t) : SgT n))) ∧ Below w.heap.size w w' := by
  rw [sgOK_eq]
  have hB := hide ((Below.refl w.heap.size w).alloc (Nat.le_refl _) (sgO g1 g2 g3 g4 g5 k m s ua ul uc))
  by_cases hok : 1 ≤ g3 ∧ g3 ≤ 256 ∧ -1 ≤ g2 ∧ g2 ≤ 32000
  · obtain ⟨p1, p2, p3, p4⟩ := hok
    have b1 : ¬ g3 < 1 := by omega
    have b2 : ¬ 256 < g3 := by omega
    have b3 : ¬ g2 < -1 := by omega
    have b4 : ¬ 32000 < g2 := by omega
    have HO := hide (fun w => isOpen_any g1 g2 g3 g4 g5 k m s ua ul uc w)
    have HA := hide (fun w => asField_any g1 g2 g3 g4 g5 k m s ua ul uc w p1 p2 p3 p4)
    by_cases ht : g1 = 1
    · subst ht
      by_cases hz : g2 = -1
      · subst hz
        have hz' : ((-1 : Int) == -1) = true := rfl
        have hans : (decide (1 ≤ g3) && decide (g3 ≤ 256) && decide ((-1 : Int) ≤ -1) && decide ((-1 : Int) ≤ 32000) && (if (1 : Int) = 1 then decide ((0 : Int) ≤ -1) && decide (-1 * g3 ≤ 49) else decide ((1 : Int) = 2) && !g4 && !g5)) = false := by
          rw [if_pos rfl, decide_eq_false (show ¬ (0 : Int) ≤ -1 by omega)]; simp
        rw [hans]
        clear hans
        unfold sgV
        go_enter Tryz.func31, Tryz.ntmps31
        go_wp2_with fail
        refine ((unhide HO) _).mono ?_
        rintro e w1 ⟨rfl, hb1⟩
        rw [hz']
        go_wp2_with fail
        go_ret
        exact ⟨ret_bool rfl, (unhide hB).trans (hb1.mono (by simp))⟩
      · have hz' : (g2 == -1) = false := by simpa using hz
        have hm := Int.mul_nonneg (show 0 ≤ g2 by omega) (show 0 ≤ g3 by omega)
        have hans : (decide (1 ≤ g3) && decide (g3 ≤ 256) && decide (-1 ≤ g2) && decide (g2 ≤ 32000) && (if (1 : Int) = 1 then decide (0 ≤ g2) && decide (g2 * g3 ≤ 49) else decide ((1 : Int) = 2) && !g4 && !g5)) = (decide (0 ≤ g2 * g3) && decide (g2 * g3 ≤ 49)) := by
          rw [decide_eq_true p1, decide_eq_true p2, decide_eq_true p3, decide_eq_true p4, if_pos rfl, decide_eq_true (show 0 ≤ g2 by omega), decide_eq_true hm]; rfl
        rw [hans]
        clear hans hm
        unfold sgV
        go_enter Tryz.func31, Tryz.ntmps31
        go_wp2_with fail
        refine ((unhide HO) _).mono ?_
        rintro e w1 ⟨rfl, hb1⟩
        rw [hz']
        obtain ⟨x0, x1, x2, x3, x4, x5, x6, x7, x8⟩ := box9 1 g2 g3 g4 g5 k m s ua ul uc w (Nat.lt_succ_self _) (hb1.mono (by simp))
        have H1 := hide ((unhide hB).trans (hb1.mono (by simp)))
        clear hb1
        go_wp2_with fail
        refine ((unhide HA) _).mono ?_
        rintro e w2 ⟨rfl, hb2⟩
        have H2 := hide ((unhide H1).trans (hb2.mono (unhide H1).size))
        clear hb2 x0 x1 x2 x3 x4 x5 x6 x7 x8
        go_wp2_with fail
        refine (ffits_any _ _ _ _).mono ?_
        rintro e w3 ⟨rfl, hb3⟩
        go_wp2_with fail
        go_ret
        exact ⟨ret_bool rfl, (unhide H2).trans (hb3.mono (unhide H2).size)⟩
    · have ht' : (g1 == 1) = false := by simpa using ht
      have hans : (decide (1 ≤ g3) && decide (g3 ≤ 256) && decide (-1 ≤ g2) && decide (g2 ≤ 32000) && (if g1 = 1 then decide (0 ≤ g2) && decide (g2 * g3 ≤ 49) else decide (g1 = 2) && !g4 && !g5)) = (decide (g1 = 2) && !g4 && !g5) := by
        rw [decide_eq_true p1, decide_eq_true p2, decide_eq_true p3, decide_eq_true p4, if_neg ht]; rfl
      rw [hans]
      clear hans
      unfold sgV
      by_cases h2' : g1 = 2
      · subst h2'
        cases g4 <;> cases g5
        all_goals
          go_enter Tryz.func31, Tryz.ntmps31
          go_wp2_with fail
          go_ret
          exact ⟨ret_bool rfl, unhide hB⟩
      · have h2'' : (g1 == 2) = false := by simpa using h2'
        rw [decide_eq_false h2']
        go_enter Tryz.func31, Tryz.ntmps31
        go_wp2_with fail
        go_ret
        exact ⟨ret_bool rfl, unhide hB⟩
  · have hans : (decide (1 ≤ g3) && decide (g3 ≤ 256) && decide (-1 ≤ g2) && decide (g2 ≤ 32000) && (if g1 = 1 then decide (0 ≤ g2) && decide (g2 * g3 ≤ 49) else decide (g1 = 2) && !g4 && !g5)) = false := by
      cases h : (decide (1 ≤ g3) && decide (g3 ≤ 256) && decide (-1 ≤ g2) && decide (g2 ≤ 32000)) with
      | false => rfl
      | true =>
        simp only [Bool.and_eq_true, decide_eq_true_eq] at h
        exact absurd ⟨h.1.1.1, h.1.1.2, h.1.2, h.2⟩ hok
    rw [hans]
    clear hans
    unfold sgV
    by_cases p1 : g3 < 1
    · go_enter Tryz.func31, Tryz.ntmps31
      go_wp2_with fail
      go_ret
      exact ⟨ret_bool rfl, unhide hB⟩
    by_cases p2 : 256 < g3
    · go_enter Tryz.func31, Tryz.ntmps31
      go_wp2_with fail
      go_ret
      exact ⟨ret_bool rfl, unhide hB⟩
    by_cases p3 : g2 < -1
    · go_enter Tryz.func31, Tryz.ntmps31
      go_wp2_with fail
      go_ret
      exact ⟨ret_bool rfl, unhide hB⟩
    have p4 : 32000 < g2 := by
      rcases (show 32000 < g2 ∨ g2 ≤ 32000 by omega) with h | h
      · exact h
      · exact absurd ⟨by omega, by omega, by omega, h⟩ hok
    go_enter Tryz.func31, Tryz.ntmps31
    go_wp2_with fail
    go_ret
    exact ⟨ret_bool rfl, unhide hB⟩
end

end Go.Proofs.YtcgbonlffcpofaaGreatDoor
/- impl's areSegs, haveTerms. -/
namespace Go.Proofs.YtcgbonlffcpofaaGreatDoor
open Go.RowKit Go.Deep

def fitX {n : Nat} (gs : List (SgT n)) : Bool := gs.all fun g => sgOK g
def okX {n : Nat} (gs : List (SgT n)) : Bool := gs.all fun g => okB n g.2.2.2.2.2
theorem allB_of {α : Type} {p : α → Bool} {xs : List α} (h : ∀ i (hi : i < xs.length), p xs[i] = true) : xs.all p = true := by
  rw [List.all_eq_true]
  intro x hx
  obtain ⟨i, hi, rfl⟩ := List.mem_iff_getElem.1 hx
  exact h i hi
theorem allB_not {α : Type} {p : α → Bool} {xs : List α} {i : Nat} (hi : i < xs.length) (h : p xs[i] = false) : xs.all p = false := by
  rw [List.all_eq_false]
  exact ⟨_, List.getElem_mem hi, by rw [h]; exact Bool.false_ne_true⟩

section
variable {n : Nat} (gs : List (SgT n)) (v : Value) (w : World)
set_option maxRecDepth 40000 in
set_option maxHeartbeats 2000000 in
theorem areSegs_any (hv : SgsAt (Under w.heap.size) w n gs v) : Calls Tryz.prog 16 #[v] w fun e w' => e = .returned (.bool (decide (gs.length ≤ 200) && fitX gs)) ∧ Below w.heap.size w w' := by
  obtain ⟨a, cap, rfl, hcap⟩ : ∃ a cap, v = .slice a gs.length cap ∧ gs.length ≤ 2 ^ 47 := by obtain ⟨a, cap, h, _, h2, _⟩ := hv; exact ⟨a, cap, h, h2⟩
  by_cases hbig : (200 : Int) < (gs.length : Int)
  · rw [decide_eq_false (show ¬ gs.length ≤ 200 by omega)]
    go_enter Tryz.func16, Tryz.ntmps16
    go_wp2_with fail
    go_ret
    exact ⟨ret_bool rfl, Below.refl _ _⟩
  · rw [decide_eq_true (show gs.length ≤ 200 by omega)]
    go_enter Tryz.func16, Tryz.ntmps16
    go_wp2_with fail
    go_loopw [10] (fun iv wr => ∃ k : Nat, k ≤ gs.length ∧ iv = .int .i64 k ∧ Below w.heap.size w wr ∧ ∀ i (hi : i < gs.length), i < k → sgOK gs[i] = true) (fun iv _ => gs.length - (intOf iv).toNat)
    case atStart => exact ⟨0, by omega, rfl, Below.refl _ _, fun i _ hi => absurd hi (by omega)⟩
    case round =>
      obtain ⟨k, hk, rfl, hb, hall⟩ := hrel
      by_cases hlt : k < gs.length
      · obtain ⟨b, off, kk, km, ks, ku, rfl, hS, e0, e1, e2, e3, e4, e5, e6, e7, e8, i1, i2, i3, hr⟩ := (hv.up hb).at k hlt
        obtain ⟨g1, g2, g3, g4, g5, t, hgk⟩ : ∃ g1 g2 g3 g4 g5 t, gs[k] = ((g1, g2, g3, g4, g5, t) : SgT n) := ⟨_, _, _, _, _, _, rfl⟩
        rw [hgk] at e0 e1 e2 e3 e4 hr
        dsimp only at e0 e1 e2 e3 e4 hr
        obtain ⟨_, _, _, ua, ul, uc, h1, h2, h3, rfl⟩ := hr.shape
        have HC := hide (fun w => sfits_any g1 g2 g3 g4 g5 kk km ks ua ul uc w t)
        have HGK := hide hgk
        have HB := hide hb
        clear hr hb h1 h2 h3 i1 i2 i3 hgk
        go_wp2_with fail
        refine ((unhide HC) _).mono ?_
        rintro e w1 ⟨rfl, hb1⟩
        have hw1 := (unhide HB).trans ((((Below.refl wr.heap.size wr).alloc (Nat.le_refl _) _).trans (hb1.mono (by simp))).mono (unhide HB).size)
        cases hok : sgOK ((g1, g2, g3, g4, g5, t) : SgT n) with
        | true =>
          have HOK := hide hok
          have HW := hide hw1
          clear hb1 hok hw1
          go_wp2_with fail
          go_roundw
          case rel => exact ⟨k + 1, hlt, by go_num, unhide HW, fun i hi hik => by
            rcases (show i < k ∨ i = k by omega) with h | rfl
            · exact hall i hi h
            · rw [unhide HGK]; exact unhide HOK⟩
          case measure => simp [intOf]; omega
        | false =>
          have hans : fitX gs = false := allB_not (i := k) hlt (by rw [unhide HGK]; exact hok)
          have HANS := hide hans
          clear hans
          have HW := hide hw1
          clear hb1 hok hw1
          go_wp2_with fail
          go_ret
          exact ⟨ret_bool (by rw [unhide HANS]; rfl), unhide HW⟩
      · have hans : fitX gs = true := allB_of fun i hi => hall i hi (by omega)
        have HANS := hide hans
        clear hans
        go_wp2_with fail
        go_ret
        exact ⟨ret_bool (by rw [unhide HANS]; rfl), hb⟩

set_option maxRecDepth 40000 in
set_option maxHeartbeats 2000000 in
theorem haveTerms_any (hv : SgsAt (Under w.heap.size) w n gs v) : Calls Tryz.prog 17 #[v] w fun e w' => e = .returned (.bool (okX gs)) ∧ Below w.heap.size w w' := by
  obtain ⟨a, cap, rfl, hcap⟩ : ∃ a cap, v = .slice a gs.length cap ∧ gs.length ≤ 2 ^ 47 := by obtain ⟨a, cap, h, _, h2, _⟩ := hv; exact ⟨a, cap, h, h2⟩
  go_enter Tryz.func17, Tryz.ntmps17
  go_wp2_with fail
  go_loopw [7] (fun iv wr => ∃ k : Nat, k ≤ gs.length ∧ iv = .int .i64 k ∧ Below w.heap.size w wr ∧ ∀ i (hi : i < gs.length), i < k → okB n gs[i].2.2.2.2.2 = true) (fun iv _ => gs.length - (intOf iv).toNat)
  case atStart => exact ⟨0, by omega, rfl, Below.refl _ _, fun i _ hi => absurd hi (by omega)⟩
  case round =>
    obtain ⟨k, hk, rfl, hb, hall⟩ := hrel
    by_cases hlt : k < gs.length
    · obtain ⟨b, off, kk, km, ks, ku, rfl, hS, e0, e1, e2, e3, e4, e5, e6, e7, e8, i1, i2, i3, hr⟩ := (hv.up hb).at k hlt
      obtain ⟨g1, g2, g3, g4, g5, t, hgk⟩ : ∃ g1 g2 g3 g4 g5 t, gs[k] = ((g1, g2, g3, g4, g5, t) : SgT n) := ⟨_, _, _, _, _, _, rfl⟩
      rw [hgk] at e0 e1 e2 e3 e4 hr
      dsimp only at e0 e1 e2 e3 e4 hr
      obtain ⟨_, _, _, ua, ul, uc, h1, h2, h3, rfl⟩ := hr.shape
      have HC := hide (fun w' (hb : Below wr.heap.size wr w') => iOK_any t _ _ _ _ w' (hr.up hb))
      have HGK := hide hgk
      have HB := hide hb
      clear hr hb h1 h2 h3 i1 i2 i3 hgk
      go_wp2_with fail
      refine ((unhide HC) _ ((Below.refl _ _).alloc (Nat.le_refl _) _)).mono ?_
      rintro e w1 ⟨rfl, hb1⟩
      have hw1 := (unhide HB).trans ((((Below.refl wr.heap.size wr).alloc (Nat.le_refl _) _).trans (hb1.mono (by simp))).mono (unhide HB).size)
      cases hok : okB n t with
      | true =>
        have HOK := hide hok
        have HW := hide hw1
        clear hb1 hok hw1
        go_wp2_with fail
        go_roundw
        case rel => exact ⟨k + 1, hlt, by go_num, unhide HW, fun i hi hik => by
          rcases (show i < k ∨ i = k by omega) with h | rfl
          · exact hall i hi h
          · rw [unhide HGK]; exact unhide HOK⟩
        case measure => simp [intOf]; omega
      | false =>
        have hans : okX gs = false := allB_not (i := k) hlt (by rw [unhide HGK]; exact hok)
        have HANS := hide hans
        clear hans
        have HW := hide hw1
        clear hb1 hok hw1
        go_wp2_with fail
        go_ret
        exact ⟨ret_bool (by rw [unhide HANS]), unhide HW⟩
    · have hans : okX gs = true := allB_of fun i hi => hall i hi (by omega)
      have HANS := hide hans
      clear hans
      go_wp2_with fail
      go_ret
      exact ⟨ret_bool (by rw [unhide HANS]), hb⟩
end

end Go.Proofs.YtcgbonlffcpofaaGreatDoor
