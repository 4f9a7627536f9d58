/- The law of TermPack: its own walk. -/
import Derived.Test.YtaggnncndbdmjaaSp6
import Derived.Test.YtaggnncndbdmjaaBx4
import Derived.Deep.RegionWith
namespace Go.Proofs.Ytaggnncndbdmjaa
open Go.RowKit Go.Deep

set_option maxRecDepth 40000 in
set_option maxHeartbeats 2000000 in
theorem law8_any {n : Nat} (t : Tm n) (c0 c1 c2 c3 : Value) (w : World) (ht : TAt (Under w.heap.size) w n t c0 c1 c2 c3) :
    Calls Try.prog 3 #[.agg #[c0, c1, c2, c3]] w fun e w' => e = .returned (.bool true) ∧ Below w.heap.size w w' := by
  obtain ⟨k0, k1, k2, k3, k4, k5, rfl, rfl, rfl, rfl⟩ := ht.shape
  have hbx := fun x : Obj => (Below.refl w.heap.size w).alloc (Nat.le_refl _) x
  have hc := hide (fun x => sz_any n t _ _ _ _ 1048576 (w.alloc x) (ht.up (hbx x)) (by omega) (by omega))
  by_cases hl : tot n t ≤ 1048576
  · have hle : left (tot n t) 1048576 = 1048576 - (tot n t : Int) := by unfold left; split <;> omega
    go_enter Try.func3, Try.ntmps3
    go_wp2_with fail
    refine ((unhide hc) _).mono ?_
    rintro e w1 ⟨rfl, hb1⟩
    rw [hle]
    obtain ⟨f0, f1, f2, f3⟩ := box4 w _ _ _ _ _ (hb1.mono (by simp))
    have hw1 : Below w.heap.size w w1 := (hbx _).trans (hb1.mono (by simp))
    have HT := hide ht
    have hnn : ¬ (1048576 : Int) - (tot n t : Int) < 0 := by omega
    clear ht
    go_wp2_with fail
    refine (to_any n t _ _ _ _ w1 ((unhide HT).up hw1) hl).mono ?_
    rintro e w2 ⟨d0, d1, d2, d3, rfl, hd, hb2⟩
    have hw2 := hw1.trans (hb2.mono hw1.size)
    obtain ⟨f0, f1, f2, f3⟩ := box4 w _ _ _ _ _ ((hb1.mono (by simp)).trans (hb2.mono (by have := hb1.size; simpa using this)))
    have HD := hide (sPack_any t _ _ _ _ w2 (hd.mono fun b hb => hb.2) hl)
    clear hd
    go_wp2_with fail
    refine (unhide HD).mono ?_
    rintro e w3 ⟨rfl, hb3⟩
    have hs1 : w.heap.size + 1 ≤ w1.heap.size := by have := hb1.size; simpa using this
    have hw3 := hw2.trans (hb3.mono hw2.size)
    have hB3 : Below (w.heap.size + 1) (w.alloc _) w3 := ((hb1.mono (by simp)).trans (hb2.mono hs1)).trans (hb3.mono (Nat.le_trans hs1 hb2.size))
    obtain ⟨f0, f1, f2, f3⟩ := box4 w _ _ _ _ _ hB3
    clear HD
    go_wp2_with fail
    refine (to_any n t _ _ _ _ w3 ((unhide HT).up hw3) hl).mono ?_
    rintro e w4 ⟨g0, g1, g2, g3, rfl, hg, hb4⟩
    have hw4 := hw3.trans (hb4.mono hw3.size)
    have hB4 := hB3.trans (hb4.mono (Nat.le_trans hs1 (Nat.le_trans hb2.size hb3.size)))
    obtain ⟨f0, f1, f2, f3⟩ := box4 w _ _ _ _ _ hB4
    have hbx4 := fun x : Obj => (Below.refl w4.heap.size w4).alloc (Nat.le_refl _) x
    have HG := hide (hg.mono fun b hb => hb.2 : TAt (Under w4.heap.size) w4 n t g0 g1 g2 g3)
    obtain ⟨_, _, _, _, _, _, rfl, rfl, rfl, rfl⟩ := hg.shape
    have HI := hide (fun x => iPack_any t _ _ _ _ (w4.alloc x) ((unhide HG).up (hbx4 x)))
    clear hg
    go_wp2_with fail
    refine ((unhide HI) _).mono ?_
    rintro e w5 ⟨rfl, hb5⟩
    have hw5 := hw4.trans ((hbx4 _).mono hw4.size |>.trans (hb5.mono (by have := hw4.size; simp; omega)))
    clear HI
    have hB5 := hb5.mono (show w4.heap.size + 1 ≤ _ by simp)
    obtain ⟨G0, G1, G2, G3⟩ := box4 w4 _ _ _ _ _ hB5
    have hs4 : w.heap.size + 1 ≤ w4.heap.size := Nat.le_trans hs1 (Nat.le_trans hb2.size (Nat.le_trans hb3.size hb4.size))
    have h45 : Below w4.heap.size w4 w5 := (hbx4 _).trans (hB5.mono (Nat.le_succ _))
    obtain ⟨F0, F1, F2, F3⟩ := box4 w _ _ _ _ _ (hB4.trans (h45.mono hs4))
    have h45d : Below w4.heap.size w4 w5.drew := h45.drew
    have hw5d : Below w.heap.size w w5.drew := hw5.drew
    have hB5d := hB5.drew
    have hle5 : w4.heap.size + 1 ≤ w5.drew.heap.size := by have := hB5.size; simp at this; exact this
    have HTd := hide ((unhide HT).up hw5d)
    go_wp2_with fail
    go_region_with (first
      | (go_at_call 6; refine (to_any n t _ _ _ _ _ (unhide HTd) hl).mono ?_; rintro e w6 ⟨e0, e1, e2, e3, rfl, he, hb6⟩; have HE := hide he; have H6 := hide hb6; obtain ⟨J0, J1, J2, J3⟩ := box4 w4 _ _ _ _ _ (hB5d.trans (hb6.mono hle5)); clear he hb6)
      | (go_at_call 8; refine (eq_any n t _ _ _ _ _ _ _ _ _ ((unhide HG).up (h45d.trans ((unhide H6).mono h45d.size))) ((unhide HE).mono fun b hb => hb.2)).mono ?_; rintro e w7 ⟨rfl, hb7⟩; have H7 := hide hb7; clear hb7))
    all_goals
      go_wp2_with fail
      go_ret
      have hx := hw5d.trans ((unhide H6).mono hw5d.size)
      exact ⟨rfl, hx.trans ((unhide H7).mono hx.size)⟩
  · have hle : left (tot n t) 1048576 < 0 := by unfold left; split <;> omega
    go_enter Try.func3, Try.ntmps3
    go_wp2_with fail
    refine ((unhide hc) _).mono ?_
    rintro e w1 ⟨rfl, hb1⟩
    have hw1 : Below w.heap.size w w1 := (hbx _).trans (hb1.mono (by simp))
    clear ht
    go_wp2_with fail
    go_ret
    exact ⟨rfl, hw1⟩

end Go.Proofs.Ytaggnncndbdmjaa
