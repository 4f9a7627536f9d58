/- The law of BitsOK: its own walk. -/
import Derived.Test.YthbdojbnoeilkaaDoorBhl
import Derived.Test.YthbdojbnoeilkaaDoorBok
import Derived.Test.YthbdojbnoeilkaaDoorBik
namespace Go.Proofs.YthbdojbnoeilkaaDoor
open Go.RowKit Go.Deep

set_option maxRecDepth 100000 in
set_option maxHeartbeats 1000000 in
theorem lawB1_any (n : Int) (s : ByteArray) (w : World) (hm : Masks 0 w) (hs : s.size ≤ 9223372036854775807) :
    Calls Tryd.prog 3 #[.agg #[.int .i64 n, .string s]] w fun e w' => e = .returned (.bool true) ∧ Below w.heap.size w w' := by
  have hbx := hide ((Below.refl w.heap.size w).alloc (Nat.le_refl _) (.cells #[.int .i64 n, .string s] 23))
  have hsz := hide (fun w => szB_any n s 1048576 w hs (by omega) (by omega))
  have Hm := hide hm
  clear hm
  by_cases hl : s.size ≤ 1048576
  · have hle : leftB s 1048576 = 1048576 - (s.size : Int) := if_pos (by omega)
    go_enter Tryd.func3, Tryd.ntmps3
    go_wp2_with fail
    refine (unhide hsz _).mono ?_
    rintro e w1 ⟨rfl, hb1⟩
    rw [hle]
    have hnn : ¬ (1048576 : Int) - (s.size : Int) < 0 := by omega
    have hB1 := hb1.mono (show w.heap.size + 1 ≤ _ by simp)
    obtain ⟨f0, f1⟩ := box2 w _ _ _ hB1
    have H1 := hide hB1
    clear hb1 hB1
    go_wp2_with fail
    refine (toB_any n s _).mono ?_
    rintro e w2 ⟨rfl, hb2⟩
    have hB2 := (unhide H1).trans (hb2.mono (by have := (unhide H1).size; simpa using this))
    obtain ⟨f0, f1⟩ := box2 w _ _ _ hB2
    have H2 := hide hB2
    clear hb2 hB2
    go_wp2_with fail
    refine (sOK_any n s _).mono ?_
    rintro e w3 ⟨rfl, hb3⟩
    have hB3 := (unhide H2).trans (hb3.mono (by have := (unhide H2).size; simpa using this))
    obtain ⟨f0, f1⟩ := box2 w _ _ _ hB3
    have H3 := hide hB3
    clear hb3 hB3
    go_wp2_with fail
    refine (toB_any n s _).mono ?_
    rintro e w4 ⟨rfl, hb4⟩
    have hB4 := (unhide H3).trans (hb4.mono (by have := (unhide H3).size; simpa using this))
    obtain ⟨f0, f1⟩ := box2 w _ _ _ hB4
    have H4 := hide hB4
    clear hb4 hB4
    go_wp2_with fail
    refine (iOK_any n s _ ((unhide Hm).keep ((unhide hbx).trans ((unhide H4).mono (by omega)))) hl).mono ?_
    rintro e w5 ⟨rfl, hb5⟩
    have hB5 := (unhide H4).trans (hb5.mono (by have := (unhide H4).size; simpa using this))
    obtain ⟨f0, f1⟩ := box2 w _ _ _ hB5
    have H5 := hide hB5
    clear hb5 hB5
    go_wp2_with fail
    go_ret
    exact ⟨rfl, (unhide hbx).trans ((unhide H5).mono (by omega))⟩
  · have hle : leftB s 1048576 = -1 := if_neg (by omega)
    go_enter Tryd.func3, Tryd.ntmps3
    go_wp2_with fail
    refine (unhide hsz _).mono ?_
    rintro e w1 ⟨rfl, hb1⟩
    rw [hle]
    have H1 := hide hb1
    clear hb1
    go_wp2_with fail
    go_ret
    exact ⟨rfl, (unhide hbx).trans ((unhide H1).mono (by simp))⟩

end Go.Proofs.YthbdojbnoeilkaaDoor
