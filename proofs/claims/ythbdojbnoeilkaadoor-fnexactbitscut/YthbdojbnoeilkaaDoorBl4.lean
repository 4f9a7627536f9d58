/- The law of BitsCut: its own walk. -/
import Derived.Test.YthbdojbnoeilkaaDoorBc3
import Derived.Test.YthbdojbnoeilkaaDoorBhl
namespace Go.Proofs.YthbdojbnoeilkaaDoor
open Go.RowKit Go.Deep

theorem cutAns_shape (n : Int) (s : ByteArray) (f k : Int) : ∃ (A : Int) (S : ByteArray) (C : Int), cutAns n s f k = .tuple #[.agg #[.int .i64 A, .string S], .int .i64 C] := by
  unfold cutAns; split <;> exact ⟨_, _, _, rfl⟩
theorem sameB_self' (n : Int) (s : ByteArray) : sameB n n s s = true := by unfold sameB; simp

set_option maxRecDepth 100000 in
set_option maxHeartbeats 1000000 in
theorem lawB4_any (n : Int) (s : ByteArray) (f k : Int) (w : World) (hm : Masks 0 w) (hs : s.size ≤ 9223372036854775807) (hf0 : -9223372036854775808 ≤ f) (hf1 : f ≤ 9223372036854775807) :
    Calls Tryd.prog 5 #[.agg #[.int .i64 n, .string s], .int .i64 f, .int .i64 k] w fun e w' => e = .returned (.bool true) ∧ Below w.heap.size w w' := by
  have hbx := hide ((Below.refl w.heap.size w).alloc (Nat.le_refl _) (.cells #[.int .i64 n, .string s] 23))
  have hsz := hide (fun w => szB_any n s 1048576 w hs (by omega) (by omega))
  have Hm := hide hm
  clear hm
  by_cases hl : s.size ≤ 1048576
  · have hle : leftB s 1048576 = 1048576 - (s.size : Int) := if_pos (by omega)
    obtain ⟨A, S, C, hsh⟩ := cutAns_shape n s f k
    have h1 := fun w => sBitsCut_any n s f k w
    have h2 := fun w hm => iBitsCut_any n s f k w hm hl hf0 hf1
    simp only [hsh] at h1 h2
    have H1 := hide h1
    have H2 := hide h2
    clear h1 h2 hsh
    go_enter Tryd.func5, Tryd.ntmps5
    go_wp2_with fail
    refine (unhide hsz _).mono ?_
    rintro e w1 ⟨rfl, hb1⟩
    rw [hle]
    have hnn : ¬ (1048576 : Int) - (s.size : Int) < 0 := by omega
    have hB1 := hb1.mono (show w.heap.size + 1 ≤ _ by simp)
    obtain ⟨f0, f1⟩ := box2 w _ _ _ hB1
    have K1 := hide hB1
    clear hb1 hB1
    go_wp2_with fail
    refine (toB_any n s _).mono ?_
    rintro e w2 ⟨rfl, hb2⟩
    have hB2 := (unhide K1).trans (hb2.mono (by have := (unhide K1).size; simpa using this))
    obtain ⟨f0, f1⟩ := box2 w _ _ _ hB2
    have K2 := hide hB2
    clear hb2 hB2
    go_wp2_with fail
    refine (unhide H1 _).mono ?_
    rintro e w3 ⟨rfl, hb3⟩
    have hB3 := (unhide K2).trans (hb3.mono (by have := (unhide K2).size; simpa using this))
    obtain ⟨f0, f1⟩ := box2 w _ _ _ hB3
    have hs3 : w.heap.size < w3.heap.size := by have := hB3.size; simp at this; omega
    have hB3a := hB3.alloc (by omega) (.cells #[.int .i64 A, .string S] 26)
    have hbox := fun w' h => box2 w3 (.int .i64 A) (.string S) 26 (w' := w') h
    have HX := hide hbox
    have K3 := hide hB3a
    clear hb3 hB3 hB3a hbox
    go_wp2_with fail
    refine (toB_any n s _).mono ?_
    rintro e w4 ⟨rfl, hb4⟩
    have hA4 := hb4.mono (show w3.heap.size + 1 ≤ _ by simp)
    have hB4 := (unhide K3).trans (hb4.mono (by have := (unhide K3).size; simpa using this))
    have KA4 := hide hA4
    have K4 := hide hB4
    clear hb4 hB4 hA4 f0 f1
    go_wp2_with fail
    refine (unhide H2 _ ((unhide Hm).keep ((unhide hbx).trans ((unhide K4).mono (by omega))))).mono ?_
    rintro e w5 ⟨rfl, hb5⟩
    have hA5 := (unhide KA4).trans (hb5.mono (by have := (unhide KA4).size; simpa using this))
    have hB5 := (unhide K4).trans (hb5.mono (by have := (unhide K4).size; simp at this; omega))
    obtain ⟨g0, g1⟩ := unhide HX w5 hA5
    have hs5 : w3.heap.size < w5.heap.size := by have := hA5.size; simp at this; omega
    have K5 := hide hB5
    clear hb5 hB5 hA5
    go_wp2_with fail
    refine (eqB_any A A S S _).mono ?_
    rintro e w6 ⟨rfl, hb6⟩
    rw [sameB_self']
    have h56 : Below w5.heap.size w5 w6 := ((Below.refl w5.heap.size w5).alloc (Nat.le_refl _) _).trans (hb6.mono (by simp))
    have hfin : Below w.heap.size w w6 := (unhide hbx).trans (((unhide K5).mono (show w.heap.size ≤ _ by omega)).trans (h56.mono (by omega)))
    have HFin := hide hfin
    clear hb6 h56 hfin
    go_wp2_with fail
    go_ret
    exact ⟨rfl, unhide HFin⟩
  · have hle : leftB s 1048576 = -1 := if_neg (by omega)
    go_enter Tryd.func5, Tryd.ntmps5
    go_wp2_with fail
    refine (unhide hsz _).mono ?_
    rintro e w1 ⟨rfl, hb1⟩
    rw [hle]
    have H1 := hide hb1
    clear hb1
    go_wp2_with fail
    go_ret
    exact ⟨rfl, (unhide hbx).trans ((unhide H1).mono (by simp))⟩

end Go.Proofs.YthbdojbnoeilkaaDoor
