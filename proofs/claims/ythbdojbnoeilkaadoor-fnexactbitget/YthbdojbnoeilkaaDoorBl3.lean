/- The law of BitGet: its own walk. -/
import Derived.Test.YthbdojbnoeilkaaDoorBg4
import Derived.Test.YthbdojbnoeilkaaDoorBhl
namespace Go.Proofs.YthbdojbnoeilkaaDoor
open Go.RowKit Go.Deep

theorem getAns_shape (n : Int) (s : ByteArray) (f k : Int) (sg li : Bool) : ∃ (A C : Int), getAns n s f k sg li = .tuple #[.int .i64 A, .int .i64 C] := by
  unfold getAns; split <;> exact ⟨_, _, rfl⟩

set_option maxRecDepth 100000 in
set_option maxHeartbeats 1000000 in
theorem lawB3_any (n : Int) (s : ByteArray) (f k : Int) (sg li : Bool) (w : World) (hm : Masks 0 w) (hs : s.size ≤ 9223372036854775807) (hf0 : -9223372036854775808 ≤ f) (hf1 : f ≤ 9223372036854775807) :
    Calls Tryd.prog 7 #[.agg #[.int .i64 n, .string s], .int .i64 f, .int .i64 k, .bool sg, .bool li] w fun e w' => e = .returned (.bool true) ∧ Below w.heap.size w w' := by
  have hbx := hide ((Below.refl w.heap.size w).alloc (Nat.le_refl _) (.cells #[.int .i64 n, .string s] 23))
  have hsz := hide (fun w => szB_any n s 1048576 w hs (by omega) (by omega))
  have Hm := hide hm
  clear hm
  by_cases hl : s.size ≤ 1048576
  · have hle : leftB s 1048576 = 1048576 - (s.size : Int) := if_pos (by omega)
    obtain ⟨A, C, hsh⟩ := getAns_shape n s f k sg li
    have h1 := fun w => sBitGet_any n s f k sg li w
    have h2 := fun w hm => iBitGet_any n s f k sg li w hm hl hf0 hf1
    simp only [hsh] at h1 h2
    have H1 := hide h1
    have H2 := hide h2
    clear h1 h2 hsh
    go_enter Tryd.func7, Tryd.ntmps7
    go_wp2_with fail
    refine (unhide hsz _).mono ?_
    rintro e w1 ⟨rfl, hb1⟩
    rw [hle]
    have hnn : ¬ (1048576 : Int) - (s.size : Int) < 0 := by omega
    have hB1 := hb1.mono (show w.heap.size + 1 ≤ _ by simp)
    obtain ⟨f0, f1⟩ := box2 w _ _ _ hB1
    have K1 := hide hB1
    clear hb1 hB1
    go_wp2_with fail
    refine (toB_any n s _).mono ?_
    rintro e w2 ⟨rfl, hb2⟩
    have hB2 := (unhide K1).trans (hb2.mono (by have := (unhide K1).size; simpa using this))
    obtain ⟨f0, f1⟩ := box2 w _ _ _ hB2
    have K2 := hide hB2
    clear hb2 hB2
    go_wp2_with fail
    refine (unhide H1 _).mono ?_
    rintro e w3 ⟨rfl, hb3⟩
    have hB3 := (unhide K2).trans (hb3.mono (by have := (unhide K2).size; simpa using this))
    obtain ⟨f0, f1⟩ := box2 w _ _ _ hB3
    have K3 := hide hB3
    clear hb3 hB3
    go_wp2_with fail
    refine (toB_any n s _).mono ?_
    rintro e w4 ⟨rfl, hb4⟩
    have hB4 := (unhide K3).trans (hb4.mono (by have := (unhide K3).size; simpa using this))
    obtain ⟨f0, f1⟩ := box2 w _ _ _ hB4
    have K4 := hide hB4
    clear hb4 hB4
    go_wp2_with fail
    refine (unhide H2 _ ((unhide Hm).keep ((unhide hbx).trans ((unhide K4).mono (by omega))))).mono ?_
    rintro e w5 ⟨rfl, hb5⟩
    have hB5 := (unhide K4).trans (hb5.mono (by have := (unhide K4).size; simpa using this))
    have K5 := hide hB5
    clear hb5 hB5
    go_wp2_with fail
    go_ret
    exact ⟨rfl, (unhide hbx).trans ((unhide K5).mono (by omega))⟩
  · have hle : leftB s 1048576 = -1 := if_neg (by omega)
    go_enter Tryd.func7, Tryd.ntmps7
    go_wp2_with fail
    refine (unhide hsz _).mono ?_
    rintro e w1 ⟨rfl, hb1⟩
    rw [hle]
    have H1 := hide hb1
    clear hb1
    go_wp2_with fail
    go_ret
    exact ⟨rfl, (unhide hbx).trans ((unhide H1).mono (by simp))⟩

end Go.Proofs.YthbdojbnoeilkaaDoor
