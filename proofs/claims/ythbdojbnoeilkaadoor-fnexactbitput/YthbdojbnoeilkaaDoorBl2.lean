/- The law of BitPut: its own walk. -/
import Derived.Test.YthbdojbnoeilkaaDoorBp4
import Derived.Test.YthbdojbnoeilkaaDoorBhl
namespace Go.Proofs.YthbdojbnoeilkaaDoor
open Go.RowKit Go.Deep

theorem putAns_shape (v n : Int) (li : Bool) : ∃ (A : Int) (S : ByteArray) (C : Int), putAns v n li = .tuple #[.agg #[.int .i64 A, .string S], .int .i64 C] := by
  unfold putAns; split <;> exact ⟨_, _, _, rfl⟩
theorem sameB_self (n : Int) (s : ByteArray) : sameB n n s s = true := by unfold sameB; simp

set_option maxRecDepth 100000 in
theorem lawB2_any (v n : Int) (li : Bool) (w : World) (hm : Masks 0 w) :
    Calls Tryd.prog 6 #[.int .i64 v, .int .i64 n, .bool li] w fun e w' => e = .returned (.bool true) ∧ Below w.heap.size w w' := by
  obtain ⟨A, S, C, hsh⟩ := putAns_shape v n li
  have h1 := sBitPut_any v n li w
  have h2 := fun w hm => iBitPut_any v n li w hm
  rw [hsh] at h1
  simp only [hsh] at h2
  have H1 := hide h1
  have H2 := hide h2
  have Hm := hide hm
  clear h1 h2 hm hsh
  go_enter Tryd.func6, Tryd.ntmps6
  go_wp2_with fail
  refine (unhide H1).mono ?_
  rintro e w1 ⟨rfl, hb1⟩
  have hs1 := hb1.size
  have hba := hb1.alloc hs1 (.cells #[.int .i64 A, .string S] 26)
  have hbox := fun w' h => box2 w1 (.int .i64 A) (.string S) 26 (w' := w') h
  have HA := hide hba
  have HX := hide hbox
  clear hb1 hba hbox
  go_wp2_with fail
  refine (unhide H2 _ ((unhide Hm).keep (unhide HA))).mono ?_
  rintro e w2 ⟨rfl, hb2⟩
  have hB2 := hb2.mono (show w1.heap.size + 1 ≤ _ by simp)
  obtain ⟨f0, f1⟩ := unhide HX w2 hB2
  have hs2 : w1.heap.size < w2.heap.size := by have := hB2.size; simp at this; omega
  have H3 := hide hB2
  have hc2 := fun w' h => box2 w2 (.int .i64 A) (.string S) 26 (w' := w') h
  have HX2 := hide hc2
  clear hb2 hB2 hc2
  go_wp2_with fail
  refine (eqB_any A A S S _).mono ?_
  rintro e w3 ⟨rfl, hb3⟩
  rw [sameB_self]
  have hB3 := hb3.mono (show w2.heap.size + 1 ≤ _ by simp)
  have h23 : Below w2.heap.size w2 w3 := ((Below.refl w2.heap.size w2).alloc (Nat.le_refl _) _).trans (hB3.mono (by omega))
  have hfin : Below w.heap.size w w3 := (unhide HA).trans (((unhide H3).mono (show w.heap.size ≤ _ by omega)).trans (h23.mono (by omega)))
  have HF := hide hfin
  clear hb3 hB3 h23 hfin
  go_wp2_with fail
  go_ret
  exact ⟨rfl, unhide HF⟩

end Go.Proofs.YthbdojbnoeilkaaDoor
