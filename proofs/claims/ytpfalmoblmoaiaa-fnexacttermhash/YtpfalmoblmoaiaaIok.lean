/- impl.TermOK. -/
import Derived.Test.YtpfalmoblmoaiaaRec
namespace Go.Proofs.Ytpfalmoblmoaiaa
open Go.RowKit

set_option maxRecDepth 20000 in
set_option maxHeartbeats 1000000 in
theorem iOK_any {n : Nat} (t : Tm n) (c0 c1 c2 c3 : Value) (w : World) (ht : TAt (Under w.heap.size) w n t c0 c1 c2 c3) :
    Calls Try.prog 16 #[.agg #[c0, c1, c2, c3]] w fun e w' => e = .returned (.bool (okB n t)) ∧ Below w.heap.size w w' := by
  obtain ⟨k0, k1, k2, k3, k4, k5, rfl, rfl, rfl, rfl⟩ := ht.shape
  have hbx := fun x : Obj => (Below.refl w.heap.size w).alloc (Nat.le_refl _) x
  have hc := hide (fun x => iSize_any t _ _ _ _ (w.alloc x) (ht.up (hbx x)))
  by_cases hf : okB n t = true
  · have hb : codeAns n t = 0 := by unfold codeAns; rw [if_pos hf]
    rw [hb] at hc
    go_enter Try.func16, Try.ntmps16
    go_wp2_with fail
    refine ((unhide hc) _).mono ?_
    rintro e w1 ⟨rfl, hb1⟩
    have HF := hide hf
    clear hf
    go_wp2_with fail
    go_ret
    exact ⟨ret_bool (by rw [unhide HF]), (hbx _).trans (hb1.mono (by simp))⟩
  · have hf' : okB n t = false := by simpa using hf
    have hb : codeAns n t = 1 := by unfold codeAns; rw [hf']; simp
    rw [hb] at hc
    go_enter Try.func16, Try.ntmps16
    go_wp2_with fail
    refine ((unhide hc) _).mono ?_
    rintro e w1 ⟨rfl, hb1⟩
    have HF := hide hf'
    clear hf hf'
    go_wp2_with fail
    go_ret
    exact ⟨ret_bool (by rw [unhide HF]), (hbx _).trans (hb1.mono (by simp))⟩

end Go.Proofs.Ytpfalmoblmoaiaa
