/- spec's faces: TermOK, TermSize, TermCompare. -/
import Derived.Test.YtaggnncndbdmjaaRgt
namespace Go.Proofs.Ytaggnncndbdmjaa
open Go.RowKit

theorem right_any : ∀ n, RightSaid n
  | 0 => fun t => t.elim
  | n + 1 => right_of (right_any n)

/-- Right, and not too large or too deep. -/
def okB (n : Nat) (t : Tm n) : Bool := fitsB n t && rightB n t

set_option maxHeartbeats 1000000 in
theorem sOK_any {n : Nat} (t : Tm n) (c0 c1 c2 c3 : Value) (w : World) (ht : TAt (Under w.heap.size) w n t c0 c1 c2 c3) :
    Calls Try.prog 10 #[.agg #[c0, c1, c2, c3]] w fun e w' => e = .returned (.bool (okB n t)) ∧ Below w.heap.size w w' := by
  obtain ⟨k0, k1, k2, k3, k4, k5, rfl, rfl, rfl, rfl⟩ := ht.shape
  have hbx := fun x : Obj => (Below.refl w.heap.size w).alloc (Nat.le_refl _) x
  have hc := hide (fun x => fits_any t _ _ _ _ (w.alloc x) (ht.up (hbx x)))
  by_cases hf : fitsB n t = true
  · rw [hf] at hc
    go_enter Try.func10, Try.ntmps10
    go_wp2_with fail
    refine ((unhide hc) _).mono ?_
    rintro e w1 ⟨rfl, hb⟩
    have hblk := hb.block w.heap.size (by simp)
    rw [heap_new] at hblk
    have hcell := cell_of_heap hblk
    clear hblk
    have hb2 := (hbx _).trans (hb.mono (by simp))
    have hr := hide (right_any n t _ _ _ _ w1 (ht.up hb2))
    go_wp2_with (go_at_call 19; refine (unhide hr).mono ?_; rintro e w' ⟨rfl, hb3⟩)
    go_ret
    exact ⟨ret_bool (by unfold okB; rw [hf]; rfl), hb2.trans (hb3.mono hb2.size)⟩
  · have hf : fitsB n t = false := by simpa using hf
    rw [hf] at hc
    go_enter Try.func10, Try.ntmps10
    go_wp2_with (go_at_call 18; refine ((unhide hc) _).mono ?_; rintro e w1 ⟨rfl, hb⟩)
    go_ret
    exact ⟨ret_bool (by unfold okB; rw [hf]; rfl), (hbx _).trans (hb.mono (by simp))⟩

/-- What TermSize answers: the number of terms, or ErrBad. -/
def sizeAns (n : Nat) (t : Tm n) : Int := if okB n t = true then siz n t else 0
def codeAns (n : Nat) (t : Tm n) : Int := if okB n t = true then 0 else 1
theorem ok_fits {n : Nat} {t : Tm n} (h : okB n t = true) : siz n t ≤ 2000 ∧ dep n t ≤ 100 := by
  unfold okB fitsB at h
  simp only [Bool.and_eq_true, decide_eq_true_eq] at h
  exact h.1

/-- What TermCompare answers. -/
def cmpAns (n m : Nat) (t : Tm n) (u : Tm m) : Int := if okB n t = true ∧ okB m u = true then cmpT n m t u else 0
def cmpCode (n m : Nat) (t : Tm n) (u : Tm m) : Int := if okB n t = true ∧ okB m u = true then 0 else 1

end Go.Proofs.Ytaggnncndbdmjaa
