/- What the closures that recover share. -/
import Derived.Test.YtaggnncndbdmjaaInw
import Derived.Defers
import Derived.Recover
namespace Go.Proofs.Ytaggnncndbdmjaa
open Go.RowKit

theorem ok_val {n : Nat} {t : Tm n} : okB n t = true ↔ valOK n t 0 1 := by
  unfold okB fitsB valOK
  simp only [Bool.and_eq_true, decide_eq_true_eq]
  constructor
  · rintro ⟨⟨h1, h2⟩, h3⟩; exact ⟨h3, by omega, by omega⟩
  · rintro ⟨h3, h1, h2⟩; exact ⟨⟨by omega, by omega⟩, h3⟩

theorem below_three (w : World) (x y z : Obj) : Below w.heap.size w (((w.alloc x).alloc y).alloc z) := (below_two w x y).alloc (by simp; omega) _

theorem four_1 (w : World) (x y z g : Obj) : ((((w.alloc x).alloc y).alloc z).alloc g).heap[w.heap.size + 1]? = some y := by
  rw [Below.heap_alloc _ _ _ (by simp), Below.heap_alloc _ _ _ (by simp)]
  have := heap_new (w.alloc x) y
  rwa [World.size_alloc] at this
theorem four_2 (w : World) (x y z g : Obj) : ((((w.alloc x).alloc y).alloc z).alloc g).heap[w.heap.size + 1 + 1]? = some z := by
  rw [Below.heap_alloc _ _ _ (by simp)]
  have := heap_new ((w.alloc x).alloc y) z
  rwa [World.size_alloc, World.size_alloc] at this

end Go.Proofs.Ytaggnncndbdmjaa
