/- A term's four cells, in a box of its own. -/
import Derived.Test.YtaggnncndbdmjaaBas
namespace Go.Proofs.Ytaggnncndbdmjaa
open Go.RowKit

theorem box4 (w : World) (a b c d : Value) (e : TypeId) {w' : World} (h : Below (w.heap.size + 1) (w.alloc (.cells #[a, b, c, d] e)) w') :
    w'.cell? ⟨w.heap.size, 0, none⟩ = some a ∧ w'.cell? ⟨w.heap.size, 1, none⟩ = some b ∧ w'.cell? ⟨w.heap.size, 2, none⟩ = some c ∧ w'.cell? ⟨w.heap.size, 3, none⟩ = some d := by
  have hh := (h.block w.heap.size (by omega)).trans (heap_new _ _)
  exact ⟨cell_of_heap hh 0, cell_of_heap hh 1, cell_of_heap hh 2, cell_of_heap hh 3⟩

end Go.Proofs.Ytaggnncndbdmjaa
