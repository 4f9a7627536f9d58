/- impl's way inward: the counter (passed), the worlds in which all but the counter's block is kept. -/
import Derived.Test.YtaggnncndbdmjaaFld
namespace Go.Proofs.Ytaggnncndbdmjaa
open Go.RowKit

/-- All blocks that were there are as they were, but block g. -/
structure But (g : Nat) (w w' : World) : Prop where
  os : w'.os = w.os
  tape : w'.tape = w.tape
  output : w'.output = w.output
  size : w.heap.size ≤ w'.heap.size
  block : ∀ k, k < w.heap.size → k ≠ g → w'.heap[k]? = w.heap[k]?

theorem But.refl (g : Nat) (w : World) : But g w w := ⟨rfl, rfl, rfl, Nat.le_refl _, fun _ _ _ => rfl⟩
theorem But.trans {g : Nat} {a b c : World} (h : But g a b) (k : But g b c) : But g a c :=
  ⟨k.os.trans h.os, k.tape.trans h.tape, k.output.trans h.output, Nat.le_trans h.size k.size, fun i hi hg => (k.block i (Nat.lt_of_lt_of_le hi h.size) hg).trans (h.block i hi hg)⟩
theorem But.below {g : Nat} {w w' : World} (h : Below w.heap.size w w') : But g w w' := ⟨h.os, h.tape, h.output, h.size, fun k hk _ => h.block k hk⟩
theorem But.alloc {g : Nat} {a w : World} (h : But g a w) (o : Obj) : But g a (w.alloc o) := h.trans (But.below ((Below.refl _ _).alloc (Nat.le_refl _) _))
theorem But.set {g : Nat} {a w : World} (h : But g a w) (o : Nat) (v : Value) : But g a (w.setCell ⟨g, o, none⟩ v) :=
  h.trans ⟨rfl, rfl, rfl, by simp, fun k _ hg => Below.heap_setCell _ _ _ _ hg⟩
theorem But.grown {g R : Nat} {a w w' : World} (h : But g a w) (hg : w.grownBy w' (some R)) (hR : a.heap.size ≤ R) : But g a w' :=
  ⟨hg.os.trans h.os, hg.tape.trans h.tape, hg.output.trans h.output, Nat.le_trans h.size hg.size, fun k hk hn => (hg.block k (Nat.lt_of_lt_of_le hk h.size) (by intro e; injection e with e; omega)).trans (h.block k hk hn)⟩
/-- Where block g is new, all that was there is as it was. -/
theorem But.toBelow {g : Nat} {w w' : World} (h : But g w w') {B : Nat} (hB : B ≤ g) (hs : B ≤ w.heap.size) : Below B w w' := ⟨h.os, h.tape, h.output, h.size, fun k hk => h.block k (by omega) (by omega)⟩

/-- Block g is the counter, at c. -/
def Ctr (g c : Nat) (w : World) : Prop := w.heap[g]? = some (.cells #[.int .i64 c] 59 (0, 0))
theorem Ctr.lt {g c : Nat} {w : World} (h : Ctr g c w) : g < w.heap.size := by
  rcases Nat.lt_or_ge g w.heap.size with h1 | h1
  · exact h1
  · rw [Ctr, Array.getElem?_eq_none h1] at h; cases h
theorem Ctr.cell {g c : Nat} {w : World} (h : Ctr g c w) : w.cell? ⟨g, 0, none⟩ = some (.int .i64 c) := cell_of_heap h 0
theorem Ctr.frozen {g c : Nat} {w : World} (h : Ctr g c w) : w.frozen? ⟨g, 0, none⟩ = false := frozen_of_heap h 0
theorem Ctr.set {g c : Nat} {w : World} (h : Ctr g c w) (c' : Nat) : Ctr g c' (w.setCell ⟨g, 0, none⟩ (.int .i64 c')) := by
  have := Row.setHeap h 0 (.int .i64 c')
  exact this
theorem Ctr.keep {g c : Nat} {w w' : World} (h : Ctr g c w) (hb : w'.heap[g]? = w.heap[g]?) : Ctr g c w' := hb.trans h
theorem Ctr.below {g c : Nat} {w w' : World} (h : Ctr g c w) (hb : Below w.heap.size w w') : Ctr g c w' := h.keep (hb.block g h.lt)

set_option maxHeartbeats 1000000 in
theorem passed_any (g c d : Nat) (w : World) (hc : Ctr g c w) (h1 : c ≤ 2000) (h2 : d ≤ 200) :
    Calls Try.prog 28 #[.pointer (some ⟨g, 0, none⟩), .int .i64 d] w
      fun e w' => e = .returned (.bool (decide (2000 < c + 1) || decide (100 < d))) ∧ w' = w.setCell ⟨g, 0, none⟩ (.int .i64 (c + 1 : Nat)) := by
  have hcell := hc.cell
  have hfr := hc.frozen
  have hcell2 := (hc.set (c + 1)).cell
  have hcast : ((c + 1 : Nat) : Int) = (c : Int) + 1 := by omega
  rw [hcast] at hcell2 ⊢
  by_cases h3 : 2000 < c + 1
  · have h3' : (2000 : Int) < (c : Int) + 1 := by omega
    go_enter Try.func28, Try.ntmps28
    go_wp2_with fail
    go_ret
    exact ⟨ret_bool (by simp; omega), rfl⟩
  · have h3' : ¬ (2000 : Int) < (c : Int) + 1 := by omega
    by_cases h4 : 100 < d
    all_goals
      go_enter Try.func28, Try.ntmps28
      go_wp2_with fail
      go_ret
      exact ⟨ret_bool (by rw [Bool.eq_iff_iff]; simp; omega), rfl⟩

theorem owns_keep {w w' : World} {base : Nat} {e : TypeId} {size R k cap : Nat} {xs : List Value} (h : w.ownsRow base e size (.slice (some ⟨R, 0, none⟩) k cap) k xs) (hb : w'.heap[R]? = w.heap[R]?) :
    w'.ownsRow base e size (.slice (some ⟨R, 0, none⟩) k cap) k xs := by
  obtain ⟨h1, h2⟩ := h
  refine ⟨h1, ?_⟩
  rcases h2 with ⟨h2, _⟩ | ⟨g, cap', cur, hv, hg, hh, r⟩
  · simp at h2
  · have : g = R := by simp at hv; exact hv.1.symm
    subst this
    exact Or.inr ⟨g, cap', cur, hv, hg, hb.trans hh, r⟩
theorem owns_lt {w : World} {base : Nat} {e : TypeId} {size R k cap : Nat} {xs : List Value} (h : w.ownsRow base e size (.slice (some ⟨R, 0, none⟩) k cap) k xs) : R < w.heap.size := by
  obtain ⟨h1, h2⟩ := h
  rcases h2 with ⟨h2, _⟩ | ⟨g, cap', cur, hv, hg, hh, r⟩
  · simp at h2
  · have : g = R := by simp at hv; exact hv.1.symm
    subst this
    rcases Nat.lt_or_ge g w.heap.size with h | h
    · exact h
    · rw [Array.getElem?_eq_none h] at hh; cases hh
theorem owns_cell {w : World} {base : Nat} {e : TypeId} {R k cap : Nat} {xs : List Value} (h : w.ownsRow base e 1 (.slice (some ⟨R, 0, none⟩) k cap) k xs) {j : Nat} (hj : j < xs.length) : w.cell? ⟨R, j, none⟩ = some xs[j] := by
  obtain ⟨h1, h2⟩ := h
  rcases h2 with ⟨h2, _⟩ | ⟨g, cap', cur, hv, hg, hh, hn, _, hcs, htk⟩
  · simp at h2
  · have hR : g = R := by simp at hv; exact hv.1.symm
    subst hR
    rw [cell_of_heap hh]
    have h3 : cur.toList[j]? = xs[j]? := by
      rw [← htk, List.getElem?_take_of_lt (by omega)]
    rw [← Array.getElem?_toList, h3, List.getElem?_eq_getElem hj]

end Go.Proofs.Ytaggnncndbdmjaa
