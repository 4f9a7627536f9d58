/- impl's writer: what it holds, and what is kept beside it. -/
import Derived.Test.YtaggnncndbdmjaaPk0
import Derived.Test.YtaggnncndbdmjaaBas
import Derived.Deep.OwnRows
import Derived.Lib.AppendStr
namespace Go.Proofs.Ytaggnncndbdmjaa
open Go.RowKit

/-- The blocks of K are as they were; the streams too; no block has gone. -/
structure Stay (K : Nat → Prop) (w w' : World) : Prop where
  os : w'.os = w.os
  tape : w'.tape = w.tape
  output : w'.output = w.output
  size : w.heap.size ≤ w'.heap.size
  block : ∀ k, K k → w'.heap[k]? = w.heap[k]?
theorem Stay.refl (K : Nat → Prop) (w : World) : Stay K w w := ⟨rfl, rfl, rfl, Nat.le_refl _, fun _ _ => rfl⟩
theorem Stay.trans {K : Nat → Prop} {a b c : World} (h : Stay K a b) (k : Stay K b c) : Stay K a c :=
  ⟨k.os.trans h.os, k.tape.trans h.tape, k.output.trans h.output, Nat.le_trans h.size k.size, fun i hi => (k.block i hi).trans (h.block i hi)⟩
theorem Stay.mono {K K' : Nat → Prop} {w w' : World} (h : Stay K w w') (hK : ∀ k, K' k → K k) : Stay K' w w' := ⟨h.os, h.tape, h.output, h.size, fun k hk => h.block k (hK k hk)⟩
theorem Stay.drew {K : Nat → Prop} {a w : World} (h : Stay K a w) : Stay K a w.drew := ⟨h.os, h.tape, h.output, h.size, h.block⟩
theorem Stay.alloc {K : Nat → Prop} {a w : World} (h : Stay K a w) (hK : ∀ k, K k → k < w.heap.size) (o : Obj) : Stay K a (w.alloc o) :=
  h.trans ⟨rfl, rfl, rfl, by simp, fun k hk => Below.heap_alloc _ _ _ (hK k hk)⟩
theorem Stay.setCell {K : Nat → Prop} {a w : World} (h : Stay K a w) {p : Addr} (hp : ¬ K p.block) (u : Value) : Stay K a (w.setCell p u) :=
  h.trans ⟨rfl, rfl, rfl, by simp [World.setCell], fun k hk => Below.heap_setCell _ _ _ _ (fun e => hp (e ▸ hk))⟩
theorem Stay.grown {K : Nat → Prop} {a w w' : World} {row : Option Nat} (h : Stay K a w) (hg : w.grownBy w' row) (hK : ∀ k, K k → k < w.heap.size) (hr : ∀ g, row = some g → ¬ K g) : Stay K a w' :=
  h.trans ⟨hg.os, hg.tape, hg.output, hg.size, fun k hk => hg.block k (hK k hk) fun e => hr k e.symm hk⟩
theorem Stay.below {K : Nat → Prop} {w w' : World} (h : Below w.heap.size w w') (hK : ∀ k, K k → k < w.heap.size) : Stay K w w' := ⟨h.os, h.tape, h.output, h.size, fun k hk => h.block k (hK k hk)⟩
theorem Stay.toBelow {K : Nat → Prop} {B : Nat} {w w' : World} (h : Stay K w w') (hK : ∀ k, k < B → K k) : Below B w w' := ⟨h.os, h.tape, h.output, h.size, fun k hk => h.block k (hK k hk)⟩
theorem Stay.cell {K : Nat → Prop} {w w' : World} (h : Stay K w w') {k : Nat} (hk : K k) (o : Nat) : w'.cell? ⟨k, o, none⟩ = w.cell? ⟨k, o, none⟩ := World.cell?_of_block (w := w) (h.block k hk)

/-- The writer in block b: its limit, and the bytes that are there; its row lies in no block of K. -/
structure Wri (K : Nat → Prop) (b most : Nat) (xs : List Int) (w : World) : Prop where
  lt : ∀ k, K k → k < w.heap.size
  self : ¬ K b
  few : xs.length ≤ most
  row : ∃ a cap, w.heap[b]? = some (.cells #[.int .i64 most, .slice a xs.length cap] 44 (0, 0)) ∧ w.ownsRow (b + 1) 5 1 (.slice a xs.length cap) xs.length (u8c xs) ∧ ∀ g, (Value.slice a xs.length cap).ownBlock = some g → ¬ K g

theorem Wri.b_lt {K : Nat → Prop} {b most : Nat} {xs : List Int} {w : World} (h : Wri K b most xs w) : b < w.heap.size := by
  obtain ⟨a, cap, hb, _⟩ := h.row
  exact (Array.getElem?_eq_some_iff.1 hb).1
theorem Wri.mono {K K' : Nat → Prop} {b most : Nat} {xs : List Int} {w : World} (h : Wri K b most xs w) (hK : ∀ k, K' k → K k) : Wri K' b most xs w := by
  obtain ⟨a, cap, hb, ho, hs⟩ := h.row
  exact ⟨fun k hk => h.lt k (hK k hk), fun hk => h.self (hK b hk), h.few, a, cap, hb, ho, fun g hg hk => hs g hg (hK g hk)⟩
/-- Behind a step that makes new memory alone; what is new may be kept from then on. -/
theorem Wri.more {K K' : Nat → Prop} {b most : Nat} {xs : List Int} {w w' : World} (h : Wri K b most xs w) (hb : Below w.heap.size w w') (hK : ∀ k, K' k → K k ∨ (w.heap.size ≤ k ∧ k < w'.heap.size)) : Wri K' b most xs w' := by
  have hbl := h.b_lt
  obtain ⟨a, cap, hh, ho, hs⟩ := h.row
  refine ⟨fun k hk => ?_, fun hk => ?_, h.few, a, cap, (hb.block b hbl).trans hh, ?_, fun g hg hk => ?_⟩
  · rcases hK k hk with h1 | h1
    · exact Nat.lt_of_lt_of_le (h.lt k h1) hb.size
    · exact h1.2
  · rcases hK b hk with h1 | h1
    · exact h.self h1
    · omega
  · refine ⟨ho.1, ?_⟩
    rcases ho.2 with hn | ⟨g, cap', cur, hv, hbg, hg, rest⟩
    · exact .inl hn
    · exact .inr ⟨g, cap', cur, hv, hbg, (hb.block g (Array.getElem?_eq_some_iff.1 hg).1).trans hg, rest⟩
  · have hlt := (ho.lt g hg).2
    rcases hK g hk with h1 | h1
    · exact hs g hg h1
    · omega
theorem Wri.same {K : Nat → Prop} {b most : Nat} {xs : List Int} {w w' : World} (h : Wri K b most xs w) (hb : Below w.heap.size w w') : Wri K b most xs w' := h.more hb fun _ hk => .inl hk

/-- What ends a walk that writes too much. -/
def fullV : Value := .iface 40 (.agg #[.int .i64 3, .int .i64 0])
def fullE : Ending := .panicked [{ v := fullV, recovered := false }]

/-- Behind writing ys: they are there, or the walk has ended, because they are too many. -/
def WEnd (K : Nat → Prop) (b most : Nat) (xs ys : List Int) (w : World) (e : Ending) (w' : World) : Prop :=
  Stay K w w' ∧ ((xs.length + ys.length ≤ most ∧ e = .returned (.tuple #[]) ∧ Wri K b most (xs ++ ys) w') ∨ (most < xs.length + ys.length ∧ e = fullE))

end Go.Proofs.Ytaggnncndbdmjaa
