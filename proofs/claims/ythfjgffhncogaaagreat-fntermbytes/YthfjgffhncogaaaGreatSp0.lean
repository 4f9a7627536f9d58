/- spec's l01Pack: what is known while a term's bytes are appended. -/
import Derived.Test.YthfjgffhncogaaaGreatQ18
import Derived.Test.YthfjgffhncogaaaGreatQ19
import Derived.Deep.DeepCutAuto
namespace Go.Proofs.YthfjgffhncogaaaGreat
open Go.RowKit Go.Deep

/-- The term's box b is as it was, nothing that was there has turned but the row v0; the row v holds the bytes xs, and is v0's or a new one. -/
structure Sp (B b : Nat) (arr : Array Value) (w : World) (v0 v : Value) (n : Nat) (xs : List Int) (W : World) : Prop where
  hb : b = w.heap.size
  hB : B ≤ b
  l0 : ∀ g, v0.ownBlock = some g → B ≤ g ∧ g < b
  blk : W.heap[b]? = some (.cells arr 26 (0, 0))
  gr : w.grownBy W v0.ownBlock
  li : ∀ g, v.ownBlock = some g → v0.ownBlock = some g ∨ w.heap.size ≤ g
  own : W.ownsRow B 5 1 v n (u8c xs)
  ne : v.ownBlock ≠ some b

section
variable {B b n m : Nat} {arr : Array Value} {w W W' : World} {v0 v v' : Value} {xs ys : List Int}

theorem Sp.lt (h : Sp B b arr w v0 v n xs W) : b < W.heap.size := (Array.getElem?_eq_some_iff.1 h.blk).1
theorem Sp.base (h : Sp B b arr w v0 v n xs W) : B ≤ W.heap.size := by have := h.lt; have := h.hB; omega
/-- A step that turns nothing that was there but the row. -/
theorem Sp.step (h : Sp B b arr w v0 v n xs W) (ho : W'.ownsRow B 5 1 v' m (u8c ys)) (hg : W.grownBy W' v.ownBlock) (hl : ∀ g, v'.ownBlock = some g → v.ownBlock = some g ∨ W.heap.size ≤ g) : Sp B b arr w v0 v' m ys W' := by
  have hlt := h.lt
  have hb := h.hb
  refine ⟨h.hb, h.hB, h.l0, (hg.block b hlt fun e => h.ne e.symm).trans h.blk, ⟨hg.os.trans h.gr.os, hg.tape.trans h.gr.tape, hg.output.trans h.gr.output, Nat.le_trans h.gr.size hg.size, fun k hk hne => ?_⟩, fun g hv => ?_, ho, fun e => ?_⟩
  · refine (hg.block k (Nat.lt_of_lt_of_le hk h.gr.size) fun e => ?_).trans (h.gr.block k hk hne)
    rcases h.li k e.symm with h1 | h1
    · exact hne h1.symm
    · omega
  · rcases hl g hv with h1 | h1
    · exact h.li g h1
    · exact .inr (Nat.le_trans h.gr.size h1)
  · rcases hl b e with h1 | h1
    · exact h.ne h1
    · omega
theorem Sp.call (h : Sp B b arr w v0 v n xs W) (hb : Below W.heap.size W W') : Sp B b arr w v0 v n xs W' :=
  h.step (h.own.kept (row := none) ⟨hb.os, hb.tape, hb.output, hb.size, fun k hk _ => hb.block k hk⟩ (by cases hv : v.ownBlock <;> simp)) ⟨hb.os, hb.tape, hb.output, hb.size, fun k hk _ => hb.block k hk⟩ fun _ hg => .inl hg
theorem Sp.alloc (h : Sp B b arr w v0 v n xs W) (o : Obj) : Sp B b arr w v0 v n xs (W.alloc o) := h.call ((Below.refl _ _).alloc (Nat.le_refl _) o)
theorem Sp.drew (h : Sp B b arr w v0 v n xs W) : Sp B b arr w v0 v n xs W.drew := h.call (Below.refl _ _).drew
theorem lies_of (hat : v'.ownBlock = v.ownBlock ∨ v'.ownBlock = some W.heap.size) : ∀ g, v'.ownBlock = some g → v.ownBlock = some g ∨ W.heap.size ≤ g := fun g hg => by
  rcases hat with h | h
  · exact .inl (by rw [← h]; exact hg)
  · rw [h] at hg
    cases hg
    exact .inr (Nat.le_refl _)
theorem Sp.cells (h : Sp B b arr w v0 v n xs W) (ho : W'.ownsRow B 5 1 v' (n + m) (u8c xs ++ u8c ys)) (hg : W.grownBy W' v.ownBlock) (hat : v'.ownBlock = v.ownBlock ∨ v'.ownBlock = some W.heap.size) : Sp B b arr w v0 v' (n + m) (xs ++ ys) W' :=
  h.step (by rw [u8c_append]; exact ho) hg (lies_of hat)
theorem Sp.text {s : ByteArray} (h : Sp B b arr w v0 v n xs W) (ho : W'.ownsRow B 5 1 v' (n + s.size) (u8c xs ++ Lib.strCells s)) (hg : W.grownBy W' v.ownBlock) (hat : v'.ownBlock = v.ownBlock ∨ v'.ownBlock = some W.heap.size) :
    Sp B b arr w v0 v' (n + s.size) (xs ++ txtL s) W' := by
  rw [strCells_txt] at ho
  exact h.cells ho hg hat
theorem Sp.below (h : Sp B b arr w v0 v n xs W) : Below B w W :=
  ⟨h.gr.os, h.gr.tape, h.gr.output, h.gr.size, fun k hk => h.gr.block k (by have := h.hB; have := h.hb; omega) fun e => by have := (h.l0 k e.symm).1; omega⟩

/-- The beginning: the box is made. -/
theorem Sp.start (hv : w.ownsRow B 5 1 v n (u8c xs)) (hB : B ≤ w.heap.size) : Sp B w.heap.size arr w v v n xs (w.alloc (.cells arr 26)) := by
  have hlt := hv.lt
  exact ⟨rfl, hB, hlt, heap_new _ _, World.grownBy_alloc _ _ _, fun _ h => .inl h, hv.alloc _, fun e => by have := (hlt _ e).2; omega⟩

/-- The cells of the box, and that it is one. -/
def Bx (B b : Nat) (arr : Array Value) (w W : World) : Prop := ∃ v0 v n xs, Sp B b arr w v0 v n xs W
theorem Sp.all {c0 c1 c2 c3 : Value} (h : Sp B b #[c0, c1, c2, c3] w v0 v n xs W) : (W.cell? ⟨b, 1, none⟩ = some c1 ∧ W.cell? ⟨b, 2, none⟩ = some c2 ∧ W.cell? ⟨b, 3, none⟩ = some c3) ∧ Bx B b #[c0, c1, c2, c3] w W :=
  ⟨⟨cell_of_heap h.blk 1, cell_of_heap h.blk 2, cell_of_heap h.blk 3⟩, v0, v, n, xs, h⟩

/-- Behind appending ys to the row v: they are there. -/
def PkEnd (B : Nat) (v : Value) (xs ys : List Int) (w : World) (e : Ending) (w' : World) : Prop :=
  ∃ v', e = .returned v' ∧ w'.ownsRow B 5 1 v' (xs.length + ys.length) (u8c (xs ++ ys)) ∧ w.grownBy w' v.ownBlock ∧ ∀ g, v'.ownBlock = some g → v.ownBlock = some g ∨ w.heap.size ≤ g
theorem Sp.done {zs : List Int} (h : Sp B b arr w v0 v n zs W) (hz : zs = xs ++ ys) : PkEnd B v0 xs ys w (.returned v) W := by
  subst hz
  have hl := h.own.1
  have hn : n = xs.length + ys.length := by rw [u8c_length, List.length_append] at hl; omega
  subst hn
  exact ⟨v, rfl, h.own, h.gr, h.li⟩
theorem Sp.pack {e : Ending} {zs us : List Int} (h : Sp B b arr w v0 v n zs W) (he : PkEnd B v zs ys W e W') (hu : us = zs ++ ys) : ∃ v', e = .returned v' ∧ Sp B b arr w v0 v' (zs.length + ys.length) us W' := by
  subst hu
  obtain ⟨v', rfl, ho, hg, hl⟩ := he
  exact ⟨v', rfl, h.step ho hg hl⟩

end

end Go.Proofs.YthfjgffhncogaaaGreat
