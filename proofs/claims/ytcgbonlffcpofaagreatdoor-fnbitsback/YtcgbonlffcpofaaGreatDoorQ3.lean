/- The draws' cursor: what it is, what becomes of it, its bytes, its picks, its sizes. -/
import Derived.Test.YtcgbonlffcpofaaGreatDoorQ2
import Derived.Deep.OwnRows
import Derived.Test.YtcgbonlffcpofaaGreatDoorQ1
import Derived.Test.YtcgbonlffcpofaaGreatDoorRows
import Derived.ProofKit
import Derived.OpenShut
import Derived.SizedLaws
import Derived.Lib.SmallJoins
namespace Go.Proofs.YtcgbonlffcpofaaGreatDoor
open Go.RowKit Go.Deep

/-- All blocks that were there are as they were, but block g. -/
structure Kept (g : Nat) (w w' : World) : Prop where
  os : w'.os = w.os
  tape : w'.tape = w.tape
  output : w'.output = w.output
  size : w.heap.size ≤ w'.heap.size
  block : ∀ k, k < w.heap.size → k ≠ g → w'.heap[k]? = w.heap[k]?

theorem Kept.refl (g : Nat) (w : World) : Kept g w w := ⟨rfl, rfl, rfl, Nat.le_refl _, fun _ _ _ => rfl⟩
theorem Kept.trans {g : Nat} {a b c : World} (h : Kept g a b) (k : Kept g b c) : Kept g a c :=
  ⟨k.os.trans h.os, k.tape.trans h.tape, k.output.trans h.output, Nat.le_trans h.size k.size, fun i hi hg => (k.block i (Nat.lt_of_lt_of_le hi h.size) hg).trans (h.block i hi hg)⟩
theorem Kept.below {g : Nat} {w w' : World} (h : Below w.heap.size w w') : Kept g w w' := ⟨h.os, h.tape, h.output, h.size, fun k hk _ => h.block k hk⟩
theorem Kept.alloc {g : Nat} {a w : World} (h : Kept g a w) (o : Obj) : Kept g a (w.alloc o) := h.trans (Kept.below ((Below.refl _ _).alloc (Nat.le_refl _) _))
theorem Kept.drew {g : Nat} {a w : World} (h : Kept g a w) : Kept g a w.drew := ⟨h.os, h.tape, h.output, h.size, h.block⟩
theorem Kept.set {g : Nat} {a w : World} (h : Kept g a w) (o : Nat) (v : Value) : Kept g a (w.setCell ⟨g, o, none⟩ v) :=
  h.trans ⟨rfl, rfl, rfl, by simp, fun k _ hg => Below.heap_setCell _ _ _ _ hg⟩
theorem Kept.grown {g : Nat} {a w w' : World} {r : Option Nat} (h : Kept g a w) (hg : w.grownBy w' r) (hR : ∀ R, r = some R → a.heap.size ≤ R) : Kept g a w' :=
  ⟨hg.os.trans h.os, hg.tape.trans h.tape, hg.output.trans h.output, Nat.le_trans h.size hg.size, fun k hk hn => (hg.block k (Nat.lt_of_lt_of_le hk h.size) (by intro e; have := hR k e.symm; omega)).trans (h.block k hk hn)⟩
/-- Where block g is new, all that was there is as it was. -/
theorem Kept.toBelow {g : Nat} {w w' : World} (h : Kept g w w') {B : Nat} (hB : B ≤ g) (hs : B ≤ w.heap.size) : Below B w w' := ⟨h.os, h.tape, h.output, h.size, fun k hk => h.block k (by omega) (by omega)⟩
theorem Kept.cell {g : Nat} {w w' : World} (h : Kept g w w') {b o : Nat} (hb : b < w.heap.size) (hg : b ≠ g) : w'.cell? ⟨b, o, none⟩ = w.cell? ⟨b, o, none⟩ := World.cell?_of_block (w := w) (h.block b hb hg)

/-- A code's bytes, L of them, in blocks below g. -/
def CodeAt (g L : Nat) (v : Value) (w : World) : Prop :=
  ∃ a cap, v = .slice a L cap ∧ L ≤ cap ∧ cap ≤ 2 ^ 47 ∧ L ≤ 1048576 ∧ ∀ i, i < L → ∃ b off x, a = some ⟨b, off, none⟩ ∧ b < g ∧ w.cell? ⟨b, off + i, none⟩ = some (.int .u8 x) ∧ 0 ≤ x ∧ x < 256
theorem CodeAt.low {g L : Nat} {v : Value} {w w' : World} (h : CodeAt g L v w) (hk : ∀ b, b < g → w'.heap[b]? = w.heap[b]?) : CodeAt g L v w' := by
  obtain ⟨a, cap, h1, h2, h3, h4, h5⟩ := h
  refine ⟨a, cap, h1, h2, h3, h4, fun i hi => ?_⟩
  obtain ⟨b, off, x, g1, g2, g4, g5⟩ := h5 i hi
  exact ⟨b, off, x, g1, g2, (World.cell?_of_block (w := w) (hk b g2)).trans g4, g5⟩

/-- Block g is a cursor, N bytes gone at most. -/
def Cur (g L : Nat) (v : Value) (N : Nat) (w : World) : Prop :=
  CodeAt g L v w ∧ ∃ at' sd : Int, w.heap[g]? = some (.cells #[v, .int .i64 at', .int .i64 sd] 61 (0, 0)) ∧ 0 ≤ at' ∧ at' ≤ N ∧ 0 ≤ sd ∧ sd < 2147483648
theorem Cur.lt {g L N : Nat} {v : Value} {w : World} (h : Cur g L v N w) : g < w.heap.size := by
  obtain ⟨_, _, _, h, _⟩ := h
  rcases Nat.lt_or_ge g w.heap.size with h1 | h1
  · exact h1
  · rw [Array.getElem?_eq_none h1] at h; cases h
theorem Cur.mono {g L N M : Nat} {v : Value} {w : World} (h : Cur g L v N w) (hN : N ≤ M) : Cur g L v M w := by
  obtain ⟨h1, a, s, h2, h3, h4, h5⟩ := h
  exact ⟨h1, a, s, h2, h3, by omega, h5⟩
theorem Cur.low {g L N : Nat} {v : Value} {w w' : World} (h : Cur g L v N w) (hb : ∀ b, b ≤ g → w'.heap[b]? = w.heap[b]?) : Cur g L v N w' := by
  obtain ⟨h1, a, s, h2, h3⟩ := h
  exact ⟨h1.low fun b hb' => hb b (by omega), a, s, (hb g (Nat.le_refl _)).trans h2, h3⟩
theorem Cur.below {g L N : Nat} {v : Value} {w w' : World} (h : Cur g L v N w) (hb : Below w.heap.size w w') : Cur g L v N w' := h.low fun b hb' => hb.block b (by have := h.lt; omega)
theorem Cur.alloc {g L N : Nat} {v : Value} {w : World} (h : Cur g L v N w) (o : Obj) : Cur g L v N (w.alloc o) := h.below ((Below.refl _ _).alloc (Nat.le_refl _) _)

theorem cur_cells {g : Nat} {v : Value} {at' sd : Int} {w : World} (h : w.heap[g]? = some (.cells #[v, .int .i64 at', .int .i64 sd] 61 (0, 0))) :
    w.cell? ⟨g, 0, none⟩ = some v ∧ w.cell? ⟨g, 1, none⟩ = some (.int .i64 at') ∧ w.cell? ⟨g, 2, none⟩ = some (.int .i64 sd) ∧ w.frozen? ⟨g, 1, none⟩ = false ∧ w.frozen? ⟨g, 2, none⟩ = false :=
  ⟨cell_of_heap h 0, cell_of_heap h 1, cell_of_heap h 2, frozen_of_heap h 1, frozen_of_heap h 2⟩

end Go.Proofs.YtcgbonlffcpofaaGreatDoor
/- A code that came in; big. -/
namespace Go.Proofs.YtcgbonlffcpofaaGreatDoor
open Go.RowKit Go.Deep

/-- A code's bytes that came in. -/
def CodeIn (w : World) (L : Nat) (v : Value) : Prop :=
  ∃ a cap, v = .slice a L cap ∧ L ≤ cap ∧ cap ≤ 2 ^ 47 ∧ ∀ i, i < L → ∃ b off x, a = some ⟨b, off, none⟩ ∧ b < w.heap.size ∧ w.cell? ⟨b, off + i, none⟩ = some (.int .u8 x) ∧ 0 ≤ x ∧ x < 256
theorem CodeIn.at {w : World} {L : Nat} {v : Value} (h : CodeIn w L v) (hL : L ≤ 1048576) : CodeAt w.heap.size L v w := by
  obtain ⟨a, cap, h1, h2, h3, h4⟩ := h
  exact ⟨a, cap, h1, h2, h3, hL, h4⟩
theorem CodeIn.up {w w' : World} {L : Nat} {v : Value} (h : CodeIn w L v) (hb : Below w.heap.size w w') : CodeIn w' L v := by
  obtain ⟨a, cap, h1, h2, h3, h4⟩ := h
  refine ⟨a, cap, h1, h2, h3, fun i hi => ?_⟩
  obtain ⟨b, off, x, g1, g2, g3, g4⟩ := h4 i hi
  exact ⟨b, off, x, g1, Nat.lt_of_lt_of_le g2 hb.size, ((bcell hb) b _ g2).trans g3, g4⟩

theorem big_any (a : Option Addr) (L cap : Nat) (w : World) : Calls Tryz.prog 4 #[.slice a L cap] w fun e w' => e = .returned (.bool (decide (1048576 < L))) ∧ w' = w := by
  by_cases h : 1048576 < L
  all_goals
    go_enter Tryz.func4, Tryz.ntmps4
    go_wp2_with fail
    go_ret
    exact ⟨by simp [h]; omega, rfl⟩

end Go.Proofs.YtcgbonlffcpofaaGreatDoor
/- A code that came in, opened. -/
namespace Go.Proofs.YtcgbonlffcpofaaGreatDoor
open Go.ChangeShapes Go.WideShapes Go.ChangeAt Go.RowKit Go.Joins

theorem cellsByte : Tryz.prog.cellsOf 5 = 1 := by kernel_rfl
theorem bytesByte : Tryz.prog.bytesOf 5 = 1 := by kernel_rfl

section
variable {H : Type} {enc : TypeId × Value → H}
set_option maxRecDepth 40000 in
/-- Bytes that came in. -/
theorem open_code (W : World) (fuel : Nat) (cs : List Value) (x : DataW H × List MemPlace) (h : DataW.trod enc Tryz.prog W 0 (fun _ => true) true fuel 22 cs = some x) (hw : ∀ y ∈ x.1.weights Tryz.prog 22, y ≤ reachBytes) :
    ∃ (L : Nat) (v : Value), cs = [v] ∧ CodeIn W L v := by
  rcases DataW.trod_slice Tryz.underlying22 h with ⟨hc, _⟩ | ⟨a, len, cap, elems, rest, g, hg, hc, rfl, hb, hl, hcm, hlen, hel, hsp, _⟩
  · exact ⟨0, _, hc, none, 0, rfl, Nat.le_refl _, by omega, fun i hi => by omega⟩
  · have hrl := (hsp rfl).1
    have hwc : (elems.length + rest.length) * 1 ≤ reachBytes := by
      have := hw ((elems.length + rest.length) * 1) (by simp [DataW.weights, Tryz.underlying22, bytesByte])
      exact this
    have hR := reachBytes_lt
    have hspot : 0 < len → a.spot = none := fun h => by
      have he := hel 0 h
      rw [List.getElem?_eq_getElem (by omega)] at he
      obtain ⟨cs', hcs', _⟩ := Option.bind_eq_some_iff.1 he
      rw [cellsByte] at hcs'
      obtain ⟨_, hl4, hcell⟩ := World.cells?_some hcs'
      have hc0 := hcell 0 (by decide)
      rw [List.getElem?_eq_getElem (by omega)] at hc0
      simpa [Addr.add] using World.cell?_spot hc0
    refine ⟨len, _, hc, some a, cap, rfl, hl, by omega, fun i hi => ?_⟩
    have he := hel i hi
    rw [List.getElem?_eq_getElem (by omega)] at he
    obtain ⟨cs', hcs', htr⟩ := Option.bind_eq_some_iff.1 he
    obtain ⟨n, rfl, _, hn⟩ := DataW.trod_int Tryz.underlying5 htr
    rw [cellsByte] at hcs'
    obtain ⟨_, _, hcell⟩ := World.cells?_some hcs'
    have hblk := World.cells?_block hcs' (by decide)
    have hsn := hspot (by omega)
    obtain ⟨b, off, sp⟩ := a
    obtain rfl : sp = none := hsn
    have hc0 := hcell 0 (by decide)
    rw [add_plain, add_plain] at hc0
    rw [add_plain] at hblk
    refine ⟨b, off, n, rfl, hblk, by simpa using hc0, ?_⟩
    have := bounds_u8 hn
    omega
end

end Go.Proofs.YtcgbonlffcpofaaGreatDoor
