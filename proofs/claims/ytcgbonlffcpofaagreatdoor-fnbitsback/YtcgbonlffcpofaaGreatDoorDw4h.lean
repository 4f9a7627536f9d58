/- What the draws of terms need. -/
import Derived.Test.YtcgbonlffcpofaaGreatDoorDw3h
import Derived.Deep.RegionWith
namespace Go.Proofs.YtcgbonlffcpofaaGreatDoor
open Go.RowKit Go.Deep

/-- How many bytes a term so deep may take. -/
def cost : Nat → Nat
  | 0 => 20
  | D + 1 => 20 + 6 * cost D
theorem cost_pos : ∀ D, 20 ≤ cost D
  | 0 => Nat.le_refl _
  | _ + 1 => Nat.le_add_right _ _

theorem cost_ge : ∀ D, D ≤ cost D
  | 0 => Nat.zero_le _
  | D + 1 => by have := cost_ge D; show D + 1 ≤ 20 + 6 * cost D; omega

def DrawEnd (D g L : Nat) (v : Value) (N : Nat) (w : World) (e : Ending) (w' : World) : Prop :=
  ∃ (k m : Int) (s : ByteArray) (ks : List (Tm D)) (c3 : Value) (xs : List Value), e = .returned (.agg #[.int .i64 k, .int .i64 m, .string s, c3]) ∧ In64 k ∧ In64 m ∧ s.size ≤ 2 ^ 47 ∧
    RowsX w.heap.size w' ks c3 xs ∧ ks.length ≤ 6 ∧ Cur g L v (N + cost D) w' ∧ Kept g w w'
/-- The result's four cells stored. -/
def put4 (w : World) (B : Nat) (d0 d1 d2 d3 : Value) : World := (((w.setCell ⟨B, 0, none⟩ d0).setCell ⟨B, 1, none⟩ d1).setCell ⟨B, 2, none⟩ d2).setCell ⟨B, 3, none⟩ d3
theorem put4_kept (w : World) (B : Nat) (d0 d1 d2 d3 : Value) : Kept B w (put4 w B d0 d1 d2 d3) := ((((Kept.refl B w).set _ _).set _ _).set _ _).set _ _
theorem Kept.both {g B : Nat} {a w w' : World} (h : Kept g a w) (k : Kept B w w') (hB : a.heap.size ≤ B) : Kept g a w' :=
  ⟨k.os.trans h.os, k.tape.trans h.tape, k.output.trans h.output, Nat.le_trans h.size k.size, fun i hi hg => (k.block i (Nat.lt_of_lt_of_le hi h.size) (by omega)).trans (h.block i hi hg)⟩
/-- Four cells of a result. -/
def Res4 (B : Nat) (w : World) : Prop := ∃ a b c d, w.heap[B]? = some (.cells #[a, b, c, d] 32 (0, 0))
theorem Res4.lt {B : Nat} {w : World} (h : Res4 B w) : B < w.heap.size := by
  obtain ⟨_, _, _, _, h⟩ := h
  rcases Nat.lt_or_ge B w.heap.size with h1 | h1
  · exact h1
  · rw [Array.getElem?_eq_none h1] at h; cases h
theorem Res4.keep {B : Nat} {w w' : World} (h : Res4 B w) (hb : w'.heap[B]? = w.heap[B]?) : Res4 B w' := by
  obtain ⟨a, b, s, c, h1⟩ := h
  exact ⟨a, b, s, c, hb.trans h1⟩
theorem rows_nil {D base : Nat} (w : World) : RowsX base w ([] : List (Tm D)) (.slice none 0 0) [] := ⟨World.ownsRow_nil w base _ 4, CellsAt.nil⟩

theorem res_cells {B : Nat} {w : World} (h : Res4 B w) : ∃ y0 y1 y2 y3, w.cell? ⟨B, 0, none⟩ = some y0 ∧ w.cell? ⟨B, 1, none⟩ = some y1 ∧ w.cell? ⟨B, 2, none⟩ = some y2 ∧ w.cell? ⟨B, 3, none⟩ = some y3 ∧
    w.frozen? ⟨B, 0, none⟩ = false ∧ w.frozen? ⟨B, 1, none⟩ = false ∧ w.frozen? ⟨B, 2, none⟩ = false ∧ w.frozen? ⟨B, 3, none⟩ = false := by
  obtain ⟨a, b, s, c, h1⟩ := h
  exact ⟨_, _, _, _, cell_of_heap h1 0, cell_of_heap h1 1, cell_of_heap h1 2, cell_of_heap h1 3, frozen_of_heap h1 0, frozen_of_heap h1 1, frozen_of_heap h1 2, frozen_of_heap h1 3⟩

/-- Under way: the cursor, what was there, the result's cells. -/
structure St (g L : Nat) (v : Value) (M : Nat) (w w' : World) : Prop where
  cur : Cur g L v M w'
  kept : Kept g w w'
  res : Res4 w.heap.size w'
  gl : g < w.heap.size
theorem St.lt {g L M : Nat} {v : Value} {w w' : World} (h : St g L v M w w') : g < w'.heap.size := Nat.lt_of_lt_of_le h.gl h.kept.size
theorem St.room {g L M : Nat} {v : Value} {w w' : World} (h : St g L v M w w') : w.heap.size + 1 ≤ w'.heap.size := h.res.lt
theorem St.go {g L M M' : Nat} {v : Value} {w w1 w2 : World} (h : St g L v M w w1) (hk : Kept g w1 w2) (hc : Cur g L v M' w2) : St g L v M' w w2 :=
  ⟨hc, h.kept.trans hk, h.res.keep (hk.block _ h.room (by have := h.gl; omega)), h.gl⟩
theorem St.below {g L M : Nat} {v : Value} {w w1 w2 : World} (h : St g L v M w w1) (hb : Below w1.heap.size w1 w2) : St g L v M w w2 := h.go (Kept.below hb) (h.cur.below hb)
theorem St.alloc {g L M : Nat} {v : Value} {w w1 : World} (h : St g L v M w w1) (o : Obj) : St g L v M w (w1.alloc o) := h.below ((Below.refl _ _).alloc (Nat.le_refl _) _)
theorem St.drew {g L M : Nat} {v : Value} {w w1 : World} (h : St g L v M w w1) : St g L v M w w1.drew := h.below (Below.refl _ _).drew
theorem St.cells {g L M : Nat} {v : Value} {w w1 : World} (h : St g L v M w w1) : ∃ y0 y1 y2 y3, w1.cell? ⟨w.heap.size, 0, none⟩ = some y0 ∧ w1.cell? ⟨w.heap.size, 1, none⟩ = some y1 ∧ w1.cell? ⟨w.heap.size, 2, none⟩ = some y2 ∧ w1.cell? ⟨w.heap.size, 3, none⟩ = some y3 ∧
    w1.frozen? ⟨w.heap.size, 0, none⟩ = false ∧ w1.frozen? ⟨w.heap.size, 1, none⟩ = false ∧ w1.frozen? ⟨w.heap.size, 2, none⟩ = false ∧ w1.frozen? ⟨w.heap.size, 3, none⟩ = false := res_cells h.res
/-- A step that turns nothing up to the result's cells. -/
theorem St.low {g L M : Nat} {v : Value} {w w1 w2 : World} (h : St g L v M w w1) (hb : Below (w.heap.size + 1) w1 w2) : St g L v M w w2 :=
  ⟨h.cur.low fun b hb' => hb.block b (by have := h.gl; omega), ⟨hb.os.trans h.kept.os, hb.tape.trans h.kept.tape, hb.output.trans h.kept.output, Nat.le_trans h.kept.size hb.size, fun k hk hn => (hb.block k (by omega)).trans (h.kept.block k hk hn)⟩,
    h.res.keep (hb.block _ (by omega)), h.gl⟩
theorem DrawEnd.alloc {D g L : Nat} {v : Value} {N : Nat} {w : World} {e : Ending} {w' : World} (h : DrawEnd D g L v N w e w') (o : Obj) : DrawEnd D g L v N w e (w'.alloc o) := by
  obtain ⟨k, m, s, ks, c3, xs, he, h1, h2, h3, hX, hl, hc, hk⟩ := h
  exact ⟨k, m, s, ks, c3, xs, he, h1, h2, h3, hX.up ((Below.refl _ _).alloc (Nat.le_refl _) o), hl, hc.alloc o, hk.alloc o⟩
theorem DrawEnd.opened {D g L : Nat} {v : Value} {N : Nat} {w : World} {e : Ending} {w' : World} (h : DrawEnd D g L v N w e w') : ∃ (t : Tm (D + 1)) (k m : Int) (s : ByteArray) (a : Option Addr) (l c : Nat),
    e = .returned (.agg #[.int .i64 k, .int .i64 m, .string s, .slice a l c]) ∧ TAt (From w.heap.size w') w' (D + 1) t (.int .i64 k) (.int .i64 m) (.string s) (.slice a l c) ∧ Cur g L v (N + cost D) w' ∧ Kept g w w' := by
  obtain ⟨k, m, s, ks, c3, xs, he, h1, h2, h3, hX, hl, hc, hk⟩ := h
  have hs := hX.sat (by omega)
  obtain ⟨a, cap, rfl, _⟩ := id hs
  exact ⟨(k, m, s, ks), k, m, s, a, ks.length, cap, he, ⟨rfl, rfl, rfl, h1, h2, h3, hs⟩, hc, hk⟩

theorem lit_drew {g : Nat} {w w1 : World} {arr : Array Value} {e : TypeId} (hg : g < w.heap.size) (hk : Kept g (w.alloc (.cells arr e)).drew w1) (r : Nat) : w1.cell? ⟨w.heap.size, r, none⟩ = arr[r]? :=
  lit_block (w := w) hg ⟨hk.os, hk.tape, hk.output, hk.size, hk.block⟩ r

/-- A term that lies in a new block put behind an own row. -/
theorem row_push {n base : Nat} {w1 wz : World} {ls : List (Tm n)} {xs : List Value} {kv : Value} (hX : RowsX base w1 ls kv xs) (hl : ls.length ≤ 5000) {t : Tm n} {d0 d1 d2 d3 : Value} {S : Nat → Prop} (ht : TAt S w1 n t d0 d1 d2 d3) (hS : ∀ b, S b → Off base kv w1 b)
    (hz : wz.heap = (w1.alloc (.cells #[d0, d1, d2, d3] 32)).heap ∧ wz.os = w1.os ∧ wz.tape = w1.tape ∧ wz.output = w1.output) (hb : base ≤ w1.heap.size) (ty : TypeId) :
    ∃ R cap w', (Builtin.append_ #[30, 30] ty #[kv, .slice (some ⟨w1.heap.size, 0, none⟩) 1 1]).run Tryz.prog wz = .ok (.slice (some ⟨R, 0, none⟩) (ls.length + 1) cap) w' ∧
      RowsX base w' (ls ++ [t]) (.slice (some ⟨R, 0, none⟩) (ls.length + 1) cap) (xs ++ [d0, d1, d2, d3]) ∧ Below base w1 w' := by
  have hbz : Below w1.heap.size w1 wz := ⟨hz.2.1, hz.2.2.1, hz.2.2.2, by rw [hz.1]; simp, fun k hk => by rw [hz.1]; exact Below.heap_alloc _ _ _ hk⟩
  have hXz := hX.up hbz
  have hblk : wz.heap[w1.heap.size]? = some (.cells #[d0, d1, d2, d3] 32 (0, 0)) := by rw [hz.1]; exact heap_new _ _
  have g1 : TAt (Off base kv wz) wz n t d0 d1 d2 d3 := (ht.below hbz fun b hb => (hS b hb).2.1).mono fun b hb => ⟨(hS b hb).1, Nat.lt_of_lt_of_le (hS b hb).2.1 hbz.size, (hS b hb).2.2⟩
  obtain ⟨R, cap, w', hr, ho, hg, hR⟩ := run_append_terms base kv ls.length xs wz hXz.1 (by omega) ⟨w1.heap.size, 0, none⟩ 1 1 [d0, d1, d2, d3] rfl ⟨by omega, by omega⟩
    (fun j u hu => by rw [Go.WideShapes.add_plain, cell_of_heap hblk, Nat.zero_add, ← Array.getElem?_toList]; exact hu) (shape_one ht) (Nat.le_trans hb hbz.size) ty
  exact ⟨R, cap, w', hr, hXz.push (CellsAt.one g1) (R := R) (cap := cap) ho hg hR, (hbz.mono hb).grown hg (Nat.le_trans hb hbz.size) fun k hk => (hXz.1.lt k hk).1⟩

end Go.Proofs.YtcgbonlffcpofaaGreatDoor
