/- The walks of toTerm and toTermS: a copy in new memory, by induction on the depth. -/
import Derived.Test.YthfjgffhncogaaaGreatQ1
import Derived.Deep.OwnRows
namespace Go.Proofs.YthfjgffhncogaaaGreat
open Go.RowKit

/-- Blocks that are there in w' and weren't in w. -/
abbrev Fresh (w w' : World) : Nat → Prop := fun b => w.heap.size ≤ b ∧ b < w'.heap.size

def ToSaid (n : Nat) : Prop := ∀ (t : Tm n) (c0 c1 c2 c3 : Value) (w : World), TAt (Under w.heap.size) w n t c0 c1 c2 c3 → tot n t ≤ 1048576 →
  Calls Tryz.prog 21 #[.agg #[c0, c1, c2, c3]] w fun e w' => ∃ d0 d1 d2 d3, e = .returned (.agg #[d0, d1, d2, d3]) ∧ TAt (Fresh w w') w' n t d0 d1 d2 d3 ∧ Below w.heap.size w w'

def ToSSaid (n : Nat) : Prop := ∀ (ks : List (Tm n)) (v : Value) (w : World), SAt (Under w.heap.size) w (TAt (Under w.heap.size) w n) ks v → ks.length + totS ks ≤ 1048576 →
  Calls Tryz.prog 47 #[v] w fun e w' => ∃ u, e = .returned u ∧ SAt (Fresh w w') w' (TAt (Fresh w w') w' n) ks u ∧ Below w.heap.size w w'

/-- The cells of a new slice of terms. -/
def zeros (n : Nat) : Array Value := madeCells #[.int .i64 0, .int .i64 0, .string ⟨#[]⟩, .slice none 0 0] n
theorem zeros_size (n : Nat) : (zeros n).size = n := size_madeCells _ _

theorem run_mk (n : Nat) (hn : n ≤ 1048576) (w : World) : (Instr.makeSlice 24 (.int .i64 n) (.int .i64 n)).run Tryz.prog w =
    .ok (.slice (some ⟨w.heap.size, 0, none⟩) n n) (w.alloc (.cells (zeros (n * 4)) 26)) := by
  have := run_make (P := Tryz.prog) w 24 26 (Tryz.prog.types[26]!) (.agg #[.int .i64 0, .int .i64 0, .string ⟨#[]⟩, .slice none 0 0]) (by kernel_rfl) (by kernel_rfl) (by kernel_rfl) .i64 .i64 n n (by omega) (Int.le_refl _)
    (by rw [show (Tryz.prog.types[26]!).bytes = 56 from by kernel_rfl]; omega) (by omega)
  rw [this, show (Tryz.prog.types[26]!).size = 4 from by kernel_rfl]
  rfl

/-- A row of N cells, block B, none frozen. -/
def Row (B : Nat) (e : TypeId) (N : Nat) (w : World) : Prop := ∃ arr, w.heap[B]? = some (.cells arr e (0, 0)) ∧ arr.size = N

theorem Row.cell {B N : Nat} {e : TypeId} {w : World} (h : Row B e N w) {o : Nat} (ho : o < N) : (∃ v, w.cell? ⟨B, o, none⟩ = some v) := by
  obtain ⟨arr, h1, h2⟩ := h
  exact ⟨arr[o]'(by omega), by simp [World.cell?, h1, h2, ho]⟩
theorem Row.lt {B N : Nat} {e : TypeId} {w : World} (h : Row B e N w) : B < w.heap.size := by
  obtain ⟨arr, h1, h2⟩ := h
  rcases Nat.lt_or_ge B w.heap.size with h | h
  · exact h
  · rw [Array.getElem?_eq_none h] at h1; cases h1
theorem Row.frozen {B N : Nat} {e : TypeId} {w : World} (h : Row B e N w) (o : Nat) : w.frozen? ⟨B, o, none⟩ = false := by
  obtain ⟨arr, h1, h2⟩ := h
  simp [World.frozen?, h1]
theorem Row.keep {B N : Nat} {e : TypeId} {w w' : World} (h : Row B e N w) (hb : w'.heap[B]? = w.heap[B]?) : Row B e N w' := by
  obtain ⟨arr, h1, h2⟩ := h
  exact ⟨arr, by rw [hb, h1], h2⟩
theorem Row.setHeap {B : Nat} {e : TypeId} {w : World} {arr : Array Value} (h1 : w.heap[B]? = some (.cells arr e (0, 0))) (o : Nat) (v : Value) :
    (w.setCell ⟨B, o, none⟩ v).heap[B]? = some (.cells (arr.setIfInBounds o v) e (0, 0)) := by
  simp only [World.setCell, Array.getElem?_modify, if_true, h1, Option.map_some, Option.isSome_none, Bool.false_eq_true, if_false]
theorem Row.set {B N : Nat} {e : TypeId} {w : World} (h : Row B e N w) (o : Nat) (v : Value) : Row B e N (w.setCell ⟨B, o, none⟩ v) := by
  obtain ⟨arr, h1, h2⟩ := h
  exact ⟨arr.setIfInBounds o v, Row.setHeap h1 o v, by simp [h2]⟩
theorem Row.set_get {B N : Nat} {e : TypeId} {w : World} (h : Row B e N w) {o : Nat} (ho : o < N) (v : Value) : (w.setCell ⟨B, o, none⟩ v).cell? ⟨B, o, none⟩ = some v := by
  obtain ⟨arr, h1, h2⟩ := h
  simp [World.cell?, Row.setHeap h1 o v, h2, ho]
theorem Row.set_ne {B N : Nat} {e : TypeId} {w : World} (h : Row B e N w) {o o' : Nat} (hne : o ≠ o') (v : Value) : (w.setCell ⟨B, o, none⟩ v).cell? ⟨B, o', none⟩ = w.cell? ⟨B, o', none⟩ := by
  obtain ⟨arr, h1, h2⟩ := h
  simp [World.cell?, Row.setHeap h1 o v, h1, hne]
theorem Row.new {e : TypeId} (w : World) (arr : Array Value) : Row w.heap.size e arr.size (w.alloc (.cells arr e)) := ⟨arr, by show (w.heap.push _)[_]? = _; simp, rfl⟩

theorem frozen_of_heap {w : World} {b : Nat} {arr : Array Value} {e : TypeId} (h : w.heap[b]? = some (.cells arr e (0, 0))) (o : Nat) : w.frozen? ⟨b, o, none⟩ = false := by simp [World.frozen?, h]

/-- Four cells stored, one behind the other. -/
def set4 (w : World) (B o : Nat) (d0 d1 d2 d3 : Value) : World :=
  (((w.setCell ⟨B, o, none⟩ d0).setCell ⟨B, o + 1, none⟩ d1).setCell ⟨B, o + 2, none⟩ d2).setCell ⟨B, o + 3, none⟩ d3

theorem set4_facts {B N : Nat} {e : TypeId} {w : World} (h : Row B e N w) {o : Nat} (ho : o + 3 < N) (d0 d1 d2 d3 : Value) :
    Row B e N (set4 w B o d0 d1 d2 d3) ∧ (set4 w B o d0 d1 d2 d3).cell? ⟨B, o, none⟩ = some d0 ∧ (set4 w B o d0 d1 d2 d3).cell? ⟨B, o + 1, none⟩ = some d1 ∧
    (set4 w B o d0 d1 d2 d3).cell? ⟨B, o + 2, none⟩ = some d2 ∧ (set4 w B o d0 d1 d2 d3).cell? ⟨B, o + 3, none⟩ = some d3 ∧
    (∀ o', o' < o → (set4 w B o d0 d1 d2 d3).cell? ⟨B, o', none⟩ = w.cell? ⟨B, o', none⟩) ∧ Below B w (set4 w B o d0 d1 d2 d3) ∧
    (∀ b, b ≠ B → (set4 w B o d0 d1 d2 d3).heap[b]? = w.heap[b]?) := by
  have r1 := h.set o d0
  have r2 := r1.set (o + 1) d1
  have r3 := r2.set (o + 2) d2
  have r4 := r3.set (o + 3) d3
  refine ⟨r4, ?_, ?_, ?_, ?_, fun o' ho' => ?_, ?_, fun b hb => ?_⟩ <;> unfold set4
  · rw [r3.set_ne (by omega), r2.set_ne (by omega), r1.set_ne (by omega), h.set_get (by omega)]
  · rw [r3.set_ne (by omega), r2.set_ne (by omega), r1.set_get (by omega)]
  · rw [r3.set_ne (by omega), r2.set_get (by omega)]
  · rw [r3.set_get (by omega)]
  · rw [r3.set_ne (by omega), r2.set_ne (by omega), r1.set_ne (by omega), h.set_ne (by omega)]
  · exact ((((Below.refl B w).setCell (p := ⟨B, _, none⟩) (Nat.le_refl B) _).setCell (p := ⟨B, _, none⟩) (Nat.le_refl B) _).setCell (p := ⟨B, _, none⟩) (Nat.le_refl B) _).setCell (p := ⟨B, _, none⟩) (Nat.le_refl B) _
  · rw [Below.heap_setCell _ _ _ _ hb, Below.heap_setCell _ _ _ _ hb, Below.heap_setCell _ _ _ _ hb, Below.heap_setCell _ _ _ _ hb]

set_option maxHeartbeats 1000000 in
theorem toS_of {n : Nat} (h : ToSaid n) : ToSSaid n := by
  intro ks v w hv htot
  obtain ⟨a, cap, rfl, hlen, hcap, hel⟩ := hv
  have hmk := run_mk ks.length (by omega)
  go_enter Tryz.func47, Tryz.ntmps47
  go_wp2_with fail
  clear hmk
  go_loopw [4] (fun iv wr => ∃ k : Nat, k ≤ ks.length ∧ iv = .int .i64 k ∧ Below w.heap.size w wr ∧ Row w.heap.size 26 (ks.length * 4) wr ∧
      ∀ j (hj : j < ks.length), j < k → ∃ d0 d1 d2 d3, wr.cell? ⟨w.heap.size, j * 4, none⟩ = some d0 ∧ wr.cell? ⟨w.heap.size, j * 4 + 1, none⟩ = some d1 ∧
        wr.cell? ⟨w.heap.size, j * 4 + 2, none⟩ = some d2 ∧ wr.cell? ⟨w.heap.size, j * 4 + 3, none⟩ = some d3 ∧ TAt (fun b => w.heap.size < b ∧ b < wr.heap.size) wr n ks[j] d0 d1 d2 d3) (fun iv _ => ks.length - (intOf iv).toNat)
  case atStart =>
    refine ⟨0, by omega, rfl, (Below.refl _ _).alloc (Nat.le_refl _) _, ?_, fun j _ hj => absurd hj (by omega)⟩
    have := Row.new (e := 26) w (zeros (ks.length * 4))
    rwa [zeros_size] at this
  case round =>
    obtain ⟨k, hk, rfl, hb, hrow, hall⟩ := hrel
    by_cases hlt : k < ks.length
    · obtain ⟨b, off, d0, d1, d2, d3, rfl, hS, e0, e1, e2, e3, hr⟩ := hel k hlt
      have hbc := bcell hb
      have f0 := (hbc b _ hS).trans e0
      have f1 := (hbc b _ hS).trans e1
      have f2 := (hbc b _ hS).trans e2
      have f3 := (hbc b _ hS).trans e3
      have ht : tot n ks[k] ≤ 1048576 := by
        have := totS_take ks k hlt
        have := totS_le ks (k + 1)
        omega
      clear hbc e0 e1 e2 e3
      go_wp2_with fail
      refine (h _ _ _ _ _ _ (hr.up hb) ht).mono ?_
      rintro e w1 ⟨g0, g1, g2, g3, rfl, hg, hb1⟩
      have hrow1 := hrow.keep (hb1.block _ hrow.lt)
      obtain ⟨v0, x0⟩ := hrow1.cell (o := k * 4) (by omega)
      obtain ⟨v1, x1⟩ := hrow1.cell (o := k * 4 + 1) (by omega)
      obtain ⟨v2, x2⟩ := hrow1.cell (o := k * 4 + 2) (by omega)
      obtain ⟨v3, x3⟩ := hrow1.cell (o := k * 4 + 3) (by omega)
      have z0 := hrow1.frozen (k * 4)
      have z1 := hrow1.frozen (k * 4 + 1)
      have z2 := hrow1.frozen (k * 4 + 2)
      have z3 := hrow1.frozen (k * 4 + 3)
      obtain ⟨gk, gm, gs, ga, gl, gc, rfl, rfl, rfl, rfl⟩ := hg.shape
      have HF : Hid _ := set4_facts hrow1 (o := k * 4) (by omega) (.int .i64 gk) (.int .i64 gm) (.string gs) (.slice ga gl gc)
      clear f0 f1 f2 f3
      go_wp2_with fail
      clear x0 x1 x2 x3 z0 z1 z2 z3
      obtain ⟨s1, s2, s3, s4, s5, s6, s7, s8⟩ := HF.out
      go_roundw
      case rel =>
        refine ⟨k + 1, hlt, by go_num, (hb.trans (hb1.mono hb.size)).trans s7, s1, fun j hj hjk => ?_⟩
        by_cases hjk2 : j = k
        · subst hjk2
          refine ⟨_, _, _, _, s2, s3, s4, s5, ?_⟩
          have hlt2 := hrow.lt
          exact (hg.keep fun b hb => s8 b (by omega)).mono fun b hb => ⟨by omega, Nat.lt_of_lt_of_le hb.2 s7.size⟩
        · obtain ⟨q0, q1, q2, q3, y0, y1, y2, y3, hq⟩ := hall j hj (by omega)
          have hkeep : ∀ b, (w.heap.size < b ∧ b < wr.heap.size) → (set4 w1 w.heap.size (k * 4) (.int .i64 gk) (.int .i64 gm) (.string gs) (.slice ga gl gc)).heap[b]? = wr.heap[b]? :=
            fun b hb => (s8 b (by omega)).trans (hb1.block b hb.2)
          have hc1 : ∀ o, w1.cell? ⟨w.heap.size, o, none⟩ = wr.cell? ⟨w.heap.size, o, none⟩ := fun o => World.cell?_of_block (w := wr) (hb1.block _ hrow.lt)
          refine ⟨q0, q1, q2, q3, ?_, ?_, ?_, ?_, (hq.keep hkeep).mono fun b hb => ⟨hb.1, Nat.lt_of_lt_of_le hb.2 (Nat.le_trans hb1.size s7.size)⟩⟩
          · exact ((s6 _ (by omega)).trans (hc1 _)).trans y0
          · exact ((s6 _ (by omega)).trans (hc1 _)).trans y1
          · exact ((s6 _ (by omega)).trans (hc1 _)).trans y2
          · exact ((s6 _ (by omega)).trans (hc1 _)).trans y3
      case measure => simp [intOf]; omega
    · have hkk : k = ks.length := by omega
      subst hkk
      have hlt2 := hrow.lt
      go_wp2_with fail
      go_ret
      refine ⟨_, rfl, ⟨_, _, rfl, Nat.le_refl _, by omega, fun i hi => ?_⟩, hb⟩
      obtain ⟨q0, q1, q2, q3, y0, y1, y2, y3, hq⟩ := hall i hi hi
      exact ⟨_, 0, q0, q1, q2, q3, rfl, ⟨Nat.le_refl _, hlt2⟩, by simpa using y0, by simpa using y1, by simpa using y2, by simpa using y3, hq.mono fun b hb => ⟨by omega, hb.2⟩⟩

set_option maxHeartbeats 1000000 in
theorem to_of {n : Nat} (h : ToSSaid n) : ToSaid (n + 1) := by
  rintro ⟨kd, m, s, ks⟩ c0 c1 c2 c3 w ⟨rfl, rfl, rfl, hk, hm, hs, hks⟩ ht
  have hdef : tot (n + 1) (kd, m, s, ks) = s.size + (ks.length + totS ks) := rfl
  rw [hdef] at ht
  clear hdef
  go_enter Tryz.func21, Tryz.ntmps21
  go_wp2_with fail
  have hb3 : Below w.heap.size w (((w.alloc (.cells #[.int .i64 kd, .int .i64 m, .string s, c3] 38)).alloc (.cells #[.int .i64 0, .int .i64 0, .string ⟨#[]⟩, .slice none 0 0] 26)).alloc (.cells #[.int .i64 kd, .int .i64 m, .string s, .slice none 0 0] 26)) :=
    (below_two _ _ _).alloc (by simp; omega) _
  refine (h _ _ _ (hks.up hb3) (by omega)).mono ?_
  rintro e w1 ⟨u, rfl, hu, hb1⟩
  have HU := hide hu
  obtain ⟨ua, uc, rfl, -, -, -⟩ := hu
  have hblk := hb1.block
  have hh1 : w1.heap[w.heap.size + 1]? = some (.cells #[.int .i64 0, .int .i64 0, .string ⟨#[]⟩, .slice none 0 0] 26) := by
    rw [hblk _ (by simp), Below.heap_alloc _ _ _ (by simp)]
    have := heap_new (w.alloc (.cells #[.int .i64 kd, .int .i64 m, .string s, c3] 38)) (.cells #[.int .i64 0, .int .i64 0, .string ⟨#[]⟩, .slice none 0 0] 26)
    rwa [World.size_alloc] at this
  have hh2 : w1.heap[w.heap.size + 1 + 1]? = some (.cells #[.int .i64 kd, .int .i64 m, .string s, .slice none 0 0] 26) := by
    rw [hblk _ (by simp)]
    have := heap_new ((w.alloc (.cells #[.int .i64 kd, .int .i64 m, .string s, c3] 38)).alloc (.cells #[.int .i64 0, .int .i64 0, .string ⟨#[]⟩, .slice none 0 0] 26)) (.cells #[.int .i64 kd, .int .i64 m, .string s, .slice none 0 0] 26)
    rwa [World.size_alloc, World.size_alloc] at this
  have h1 := cell_of_heap hh1
  have h2 := cell_of_heap hh2
  have f1 := frozen_of_heap hh1
  have f2 := frozen_of_heap hh2
  have hsz : w.heap.size + 1 + 1 + 1 ≤ w1.heap.size := by simpa using hb1.size
  have HB : Hid (Below w.heap.size w w1) := hb3.trans (hb1.mono (by simp; omega))
  clear hblk hh1 hh2
  go_wp2_with fail
  refine bodyPost_ret (v := .agg #[.int .i64 kd, .int .i64 m, .string s, .slice ua ks.length uc]) (by simp [results, Tryz.results21, go_sem, h1]) rfl ⟨_, _, _, _, rfl, ⟨rfl, rfl, rfl, hk, hm, hs, ?_⟩, ?_⟩
  · have hkeep : ∀ b, w.heap.size + 1 + 1 + 1 ≤ b → (((((w1.setCell ⟨w.heap.size + 1 + 1, 3, none⟩ (.slice ua ks.length uc)).setCell ⟨w.heap.size + 1, 0, none⟩ (.int .i64 kd)).setCell ⟨w.heap.size + 1, 1, none⟩ (.int .i64 m)).setCell
        ⟨w.heap.size + 1, 2, none⟩ (.string s)).setCell ⟨w.heap.size + 1, 3, none⟩ (.slice ua ks.length uc)).heap[b]? = w1.heap[b]? := fun b hb => by
      rw [Below.heap_setCell _ _ _ _ (by simp; omega), Below.heap_setCell _ _ _ _ (by simp; omega), Below.heap_setCell _ _ _ _ (by simp; omega), Below.heap_setCell _ _ _ _ (by simp; omega), Below.heap_setCell _ _ _ _ (by simp; omega)]
    have hf : ∀ b, Fresh (((w.alloc (.cells #[.int .i64 kd, .int .i64 m, .string s, c3] 38)).alloc (.cells #[.int .i64 0, .int .i64 0, .string ⟨#[]⟩, .slice none 0 0] 26)).alloc (.cells #[.int .i64 kd, .int .i64 m, .string s, .slice none 0 0] 26)) w1 b →
        w.heap.size + 1 + 1 + 1 ≤ b ∧ b < w1.heap.size := fun b hb => by simpa [Fresh] using hb
    have hk2 := fun b hb => hkeep b (hf b hb).1
    exact ((unhide HU).keep hk2 fun _ _ _ _ _ _ ht => ht.keep hk2).mono (fun b hb => ⟨by have := hf b hb; omega, by have := hf b hb; simpa using this.2⟩) fun _ _ _ _ _ _ ht => ht.mono fun b hb => ⟨by have := hf b hb; omega, by have := hf b hb; simpa using this.2⟩
  · exact (((((HB.out.setCell (p := ⟨_, _, none⟩) (by simp; omega) _).setCell (p := ⟨_, _, none⟩) (by simp) _).setCell (p := ⟨_, _, none⟩) (by simp) _).setCell (p := ⟨_, _, none⟩) (by simp) _).setCell (p := ⟨_, _, none⟩) (by simp) _)

theorem to_any : ∀ n, ToSaid n
  | 0 => fun t => t.elim
  | n + 1 => to_of (toS_of (to_any n))

end Go.Proofs.YthfjgffhncogaaaGreat
/- The draws' cursor: what it is, what becomes of it, its bytes, its picks, its sizes. -/
namespace Go.Proofs.YthfjgffhncogaaaGreat
open Go.RowKit Go.Deep

/-- All blocks that were there are as they were, but block g. -/
structure Kept (g : Nat) (w w' : World) : Prop where
  os : w'.os = w.os
  tape : w'.tape = w.tape
  output : w'.output = w.output
  size : w.heap.size ≤ w'.heap.size
  block : ∀ k, k < w.heap.size → k ≠ g → w'.heap[k]? = w.heap[k]?

theorem Kept.refl (g : Nat) (w : World) : Kept g w w := ⟨rfl, rfl, rfl, Nat.le_refl _, fun _ _ _ => rfl⟩
theorem Kept.trans {g : Nat} {a b c : World} (h : Kept g a b) (k : Kept g b c) : Kept g a c :=
  ⟨k.os.trans h.os, k.tape.trans h.tape, k.output.trans h.output, Nat.le_trans h.size k.size, fun i hi hg => (k.block i (Nat.lt_of_lt_of_le hi h.size) hg).trans (h.block i hi hg)⟩
theorem Kept.below {g : Nat} {w w' : World} (h : Below w.heap.size w w') : Kept g w w' := ⟨h.os, h.tape, h.output, h.size, fun k hk _ => h.block k hk⟩
theorem Kept.alloc {g : Nat} {a w : World} (h : Kept g a w) (o : Obj) : Kept g a (w.alloc o) := h.trans (Kept.below ((Below.refl _ _).alloc (Nat.le_refl _) _))
theorem Kept.drew {g : Nat} {a w : World} (h : Kept g a w) : Kept g a w.drew := ⟨h.os, h.tape, h.output, h.size, h.block⟩
theorem Kept.set {g : Nat} {a w : World} (h : Kept g a w) (o : Nat) (v : Value) : Kept g a (w.setCell ⟨g, o, none⟩ v) :=
  h.trans ⟨rfl, rfl, rfl, by simp, fun k _ hg => Below.heap_setCell _ _ _ _ hg⟩
/-- A store into a block that wasn't there. -/
theorem Kept.fresh {g : Nat} {a w : World} (h : Kept g a w) {b : Nat} (hb : a.heap.size ≤ b) (o : Nat) (v : Value) : Kept g a (w.setCell ⟨b, o, none⟩ v) :=
  ⟨h.os, h.tape, h.output, by simpa using h.size, fun k hk hg => (Below.heap_setCell _ _ _ _ (by show k ≠ b; omega)).trans (h.block k hk hg)⟩
theorem Kept.grown {g : Nat} {a w w' : World} {r : Option Nat} (h : Kept g a w) (hg : w.grownBy w' r) (hR : ∀ R, r = some R → a.heap.size ≤ R) : Kept g a w' :=
  ⟨hg.os.trans h.os, hg.tape.trans h.tape, hg.output.trans h.output, Nat.le_trans h.size hg.size, fun k hk hn => (hg.block k (Nat.lt_of_lt_of_le hk h.size) (by intro e; have := hR k e.symm; omega)).trans (h.block k hk hn)⟩
/-- Where block g is new, all that was there is as it was. -/
theorem Kept.toBelow {g : Nat} {w w' : World} (h : Kept g w w') {B : Nat} (hB : B ≤ g) (hs : B ≤ w.heap.size) : Below B w w' := ⟨h.os, h.tape, h.output, h.size, fun k hk => h.block k (by omega) (by omega)⟩
theorem Kept.cell {g : Nat} {w w' : World} (h : Kept g w w') {b o : Nat} (hb : b < w.heap.size) (hg : b ≠ g) : w'.cell? ⟨b, o, none⟩ = w.cell? ⟨b, o, none⟩ := World.cell?_of_block (w := w) (h.block b hb hg)

/-- A code's bytes, L of them, in blocks below g. -/
def CodeAt (g L : Nat) (v : Value) (w : World) : Prop :=
  ∃ a cap, v = .slice a L cap ∧ L ≤ cap ∧ cap ≤ 2 ^ 47 ∧ L ≤ 1048576 ∧ ∀ i, i < L → ∃ b off x, a = some ⟨b, off, none⟩ ∧ b < g ∧ w.cell? ⟨b, off + i, none⟩ = some (.int .u8 x) ∧ 0 ≤ x ∧ x < 256
theorem CodeAt.low {g L : Nat} {v : Value} {w w' : World} (h : CodeAt g L v w) (hk : ∀ b, b < g → w'.heap[b]? = w.heap[b]?) : CodeAt g L v w' := by
  obtain ⟨a, cap, h1, h2, h3, h4, h5⟩ := h
  refine ⟨a, cap, h1, h2, h3, h4, fun i hi => ?_⟩
  obtain ⟨b, off, x, g1, g2, g4, g5⟩ := h5 i hi
  exact ⟨b, off, x, g1, g2, (World.cell?_of_block (w := w) (hk b g2)).trans g4, g5⟩

/-- Block g is a cursor, N bytes gone at most. -/
def Cur (g L : Nat) (v : Value) (N : Nat) (w : World) : Prop :=
  CodeAt g L v w ∧ ∃ at' sd : Int, w.heap[g]? = some (.cells #[v, .int .i64 at', .int .i64 sd] 91 (0, 0)) ∧ 0 ≤ at' ∧ at' ≤ N ∧ 0 ≤ sd ∧ sd < 2147483648
theorem Cur.lt {g L N : Nat} {v : Value} {w : World} (h : Cur g L v N w) : g < w.heap.size := by
  obtain ⟨_, _, _, h, _⟩ := h
  rcases Nat.lt_or_ge g w.heap.size with h1 | h1
  · exact h1
  · rw [Array.getElem?_eq_none h1] at h; cases h
theorem Cur.mono {g L N M : Nat} {v : Value} {w : World} (h : Cur g L v N w) (hN : N ≤ M) : Cur g L v M w := by
  obtain ⟨h1, a, s, h2, h3, h4, h5⟩ := h
  exact ⟨h1, a, s, h2, h3, by omega, h5⟩
theorem Cur.low {g L N : Nat} {v : Value} {w w' : World} (h : Cur g L v N w) (hb : ∀ b, b ≤ g → w'.heap[b]? = w.heap[b]?) : Cur g L v N w' := by
  obtain ⟨h1, a, s, h2, h3⟩ := h
  exact ⟨h1.low fun b hb' => hb b (by omega), a, s, (hb g (Nat.le_refl _)).trans h2, h3⟩
theorem Cur.below {g L N : Nat} {v : Value} {w w' : World} (h : Cur g L v N w) (hb : Below w.heap.size w w') : Cur g L v N w' := h.low fun b hb' => hb.block b (by have := h.lt; omega)
theorem Cur.alloc {g L N : Nat} {v : Value} {w : World} (h : Cur g L v N w) (o : Obj) : Cur g L v N (w.alloc o) := h.below ((Below.refl _ _).alloc (Nat.le_refl _) _)

theorem cur_cells {g : Nat} {v : Value} {at' sd : Int} {w : World} (h : w.heap[g]? = some (.cells #[v, .int .i64 at', .int .i64 sd] 91 (0, 0))) :
    w.cell? ⟨g, 0, none⟩ = some v ∧ w.cell? ⟨g, 1, none⟩ = some (.int .i64 at') ∧ w.cell? ⟨g, 2, none⟩ = some (.int .i64 sd) ∧ w.frozen? ⟨g, 1, none⟩ = false ∧ w.frozen? ⟨g, 2, none⟩ = false :=
  ⟨cell_of_heap h 0, cell_of_heap h 1, cell_of_heap h 2, frozen_of_heap h 1, frozen_of_heap h 2⟩

set_option maxRecDepth 40000 in
set_option maxHeartbeats 1000000 in
theorem dbyte_any (g L N : Nat) (v : Value) (w : World) (hc : Cur g L v N w) (hN : N ≤ 1099511627776) :
    Calls Tryz.prog 92 #[.pointer (some ⟨g, 0, none⟩)] w fun e w' => (∃ x : Int, e = .returned (.int .i64 x) ∧ 0 ≤ x ∧ x < 256) ∧ Cur g L v (N + 1) w' ∧ Kept g w w' := by
  have hgl := hc.lt
  obtain ⟨hcode, p, sd, hh, hp0, hp1, hs0, hs1⟩ := hc
  obtain ⟨f0, f1, f2, z1, z2⟩ := cur_cells hh
  have Hcode := hide hcode
  obtain ⟨a, cap, rfl, hLc, hcap, hL, hel⟩ := hcode
  -- the world behind the count
  obtain ⟨w1, hw1⟩ : ∃ w1, w1 = w.setCell ⟨g, 1, none⟩ (.int .i64 (p + 1)) := ⟨_, rfl⟩
  have hh1 : w1.heap[g]? = some (.cells #[.slice a L cap, .int .i64 (p + 1), .int .i64 sd] 91 (0, 0)) := by
    rw [hw1]; exact Row.setHeap hh 1 _
  have hk1 : Kept g w w1 := by rw [hw1]; exact (Kept.refl g w).set _ _
  have hend : ∀ (w' : World) (sd' : Int), w'.heap[g]? = some (.cells #[.slice a L cap, .int .i64 (p + 1), .int .i64 sd'] 91 (0, 0)) → Kept g w w' → 0 ≤ sd' → sd' < 2147483648 → Cur g L (.slice a L cap) (N + 1) w' ∧ Kept g w w' :=
    fun w' sd' h1 h2 h3 h4 => ⟨⟨(unhide Hcode).low fun b hb => h2.block b (by omega) (by omega), _, _, h1, by omega, by omega, h3, h4⟩, h2⟩
  have HEND := hide hend
  have HK1 := hide hk1
  have HH1 := hide hh1
  have HEL := hide hel
  have HW1 := hide hw1
  clear hh hend hk1 hh1 hel hw1
  by_cases hA : 4000 + 4 * (L : Int) < p + 1
  · go_enter Tryz.func92, Tryz.ntmps92
    go_wp2_with fail
    rw [← unhide HW1]
    obtain ⟨q0, q1, q2, y1, y2⟩ := cur_cells (unhide HH1)
    clear f0 f1 f2 z1 z2
    go_region
    go_wp2_with fail
    go_ret
    exact ⟨⟨0, rfl, by omega, by omega⟩, unhide HEND _ sd (unhide HH1) (unhide HK1).drew hs0 hs1⟩
  by_cases hB : (L : Int) < p + 1
  · go_enter Tryz.func92, Tryz.ntmps92
    go_wp2_with fail
    rw [← unhide HW1]
    obtain ⟨q0, q1, q2, y1, y2⟩ := cur_cells (unhide HH1)
    clear f0 f1 f2 z1 z2
    go_region
    go_wp2_with fail
    go_region
    go_wp2_with fail
    go_ret
    exact ⟨⟨_, rfl, by omega, by omega⟩, unhide HEND _ _ (Row.setHeap (unhide HH1) 2 _) (((unhide HK1).set _ _).drew.drew) (by omega) (by omega)⟩
  · obtain ⟨k, rfl⟩ : ∃ k : Nat, p = k := ⟨p.toNat, by omega⟩
    obtain ⟨b, off, x, rfl, hb1, hb3, hx0, hx1⟩ := unhide HEL k (by omega)
    have q3 : w1.cell? ⟨b, off + k, none⟩ = some (.int .u8 x) := ((unhide HK1).cell (by omega) (by omega)).trans hb3
    go_enter Tryz.func92, Tryz.ntmps92
    go_wp2_with fail
    rw [← unhide HW1]
    obtain ⟨q0, q1, q2, y1, y2⟩ := cur_cells (unhide HH1)
    clear f0 f1 f2 z1 z2 hb3
    go_region
    go_wp2_with fail
    go_region
    go_wp2_with fail
    have w0 : IntKind.i64.wrap ((k : Int) + 1 - 1) = (k : Int) := by rw [show (k : Int) + 1 - 1 = k from by omega, IntKind.wrap_i64]; omega
    have w2 : (0 : Int) ≤ (k : Int) := by omega
    have w3 : (k : Int) < (L : Int) := by omega
    have w4 : ((k : Int)).toNat = k := by omega
    have w5 : IntKind.i64.wrap (sd * 31) = sd * 31 := by rw [IntKind.wrap_i64]; omega
    have w6 : IntKind.i64.wrap (sd * 31 + x) = sd * 31 + x := by rw [IntKind.wrap_i64]; omega
    have w7 : IntKind.i64.wrap (sd * 31 + x + 7) = sd * 31 + x + 7 := by rw [IntKind.wrap_i64]; omega
    go_region
    go_wp2_with fail
    go_region
    go_wp2_with fail
    go_ret
    exact ⟨⟨x, rfl, hx0, by omega⟩, unhide HEND _ ((sd * 31 + x + 7) % 2147483648) (Row.setHeap (unhide HH1) 2 _) (((unhide HK1).set _ _).drew.drew.drew.drew) (by omega) (by omega)⟩

set_option maxRecDepth 40000 in
set_option maxHeartbeats 1000000 in
theorem dpick_any (g L N : Nat) (v : Value) (n : Int) (w : World) (hc : Cur g L v N w) (hN : N ≤ 1000000000000) (hn0 : -1000000 ≤ n) (hn : n ≤ 1000000000) :
    Calls Tryz.prog 54 #[.pointer (some ⟨g, 0, none⟩), .int .i64 n] w fun e w' => (∃ r : Nat, e = .returned (.int .i64 r) ∧ ((r : Int) < n ∨ (r = 0 ∧ n ≤ 1))) ∧ Cur g L v (N + 2) w' ∧ Kept g w w' := by
  by_cases h1 : n ≤ 1
  · have HC := hide hc
    clear hc
    go_enter Tryz.func54, Tryz.ntmps54
    go_wp2_with fail
    go_ret
    exact ⟨⟨0, rfl, .inr ⟨rfl, h1⟩⟩, (unhide HC).mono (by omega), Kept.refl _ _⟩
  by_cases h2 : n ≤ 256
  · have hb := hide (dbyte_any g L N v w hc (by omega))
    clear hc
    go_enter Tryz.func54, Tryz.ntmps54
    go_wp2_with fail
    refine (unhide hb).mono ?_
    rintro e w1 ⟨⟨x, rfl, hx0, hx1⟩, hc1, hk1⟩
    have HC := hide hc1
    have HK := hide hk1
    clear hc1 hk1
    go_wp2_with fail
    go_ret
    exact ⟨⟨(x % n).toNat, ret_int (by have := Int.emod_nonneg x (by omega : n ≠ 0); omega), .inl (by have := Int.emod_nonneg x (by omega : n ≠ 0); have := Int.emod_lt_of_pos x (by omega : 0 < n); omega)⟩, (unhide HC).mono (by omega), unhide HK⟩
  · have hb := hide (dbyte_any g L N v w hc (by omega))
    clear hc
    go_enter Tryz.func54, Tryz.ntmps54
    go_wp2_with fail
    refine (unhide hb).mono ?_
    rintro e w1 ⟨⟨x, rfl, hx0, hx1⟩, hc1, hk1⟩
    have hb2 := hide (dbyte_any g L (N + 1) v w1 hc1 (by omega))
    have HK := hide hk1
    clear hc1 hk1
    go_wp2_with fail
    refine (unhide hb2).mono ?_
    rintro e w2 ⟨⟨y, rfl, hy0, hy1⟩, hc2, hk2⟩
    have HC := hide hc2
    have HK2 := hide hk2
    clear hc2 hk2
    go_wp2_with fail
    go_ret
    exact ⟨⟨((x * 256 + y) % n).toNat, ret_int (by have := Int.emod_nonneg (x * 256 + y) (by omega : n ≠ 0); omega), .inl (by have := Int.emod_nonneg (x * 256 + y) (by omega : n ≠ 0); have := Int.emod_lt_of_pos (x * 256 + y) (by omega : 0 < n); omega)⟩, unhide HC, (unhide HK).trans (unhide HK2)⟩

set_option maxRecDepth 40000 in
set_option maxHeartbeats 1000000 in
theorem dsize_any (g L N : Nat) (v : Value) (w : World) (hc : Cur g L v N w) (hN : N ≤ 1000000000000) :
    Calls Tryz.prog 53 #[.pointer (some ⟨g, 0, none⟩), .int .i64 4] w fun e w' => (∃ r : Nat, e = .returned (.int .i64 r) ∧ r ≤ 4) ∧ Cur g L v (N + 2) w' ∧ Kept g w w' := by
  obtain ⟨hcode, p, sd, hh, hp0, hp1, hs0, hs1⟩ := id hc
  obtain ⟨f0, f1, f2, z1, z2⟩ := cur_cells hh
  obtain ⟨a, cap, rfl, hLc, hcap, hL, hel⟩ := hcode
  by_cases h4 : (4 : Int) < 1 + (L : Int) / 12
  · have hb := hide (dpick_any g L N _ 5 w hc hN (by omega) (by omega))
    clear hc hel hh z1 z2 f1 f2
    go_enter Tryz.func53, Tryz.ntmps53
    go_wp2_with fail
    refine (unhide hb).mono ?_
    rintro e w1 ⟨⟨r, rfl, hr⟩, hc1, hk1⟩
    have HC := hide hc1
    have HK := hide hk1
    clear hc1 hk1
    go_wp2_with fail
    go_ret
    exact ⟨⟨r, rfl, by omega⟩, unhide HC, unhide HK⟩
  · have hb := hide (dpick_any g L N _ (1 + (L : Int) / 12 + 1) w hc hN (by omega) (by omega))
    clear hc hel hh z1 z2 f1 f2
    go_enter Tryz.func53, Tryz.ntmps53
    go_wp2_with fail
    refine (unhide hb).mono ?_
    rintro e w1 ⟨⟨r, rfl, hr⟩, hc1, hk1⟩
    have HC := hide hc1
    have HK := hide hk1
    clear hc1 hk1
    go_wp2_with fail
    go_ret
    exact ⟨⟨r, rfl, by omega⟩, unhide HC, unhide HK⟩

end Go.Proofs.YthfjgffhncogaaaGreat
