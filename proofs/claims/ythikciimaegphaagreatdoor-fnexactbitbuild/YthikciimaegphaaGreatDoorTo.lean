/- The walks of toTerm and toTermS: a copy in new memory, by induction on the depth. -/
import Derived.Test.YthikciimaegphaaGreatDoorQ8
namespace Go.Proofs.YthikciimaegphaaGreatDoor
open Go.RowKit

/-- Blocks that are there in w' and weren't in w. -/
abbrev Fresh (w w' : World) : Nat → Prop := fun b => w.heap.size ≤ b ∧ b < w'.heap.size

def ToSaid (n : Nat) : Prop := ∀ (t : Tm n) (c0 c1 c2 c3 : Value) (w : World), TAt (Under w.heap.size) w n t c0 c1 c2 c3 → tot n t ≤ 1048576 →
  Calls Tryz.prog 36 #[.agg #[c0, c1, c2, c3]] w fun e w' => ∃ d0 d1 d2 d3, e = .returned (.agg #[d0, d1, d2, d3]) ∧ TAt (Fresh w w') w' n t d0 d1 d2 d3 ∧ Below w.heap.size w w'

def ToSSaid (n : Nat) : Prop := ∀ (ks : List (Tm n)) (v : Value) (w : World), SAt (Under w.heap.size) w (TAt (Under w.heap.size) w n) ks v → ks.length + totS ks ≤ 1048576 →
  Calls Tryz.prog 57 #[v] w fun e w' => ∃ u, e = .returned u ∧ SAt (Fresh w w') w' (TAt (Fresh w w') w' n) ks u ∧ Below w.heap.size w w'

/-- The cells of a new slice of terms. -/
def zeros (n : Nat) : Array Value := madeCells #[.int .i64 0, .int .i64 0, .string ⟨#[]⟩, .slice none 0 0] n
theorem zeros_size (n : Nat) : (zeros n).size = n := size_madeCells _ _

theorem run_mk (n : Nat) (hn : n ≤ 1048576) (w : World) : (Instr.makeSlice 36 (.int .i64 n) (.int .i64 n)).run Tryz.prog w =
    .ok (.slice (some ⟨w.heap.size, 0, none⟩) n n) (w.alloc (.cells (zeros (n * 4)) 38)) := by
  have := run_make (P := Tryz.prog) w 36 38 (Tryz.prog.types[38]!) (.agg #[.int .i64 0, .int .i64 0, .string ⟨#[]⟩, .slice none 0 0]) (by kernel_rfl) (by kernel_rfl) (by kernel_rfl) .i64 .i64 n n (by omega) (Int.le_refl _)
    (by rw [show (Tryz.prog.types[38]!).bytes = 56 from by kernel_rfl]; omega) (by omega)
  rw [this, show (Tryz.prog.types[38]!).size = 4 from by kernel_rfl]
  rfl

/-- A row of N cells, block B, none frozen. -/
def Row (B : Nat) (e : TypeId) (N : Nat) (w : World) : Prop := ∃ arr, w.heap[B]? = some (.cells arr e (0, 0)) ∧ arr.size = N

theorem Row.cell {B N : Nat} {e : TypeId} {w : World} (h : Row B e N w) {o : Nat} (ho : o < N) : (∃ v, w.cell? ⟨B, o, none⟩ = some v) := by
  obtain ⟨arr, h1, h2⟩ := h
  exact ⟨arr[o]'(by omega), by simp [World.cell?, h1, h2, ho]⟩
theorem Row.lt {B N : Nat} {e : TypeId} {w : World} (h : Row B e N w) : B < w.heap.size := by
  obtain ⟨arr, h1, h2⟩ := h
  rcases Nat.lt_or_ge B w.heap.size with h | h
  · exact h
  · rw [Array.getElem?_eq_none h] at h1; cases h1
theorem Row.frozen {B N : Nat} {e : TypeId} {w : World} (h : Row B e N w) (o : Nat) : w.frozen? ⟨B, o, none⟩ = false := by
  obtain ⟨arr, h1, h2⟩ := h
  simp [World.frozen?, h1]
theorem Row.keep {B N : Nat} {e : TypeId} {w w' : World} (h : Row B e N w) (hb : w'.heap[B]? = w.heap[B]?) : Row B e N w' := by
  obtain ⟨arr, h1, h2⟩ := h
  exact ⟨arr, by rw [hb, h1], h2⟩
theorem Row.setHeap {B : Nat} {e : TypeId} {w : World} {arr : Array Value} (h1 : w.heap[B]? = some (.cells arr e (0, 0))) (o : Nat) (v : Value) :
    (w.setCell ⟨B, o, none⟩ v).heap[B]? = some (.cells (arr.setIfInBounds o v) e (0, 0)) := by
  simp only [World.setCell, Array.getElem?_modify, if_true, h1, Option.map_some, Option.isSome_none, Bool.false_eq_true, if_false]
theorem Row.set {B N : Nat} {e : TypeId} {w : World} (h : Row B e N w) (o : Nat) (v : Value) : Row B e N (w.setCell ⟨B, o, none⟩ v) := by
  obtain ⟨arr, h1, h2⟩ := h
  exact ⟨arr.setIfInBounds o v, Row.setHeap h1 o v, by simp [h2]⟩
theorem Row.set_get {B N : Nat} {e : TypeId} {w : World} (h : Row B e N w) {o : Nat} (ho : o < N) (v : Value) : (w.setCell ⟨B, o, none⟩ v).cell? ⟨B, o, none⟩ = some v := by
  obtain ⟨arr, h1, h2⟩ := h
  simp [World.cell?, Row.setHeap h1 o v, h2, ho]
theorem Row.set_ne {B N : Nat} {e : TypeId} {w : World} (h : Row B e N w) {o o' : Nat} (hne : o ≠ o') (v : Value) : (w.setCell ⟨B, o, none⟩ v).cell? ⟨B, o', none⟩ = w.cell? ⟨B, o', none⟩ := by
  obtain ⟨arr, h1, h2⟩ := h
  simp [World.cell?, Row.setHeap h1 o v, h1, hne]
theorem Row.new {e : TypeId} (w : World) (arr : Array Value) : Row w.heap.size e arr.size (w.alloc (.cells arr e)) := ⟨arr, by show (w.heap.push _)[_]? = _; simp, rfl⟩

theorem frozen_of_heap {w : World} {b : Nat} {arr : Array Value} {e : TypeId} (h : w.heap[b]? = some (.cells arr e (0, 0))) (o : Nat) : w.frozen? ⟨b, o, none⟩ = false := by simp [World.frozen?, h]

/-- Four cells stored, one behind the other. -/
def set4 (w : World) (B o : Nat) (d0 d1 d2 d3 : Value) : World :=
  (((w.setCell ⟨B, o, none⟩ d0).setCell ⟨B, o + 1, none⟩ d1).setCell ⟨B, o + 2, none⟩ d2).setCell ⟨B, o + 3, none⟩ d3

theorem set4_facts {B N : Nat} {e : TypeId} {w : World} (h : Row B e N w) {o : Nat} (ho : o + 3 < N) (d0 d1 d2 d3 : Value) :
    Row B e N (set4 w B o d0 d1 d2 d3) ∧ (set4 w B o d0 d1 d2 d3).cell? ⟨B, o, none⟩ = some d0 ∧ (set4 w B o d0 d1 d2 d3).cell? ⟨B, o + 1, none⟩ = some d1 ∧
    (set4 w B o d0 d1 d2 d3).cell? ⟨B, o + 2, none⟩ = some d2 ∧ (set4 w B o d0 d1 d2 d3).cell? ⟨B, o + 3, none⟩ = some d3 ∧
    (∀ o', o' < o → (set4 w B o d0 d1 d2 d3).cell? ⟨B, o', none⟩ = w.cell? ⟨B, o', none⟩) ∧ Below B w (set4 w B o d0 d1 d2 d3) ∧
    (∀ b, b ≠ B → (set4 w B o d0 d1 d2 d3).heap[b]? = w.heap[b]?) := by
  have r1 := h.set o d0
  have r2 := r1.set (o + 1) d1
  have r3 := r2.set (o + 2) d2
  have r4 := r3.set (o + 3) d3
  refine ⟨r4, ?_, ?_, ?_, ?_, fun o' ho' => ?_, ?_, fun b hb => ?_⟩ <;> unfold set4
  · rw [r3.set_ne (by omega), r2.set_ne (by omega), r1.set_ne (by omega), h.set_get (by omega)]
  · rw [r3.set_ne (by omega), r2.set_ne (by omega), r1.set_get (by omega)]
  · rw [r3.set_ne (by omega), r2.set_get (by omega)]
  · rw [r3.set_get (by omega)]
  · rw [r3.set_ne (by omega), r2.set_ne (by omega), r1.set_ne (by omega), h.set_ne (by omega)]
  · exact ((((Below.refl B w).setCell (p := ⟨B, _, none⟩) (Nat.le_refl B) _).setCell (p := ⟨B, _, none⟩) (Nat.le_refl B) _).setCell (p := ⟨B, _, none⟩) (Nat.le_refl B) _).setCell (p := ⟨B, _, none⟩) (Nat.le_refl B) _
  · rw [Below.heap_setCell _ _ _ _ hb, Below.heap_setCell _ _ _ _ hb, Below.heap_setCell _ _ _ _ hb, Below.heap_setCell _ _ _ _ hb]

set_option maxHeartbeats 1000000 in
theorem toS_of {n : Nat} (h : ToSaid n) : ToSSaid n := by
  intro ks v w hv htot
  obtain ⟨a, cap, rfl, hlen, hcap, hel⟩ := hv
  have hmk := run_mk ks.length (by omega)
  go_enter Tryz.func57, Tryz.ntmps57
  go_wp2_with fail
  clear hmk
  go_loopw [4] (fun iv wr => ∃ k : Nat, k ≤ ks.length ∧ iv = .int .i64 k ∧ Below w.heap.size w wr ∧ Row w.heap.size 38 (ks.length * 4) wr ∧
      ∀ j (hj : j < ks.length), j < k → ∃ d0 d1 d2 d3, wr.cell? ⟨w.heap.size, j * 4, none⟩ = some d0 ∧ wr.cell? ⟨w.heap.size, j * 4 + 1, none⟩ = some d1 ∧
        wr.cell? ⟨w.heap.size, j * 4 + 2, none⟩ = some d2 ∧ wr.cell? ⟨w.heap.size, j * 4 + 3, none⟩ = some d3 ∧ TAt (fun b => w.heap.size < b ∧ b < wr.heap.size) wr n ks[j] d0 d1 d2 d3) (fun iv _ => ks.length - (intOf iv).toNat)
  case atStart =>
    refine ⟨0, by omega, rfl, (Below.refl _ _).alloc (Nat.le_refl _) _, ?_, fun j _ hj => absurd hj (by omega)⟩
    have := Row.new (e := 38) w (zeros (ks.length * 4))
    rwa [zeros_size] at this
  case round =>
    obtain ⟨k, hk, rfl, hb, hrow, hall⟩ := hrel
    by_cases hlt : k < ks.length
    · obtain ⟨b, off, d0, d1, d2, d3, rfl, hS, e0, e1, e2, e3, hr⟩ := hel k hlt
      have hbc := bcell hb
      have f0 := (hbc b _ hS).trans e0
      have f1 := (hbc b _ hS).trans e1
      have f2 := (hbc b _ hS).trans e2
      have f3 := (hbc b _ hS).trans e3
      have ht : tot n ks[k] ≤ 1048576 := by
        have := totS_take ks k hlt
        have := totS_le ks (k + 1)
        omega
      clear hbc e0 e1 e2 e3
      go_wp2_with fail
      refine (h _ _ _ _ _ _ (hr.up hb) ht).mono ?_
      rintro e w1 ⟨g0, g1, g2, g3, rfl, hg, hb1⟩
      have hrow1 := hrow.keep (hb1.block _ hrow.lt)
      obtain ⟨v0, x0⟩ := hrow1.cell (o := k * 4) (by omega)
      obtain ⟨v1, x1⟩ := hrow1.cell (o := k * 4 + 1) (by omega)
      obtain ⟨v2, x2⟩ := hrow1.cell (o := k * 4 + 2) (by omega)
      obtain ⟨v3, x3⟩ := hrow1.cell (o := k * 4 + 3) (by omega)
      have z0 := hrow1.frozen (k * 4)
      have z1 := hrow1.frozen (k * 4 + 1)
      have z2 := hrow1.frozen (k * 4 + 2)
      have z3 := hrow1.frozen (k * 4 + 3)
      obtain ⟨gk, gm, gs, ga, gl, gc, rfl, rfl, rfl, rfl⟩ := hg.shape
      have HF : Hid _ := set4_facts hrow1 (o := k * 4) (by omega) (.int .i64 gk) (.int .i64 gm) (.string gs) (.slice ga gl gc)
      clear f0 f1 f2 f3
      go_wp2_with fail
      clear x0 x1 x2 x3 z0 z1 z2 z3
      obtain ⟨s1, s2, s3, s4, s5, s6, s7, s8⟩ := HF.out
      go_roundw
      case rel =>
        refine ⟨k + 1, hlt, by go_num, (hb.trans (hb1.mono hb.size)).trans s7, s1, fun j hj hjk => ?_⟩
        by_cases hjk2 : j = k
        · subst hjk2
          refine ⟨_, _, _, _, s2, s3, s4, s5, ?_⟩
          have hlt2 := hrow.lt
          exact (hg.keep fun b hb => s8 b (by omega)).mono fun b hb => ⟨by omega, Nat.lt_of_lt_of_le hb.2 s7.size⟩
        · obtain ⟨q0, q1, q2, q3, y0, y1, y2, y3, hq⟩ := hall j hj (by omega)
          have hkeep : ∀ b, (w.heap.size < b ∧ b < wr.heap.size) → (set4 w1 w.heap.size (k * 4) (.int .i64 gk) (.int .i64 gm) (.string gs) (.slice ga gl gc)).heap[b]? = wr.heap[b]? :=
            fun b hb => (s8 b (by omega)).trans (hb1.block b hb.2)
          have hc1 : ∀ o, w1.cell? ⟨w.heap.size, o, none⟩ = wr.cell? ⟨w.heap.size, o, none⟩ := fun o => World.cell?_of_block (w := wr) (hb1.block _ hrow.lt)
          refine ⟨q0, q1, q2, q3, ?_, ?_, ?_, ?_, (hq.keep hkeep).mono fun b hb => ⟨hb.1, Nat.lt_of_lt_of_le hb.2 (Nat.le_trans hb1.size s7.size)⟩⟩
          · exact ((s6 _ (by omega)).trans (hc1 _)).trans y0
          · exact ((s6 _ (by omega)).trans (hc1 _)).trans y1
          · exact ((s6 _ (by omega)).trans (hc1 _)).trans y2
          · exact ((s6 _ (by omega)).trans (hc1 _)).trans y3
      case measure => simp [intOf]; omega
    · have hkk : k = ks.length := by omega
      subst hkk
      have hlt2 := hrow.lt
      go_wp2_with fail
      go_ret
      refine ⟨_, rfl, ⟨_, _, rfl, Nat.le_refl _, by omega, fun i hi => ?_⟩, hb⟩
      obtain ⟨q0, q1, q2, q3, y0, y1, y2, y3, hq⟩ := hall i hi hi
      exact ⟨_, 0, q0, q1, q2, q3, rfl, ⟨Nat.le_refl _, hlt2⟩, by simpa using y0, by simpa using y1, by simpa using y2, by simpa using y3, hq.mono fun b hb => ⟨by omega, hb.2⟩⟩

set_option maxHeartbeats 1000000 in
theorem to_of {n : Nat} (h : ToSSaid n) : ToSaid (n + 1) := by
  rintro ⟨kd, m, s, ks⟩ c0 c1 c2 c3 w ⟨rfl, rfl, rfl, hk, hm, hs, hks⟩ ht
  have hdef : tot (n + 1) (kd, m, s, ks) = s.size + (ks.length + totS ks) := rfl
  rw [hdef] at ht
  clear hdef
  go_enter Tryz.func36, Tryz.ntmps36
  go_wp2_with fail
  have hb3 : Below w.heap.size w (((w.alloc (.cells #[.int .i64 kd, .int .i64 m, .string s, c3] 47)).alloc (.cells #[.int .i64 0, .int .i64 0, .string ⟨#[]⟩, .slice none 0 0] 38)).alloc (.cells #[.int .i64 kd, .int .i64 m, .string s, .slice none 0 0] 38)) :=
    (below_two _ _ _).alloc (by simp; omega) _
  refine (h _ _ _ (hks.up hb3) (by omega)).mono ?_
  rintro e w1 ⟨u, rfl, hu, hb1⟩
  have HU := hide hu
  obtain ⟨ua, uc, rfl, -, -, -⟩ := hu
  have hblk := hb1.block
  have hh1 : w1.heap[w.heap.size + 1]? = some (.cells #[.int .i64 0, .int .i64 0, .string ⟨#[]⟩, .slice none 0 0] 38) := by
    rw [hblk _ (by simp), Below.heap_alloc _ _ _ (by simp)]
    have := heap_new (w.alloc (.cells #[.int .i64 kd, .int .i64 m, .string s, c3] 47)) (.cells #[.int .i64 0, .int .i64 0, .string ⟨#[]⟩, .slice none 0 0] 38)
    rwa [World.size_alloc] at this
  have hh2 : w1.heap[w.heap.size + 1 + 1]? = some (.cells #[.int .i64 kd, .int .i64 m, .string s, .slice none 0 0] 38) := by
    rw [hblk _ (by simp)]
    have := heap_new ((w.alloc (.cells #[.int .i64 kd, .int .i64 m, .string s, c3] 47)).alloc (.cells #[.int .i64 0, .int .i64 0, .string ⟨#[]⟩, .slice none 0 0] 38)) (.cells #[.int .i64 kd, .int .i64 m, .string s, .slice none 0 0] 38)
    rwa [World.size_alloc, World.size_alloc] at this
  have h1 := cell_of_heap hh1
  have h2 := cell_of_heap hh2
  have f1 := frozen_of_heap hh1
  have f2 := frozen_of_heap hh2
  have hsz : w.heap.size + 1 + 1 + 1 ≤ w1.heap.size := by simpa using hb1.size
  have HB : Hid (Below w.heap.size w w1) := hb3.trans (hb1.mono (by simp; omega))
  clear hblk hh1 hh2
  go_wp2_with fail
  refine bodyPost_ret (v := .agg #[.int .i64 kd, .int .i64 m, .string s, .slice ua ks.length uc]) (by simp [results, Tryz.results36, go_sem, h1]) rfl ⟨_, _, _, _, rfl, ⟨rfl, rfl, rfl, hk, hm, hs, ?_⟩, ?_⟩
  · have hkeep : ∀ b, w.heap.size + 1 + 1 + 1 ≤ b → (((((w1.setCell ⟨w.heap.size + 1 + 1, 3, none⟩ (.slice ua ks.length uc)).setCell ⟨w.heap.size + 1, 0, none⟩ (.int .i64 kd)).setCell ⟨w.heap.size + 1, 1, none⟩ (.int .i64 m)).setCell
        ⟨w.heap.size + 1, 2, none⟩ (.string s)).setCell ⟨w.heap.size + 1, 3, none⟩ (.slice ua ks.length uc)).heap[b]? = w1.heap[b]? := fun b hb => by
      rw [Below.heap_setCell _ _ _ _ (by simp; omega), Below.heap_setCell _ _ _ _ (by simp; omega), Below.heap_setCell _ _ _ _ (by simp; omega), Below.heap_setCell _ _ _ _ (by simp; omega), Below.heap_setCell _ _ _ _ (by simp; omega)]
    have hf : ∀ b, Fresh (((w.alloc (.cells #[.int .i64 kd, .int .i64 m, .string s, c3] 47)).alloc (.cells #[.int .i64 0, .int .i64 0, .string ⟨#[]⟩, .slice none 0 0] 38)).alloc (.cells #[.int .i64 kd, .int .i64 m, .string s, .slice none 0 0] 38)) w1 b →
        w.heap.size + 1 + 1 + 1 ≤ b ∧ b < w1.heap.size := fun b hb => by simpa [Fresh] using hb
    have hk2 := fun b hb => hkeep b (hf b hb).1
    exact ((unhide HU).keep hk2 fun _ _ _ _ _ _ ht => ht.keep hk2).mono (fun b hb => ⟨by have := hf b hb; omega, by have := hf b hb; simpa using this.2⟩) fun _ _ _ _ _ _ ht => ht.mono fun b hb => ⟨by have := hf b hb; omega, by have := hf b hb; simpa using this.2⟩
  · exact (((((HB.out.setCell (p := ⟨_, _, none⟩) (by simp; omega) _).setCell (p := ⟨_, _, none⟩) (by simp) _).setCell (p := ⟨_, _, none⟩) (by simp) _).setCell (p := ⟨_, _, none⟩) (by simp) _).setCell (p := ⟨_, _, none⟩) (by simp) _)

theorem to_any : ∀ n, ToSaid n
  | 0 => fun t => t.elim
  | n + 1 => to_of (toS_of (to_any n))

end Go.Proofs.YthikciimaegphaaGreatDoor
