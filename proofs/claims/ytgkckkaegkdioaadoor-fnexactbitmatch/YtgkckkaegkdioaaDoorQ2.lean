/- The walks of toTerm and toTermS: a copy in new memory, by induction on the depth. -/
import Derived.Test.YtgkckkaegkdioaaDoorQ1
import Derived.Test.YtgkckkaegkdioaaDoorRows
import Derived.WalkSpells
import Derived.WalkLawsBesides
import Derived.BigQuiet
import Derived.Deep.OwnRows
namespace Go.Proofs.YtgkckkaegkdioaaDoor
open Go.RowKit

/-- Blocks that are there in w' and weren't in w. -/
abbrev Fresh (w w' : World) : Nat → Prop := fun b => w.heap.size ≤ b ∧ b < w'.heap.size

def ToSaid (n : Nat) : Prop := ∀ (t : Tm n) (c0 c1 c2 c3 : Value) (w : World), TAt (Under w.heap.size) w n t c0 c1 c2 c3 → tot n t ≤ 1048576 →
  Calls Tryd.prog 33 #[.agg #[c0, c1, c2, c3]] w fun e w' => ∃ d0 d1 d2 d3, e = .returned (.agg #[d0, d1, d2, d3]) ∧ TAt (Fresh w w') w' n t d0 d1 d2 d3 ∧ Below w.heap.size w w'

def ToSSaid (n : Nat) : Prop := ∀ (ks : List (Tm n)) (v : Value) (w : World), SAt (Under w.heap.size) w (TAt (Under w.heap.size) w n) ks v → ks.length + totS ks ≤ 1048576 →
  Calls Tryd.prog 43 #[v] w fun e w' => ∃ u, e = .returned u ∧ SAt (Fresh w w') w' (TAt (Fresh w w') w' n) ks u ∧ Below w.heap.size w w'

/-- The cells of a new slice of terms. -/
def zeros (n : Nat) : Array Value := madeCells #[.int .i64 0, .int .i64 0, .string ⟨#[]⟩, .slice none 0 0] n
theorem zeros_size (n : Nat) : (zeros n).size = n := size_madeCells _ _

theorem run_mk (n : Nat) (hn : n ≤ 1048576) (w : World) : (Instr.makeSlice 27 (.int .i64 n) (.int .i64 n)).run Tryd.prog w =
    .ok (.slice (some ⟨w.heap.size, 0, none⟩) n n) (w.alloc (.cells (zeros (n * 4)) 48)) := by
  have := run_make (P := Tryd.prog) w 27 48 (Tryd.prog.types[48]!) (.agg #[.int .i64 0, .int .i64 0, .string ⟨#[]⟩, .slice none 0 0]) (by kernel_rfl) (by kernel_rfl) (by kernel_rfl) .i64 .i64 n n (by omega) (Int.le_refl _)
    (by rw [show (Tryd.prog.types[48]!).bytes = 56 from by kernel_rfl]; omega) (by omega)
  rw [this, show (Tryd.prog.types[48]!).size = 4 from by kernel_rfl]
  rfl

/-- A row of N cells, block B, none frozen. -/
def Row (B : Nat) (e : TypeId) (N : Nat) (w : World) : Prop := ∃ arr, w.heap[B]? = some (.cells arr e (0, 0)) ∧ arr.size = N

theorem Row.cell {B N : Nat} {e : TypeId} {w : World} (h : Row B e N w) {o : Nat} (ho : o < N) : (∃ v, w.cell? ⟨B, o, none⟩ = some v) := by
  obtain ⟨arr, h1, h2⟩ := h
  exact ⟨arr[o]'(by omega), by simp [World.cell?, h1, h2, ho]⟩
theorem Row.lt {B N : Nat} {e : TypeId} {w : World} (h : Row B e N w) : B < w.heap.size := by
  obtain ⟨arr, h1, h2⟩ := h
  rcases Nat.lt_or_ge B w.heap.size with h | h
  · exact h
  · rw [Array.getElem?_eq_none h] at h1; cases h1
theorem Row.frozen {B N : Nat} {e : TypeId} {w : World} (h : Row B e N w) (o : Nat) : w.frozen? ⟨B, o, none⟩ = false := by
  obtain ⟨arr, h1, h2⟩ := h
  simp [World.frozen?, h1]
theorem Row.keep {B N : Nat} {e : TypeId} {w w' : World} (h : Row B e N w) (hb : w'.heap[B]? = w.heap[B]?) : Row B e N w' := by
  obtain ⟨arr, h1, h2⟩ := h
  exact ⟨arr, by rw [hb, h1], h2⟩
theorem Row.setHeap {B : Nat} {e : TypeId} {w : World} {arr : Array Value} (h1 : w.heap[B]? = some (.cells arr e (0, 0))) (o : Nat) (v : Value) :
    (w.setCell ⟨B, o, none⟩ v).heap[B]? = some (.cells (arr.setIfInBounds o v) e (0, 0)) := by
  simp only [World.setCell, Array.getElem?_modify, if_true, h1, Option.map_some, Option.isSome_none, Bool.false_eq_true, if_false]
theorem Row.set {B N : Nat} {e : TypeId} {w : World} (h : Row B e N w) (o : Nat) (v : Value) : Row B e N (w.setCell ⟨B, o, none⟩ v) := by
  obtain ⟨arr, h1, h2⟩ := h
  exact ⟨arr.setIfInBounds o v, Row.setHeap h1 o v, by simp [h2]⟩
theorem Row.set_get {B N : Nat} {e : TypeId} {w : World} (h : Row B e N w) {o : Nat} (ho : o < N) (v : Value) : (w.setCell ⟨B, o, none⟩ v).cell? ⟨B, o, none⟩ = some v := by
  obtain ⟨arr, h1, h2⟩ := h
  simp [World.cell?, Row.setHeap h1 o v, h2, ho]
theorem Row.set_ne {B N : Nat} {e : TypeId} {w : World} (h : Row B e N w) {o o' : Nat} (hne : o ≠ o') (v : Value) : (w.setCell ⟨B, o, none⟩ v).cell? ⟨B, o', none⟩ = w.cell? ⟨B, o', none⟩ := by
  obtain ⟨arr, h1, h2⟩ := h
  simp [World.cell?, Row.setHeap h1 o v, h1, hne]
theorem Row.new {e : TypeId} (w : World) (arr : Array Value) : Row w.heap.size e arr.size (w.alloc (.cells arr e)) := ⟨arr, by show (w.heap.push _)[_]? = _; simp, rfl⟩

theorem frozen_of_heap {w : World} {b : Nat} {arr : Array Value} {e : TypeId} (h : w.heap[b]? = some (.cells arr e (0, 0))) (o : Nat) : w.frozen? ⟨b, o, none⟩ = false := by simp [World.frozen?, h]

/-- Four cells stored, one behind the other. -/
def set4 (w : World) (B o : Nat) (d0 d1 d2 d3 : Value) : World :=
  (((w.setCell ⟨B, o, none⟩ d0).setCell ⟨B, o + 1, none⟩ d1).setCell ⟨B, o + 2, none⟩ d2).setCell ⟨B, o + 3, none⟩ d3

theorem set4_facts {B N : Nat} {e : TypeId} {w : World} (h : Row B e N w) {o : Nat} (ho : o + 3 < N) (d0 d1 d2 d3 : Value) :
    Row B e N (set4 w B o d0 d1 d2 d3) ∧ (set4 w B o d0 d1 d2 d3).cell? ⟨B, o, none⟩ = some d0 ∧ (set4 w B o d0 d1 d2 d3).cell? ⟨B, o + 1, none⟩ = some d1 ∧
    (set4 w B o d0 d1 d2 d3).cell? ⟨B, o + 2, none⟩ = some d2 ∧ (set4 w B o d0 d1 d2 d3).cell? ⟨B, o + 3, none⟩ = some d3 ∧
    (∀ o', o' < o → (set4 w B o d0 d1 d2 d3).cell? ⟨B, o', none⟩ = w.cell? ⟨B, o', none⟩) ∧ Below B w (set4 w B o d0 d1 d2 d3) ∧
    (∀ b, b ≠ B → (set4 w B o d0 d1 d2 d3).heap[b]? = w.heap[b]?) := by
  have r1 := h.set o d0
  have r2 := r1.set (o + 1) d1
  have r3 := r2.set (o + 2) d2
  have r4 := r3.set (o + 3) d3
  refine ⟨r4, ?_, ?_, ?_, ?_, fun o' ho' => ?_, ?_, fun b hb => ?_⟩ <;> unfold set4
  · rw [r3.set_ne (by omega), r2.set_ne (by omega), r1.set_ne (by omega), h.set_get (by omega)]
  · rw [r3.set_ne (by omega), r2.set_ne (by omega), r1.set_get (by omega)]
  · rw [r3.set_ne (by omega), r2.set_get (by omega)]
  · rw [r3.set_get (by omega)]
  · rw [r3.set_ne (by omega), r2.set_ne (by omega), r1.set_ne (by omega), h.set_ne (by omega)]
  · exact ((((Below.refl B w).setCell (p := ⟨B, _, none⟩) (Nat.le_refl B) _).setCell (p := ⟨B, _, none⟩) (Nat.le_refl B) _).setCell (p := ⟨B, _, none⟩) (Nat.le_refl B) _).setCell (p := ⟨B, _, none⟩) (Nat.le_refl B) _
  · rw [Below.heap_setCell _ _ _ _ hb, Below.heap_setCell _ _ _ _ hb, Below.heap_setCell _ _ _ _ hb, Below.heap_setCell _ _ _ _ hb]

set_option maxHeartbeats 1000000 in
theorem toS_of {n : Nat} (h : ToSaid n) : ToSSaid n := by
  intro ks v w hv htot
  obtain ⟨a, cap, rfl, hlen, hcap, hel⟩ := hv
  have hmk := run_mk ks.length (by omega)
  go_enter Tryd.func43, Tryd.ntmps43
  go_wp2_with fail
  clear hmk
  go_loopw [4] (fun iv wr => ∃ k : Nat, k ≤ ks.length ∧ iv = .int .i64 k ∧ Below w.heap.size w wr ∧ Row w.heap.size 48 (ks.length * 4) wr ∧
      ∀ j (hj : j < ks.length), j < k → ∃ d0 d1 d2 d3, wr.cell? ⟨w.heap.size, j * 4, none⟩ = some d0 ∧ wr.cell? ⟨w.heap.size, j * 4 + 1, none⟩ = some d1 ∧
        wr.cell? ⟨w.heap.size, j * 4 + 2, none⟩ = some d2 ∧ wr.cell? ⟨w.heap.size, j * 4 + 3, none⟩ = some d3 ∧ TAt (fun b => w.heap.size < b ∧ b < wr.heap.size) wr n ks[j] d0 d1 d2 d3) (fun iv _ => ks.length - (intOf iv).toNat)
  case atStart =>
    refine ⟨0, by omega, rfl, (Below.refl _ _).alloc (Nat.le_refl _) _, ?_, fun j _ hj => absurd hj (by omega)⟩
    have := Row.new (e := 48) w (zeros (ks.length * 4))
    rwa [zeros_size] at this
  case round =>
    obtain ⟨k, hk, rfl, hb, hrow, hall⟩ := hrel
    by_cases hlt : k < ks.length
    · obtain ⟨b, off, d0, d1, d2, d3, rfl, hS, e0, e1, e2, e3, hr⟩ := hel k hlt
      have hbc := bcell hb
      have f0 := (hbc b _ hS).trans e0
      have f1 := (hbc b _ hS).trans e1
      have f2 := (hbc b _ hS).trans e2
      have f3 := (hbc b _ hS).trans e3
      have ht : tot n ks[k] ≤ 1048576 := by
        have := totS_take ks k hlt
        have := totS_le ks (k + 1)
        omega
      clear hbc e0 e1 e2 e3
      go_wp2_with fail
      refine (h _ _ _ _ _ _ (hr.up hb) ht).mono ?_
      rintro e w1 ⟨g0, g1, g2, g3, rfl, hg, hb1⟩
      have hrow1 := hrow.keep (hb1.block _ hrow.lt)
      obtain ⟨v0, x0⟩ := hrow1.cell (o := k * 4) (by omega)
      obtain ⟨v1, x1⟩ := hrow1.cell (o := k * 4 + 1) (by omega)
      obtain ⟨v2, x2⟩ := hrow1.cell (o := k * 4 + 2) (by omega)
      obtain ⟨v3, x3⟩ := hrow1.cell (o := k * 4 + 3) (by omega)
      have z0 := hrow1.frozen (k * 4)
      have z1 := hrow1.frozen (k * 4 + 1)
      have z2 := hrow1.frozen (k * 4 + 2)
      have z3 := hrow1.frozen (k * 4 + 3)
      obtain ⟨gk, gm, gs, ga, gl, gc, rfl, rfl, rfl, rfl⟩ := hg.shape
      have HF : Hid _ := set4_facts hrow1 (o := k * 4) (by omega) (.int .i64 gk) (.int .i64 gm) (.string gs) (.slice ga gl gc)
      clear f0 f1 f2 f3
      go_wp2_with fail
      clear x0 x1 x2 x3 z0 z1 z2 z3
      obtain ⟨s1, s2, s3, s4, s5, s6, s7, s8⟩ := HF.out
      go_roundw
      case rel =>
        refine ⟨k + 1, hlt, by go_num, (hb.trans (hb1.mono hb.size)).trans s7, s1, fun j hj hjk => ?_⟩
        by_cases hjk2 : j = k
        · subst hjk2
          refine ⟨_, _, _, _, s2, s3, s4, s5, ?_⟩
          have hlt2 := hrow.lt
          exact (hg.keep fun b hb => s8 b (by omega)).mono fun b hb => ⟨by omega, Nat.lt_of_lt_of_le hb.2 s7.size⟩
        · obtain ⟨q0, q1, q2, q3, y0, y1, y2, y3, hq⟩ := hall j hj (by omega)
          have hkeep : ∀ b, (w.heap.size < b ∧ b < wr.heap.size) → (set4 w1 w.heap.size (k * 4) (.int .i64 gk) (.int .i64 gm) (.string gs) (.slice ga gl gc)).heap[b]? = wr.heap[b]? :=
            fun b hb => (s8 b (by omega)).trans (hb1.block b hb.2)
          have hc1 : ∀ o, w1.cell? ⟨w.heap.size, o, none⟩ = wr.cell? ⟨w.heap.size, o, none⟩ := fun o => World.cell?_of_block (w := wr) (hb1.block _ hrow.lt)
          refine ⟨q0, q1, q2, q3, ?_, ?_, ?_, ?_, (hq.keep hkeep).mono fun b hb => ⟨hb.1, Nat.lt_of_lt_of_le hb.2 (Nat.le_trans hb1.size s7.size)⟩⟩
          · exact ((s6 _ (by omega)).trans (hc1 _)).trans y0
          · exact ((s6 _ (by omega)).trans (hc1 _)).trans y1
          · exact ((s6 _ (by omega)).trans (hc1 _)).trans y2
          · exact ((s6 _ (by omega)).trans (hc1 _)).trans y3
      case measure => simp [intOf]; omega
    · have hkk : k = ks.length := by omega
      subst hkk
      have hlt2 := hrow.lt
      go_wp2_with fail
      go_ret
      refine ⟨_, rfl, ⟨_, _, rfl, Nat.le_refl _, by omega, fun i hi => ?_⟩, hb⟩
      obtain ⟨q0, q1, q2, q3, y0, y1, y2, y3, hq⟩ := hall i hi hi
      exact ⟨_, 0, q0, q1, q2, q3, rfl, ⟨Nat.le_refl _, hlt2⟩, by simpa using y0, by simpa using y1, by simpa using y2, by simpa using y3, hq.mono fun b hb => ⟨by omega, hb.2⟩⟩

set_option maxHeartbeats 1000000 in
theorem to_of {n : Nat} (h : ToSSaid n) : ToSaid (n + 1) := by
  rintro ⟨kd, m, s, ks⟩ c0 c1 c2 c3 w ⟨rfl, rfl, rfl, hk, hm, hs, hks⟩ ht
  have hdef : tot (n + 1) (kd, m, s, ks) = s.size + (ks.length + totS ks) := rfl
  rw [hdef] at ht
  clear hdef
  go_enter Tryd.func33, Tryd.ntmps33
  go_wp2_with fail
  have hb3 : Below w.heap.size w (((w.alloc (.cells #[.int .i64 kd, .int .i64 m, .string s, c3] 42)).alloc (.cells #[.int .i64 0, .int .i64 0, .string ⟨#[]⟩, .slice none 0 0] 48)).alloc (.cells #[.int .i64 kd, .int .i64 m, .string s, .slice none 0 0] 48)) :=
    (below_two _ _ _).alloc (by simp; omega) _
  refine (h _ _ _ (hks.up hb3) (by omega)).mono ?_
  rintro e w1 ⟨u, rfl, hu, hb1⟩
  have HU := hide hu
  obtain ⟨ua, uc, rfl, -, -, -⟩ := hu
  have hblk := hb1.block
  have hh1 : w1.heap[w.heap.size + 1]? = some (.cells #[.int .i64 0, .int .i64 0, .string ⟨#[]⟩, .slice none 0 0] 48) := by
    rw [hblk _ (by simp), Below.heap_alloc _ _ _ (by simp)]
    have := heap_new (w.alloc (.cells #[.int .i64 kd, .int .i64 m, .string s, c3] 42)) (.cells #[.int .i64 0, .int .i64 0, .string ⟨#[]⟩, .slice none 0 0] 48)
    rwa [World.size_alloc] at this
  have hh2 : w1.heap[w.heap.size + 1 + 1]? = some (.cells #[.int .i64 kd, .int .i64 m, .string s, .slice none 0 0] 48) := by
    rw [hblk _ (by simp)]
    have := heap_new ((w.alloc (.cells #[.int .i64 kd, .int .i64 m, .string s, c3] 42)).alloc (.cells #[.int .i64 0, .int .i64 0, .string ⟨#[]⟩, .slice none 0 0] 48)) (.cells #[.int .i64 kd, .int .i64 m, .string s, .slice none 0 0] 48)
    rwa [World.size_alloc, World.size_alloc] at this
  have h1 := cell_of_heap hh1
  have h2 := cell_of_heap hh2
  have f1 := frozen_of_heap hh1
  have f2 := frozen_of_heap hh2
  have hsz : w.heap.size + 1 + 1 + 1 ≤ w1.heap.size := by simpa using hb1.size
  have HB : Hid (Below w.heap.size w w1) := hb3.trans (hb1.mono (by simp; omega))
  clear hblk hh1 hh2
  go_wp2_with fail
  refine bodyPost_ret (v := .agg #[.int .i64 kd, .int .i64 m, .string s, .slice ua ks.length uc]) (by simp [results, Tryd.results33, go_sem, h1]) rfl ⟨_, _, _, _, rfl, ⟨rfl, rfl, rfl, hk, hm, hs, ?_⟩, ?_⟩
  · have hkeep : ∀ b, w.heap.size + 1 + 1 + 1 ≤ b → (((((w1.setCell ⟨w.heap.size + 1 + 1, 3, none⟩ (.slice ua ks.length uc)).setCell ⟨w.heap.size + 1, 0, none⟩ (.int .i64 kd)).setCell ⟨w.heap.size + 1, 1, none⟩ (.int .i64 m)).setCell
        ⟨w.heap.size + 1, 2, none⟩ (.string s)).setCell ⟨w.heap.size + 1, 3, none⟩ (.slice ua ks.length uc)).heap[b]? = w1.heap[b]? := fun b hb => by
      rw [Below.heap_setCell _ _ _ _ (by simp; omega), Below.heap_setCell _ _ _ _ (by simp; omega), Below.heap_setCell _ _ _ _ (by simp; omega), Below.heap_setCell _ _ _ _ (by simp; omega), Below.heap_setCell _ _ _ _ (by simp; omega)]
    have hf : ∀ b, Fresh (((w.alloc (.cells #[.int .i64 kd, .int .i64 m, .string s, c3] 42)).alloc (.cells #[.int .i64 0, .int .i64 0, .string ⟨#[]⟩, .slice none 0 0] 48)).alloc (.cells #[.int .i64 kd, .int .i64 m, .string s, .slice none 0 0] 48)) w1 b →
        w.heap.size + 1 + 1 + 1 ≤ b ∧ b < w1.heap.size := fun b hb => by simpa [Fresh] using hb
    have hk2 := fun b hb => hkeep b (hf b hb).1
    exact ((unhide HU).keep hk2 fun _ _ _ _ _ _ ht => ht.keep hk2).mono (fun b hb => ⟨by have := hf b hb; omega, by have := hf b hb; simpa using this.2⟩) fun _ _ _ _ _ _ ht => ht.mono fun b hb => ⟨by have := hf b hb; omega, by have := hf b hb; simpa using this.2⟩
  · exact (((((HB.out.setCell (p := ⟨_, _, none⟩) (by simp; omega) _).setCell (p := ⟨_, _, none⟩) (by simp) _).setCell (p := ⟨_, _, none⟩) (by simp) _).setCell (p := ⟨_, _, none⟩) (by simp) _).setCell (p := ⟨_, _, none⟩) (by simp) _)

theorem to_any : ∀ n, ToSaid n
  | 0 => fun t => t.elim
  | n + 1 => to_of (toS_of (to_any n))

end Go.Proofs.YtgkckkaegkdioaaDoor
/- Rows of elements of K cells: what lies in memory, for any kind of element. -/
namespace Go.Proofs.YtgkckkaegkdioaaDoor
open Go.RowKit

/-- A slice whose elements take K cells each; each stands for a member of ks, as R says. -/
def RAt {α : Type} (K : Nat) (S : Nat → Prop) (w : World) (R : α → List Value → Prop) (ks : List α) (v : Value) : Prop :=
  ∃ a cap, v = .slice a ks.length cap ∧ ks.length ≤ cap ∧ ks.length ≤ 2 ^ 47 ∧ ∀ i (h : i < ks.length), ∃ b off ds, a = some ⟨b, off, none⟩ ∧ S b ∧ ds.length = K ∧
    (∀ j, j < K → w.cell? ⟨b, off + i * K + j, none⟩ = ds[j]?) ∧ R ks[i] ds
theorem RAt.keep {α : Type} {K : Nat} {S : Nat → Prop} {w w' : World} {R R' : α → List Value → Prop} {ks : List α} {v : Value} (h : RAt K S w R ks v) (hk : ∀ b, S b → w'.heap[b]? = w.heap[b]?) (hR : ∀ t ∈ ks, ∀ ds, R t ds → R' t ds) : RAt K S w' R' ks v := by
  obtain ⟨a, cap, hv, h1, h2, h3⟩ := h
  refine ⟨a, cap, hv, h1, h2, fun i hi => ?_⟩
  obtain ⟨b, off, ds, e0, e1, e2, e3, hr⟩ := h3 i hi
  exact ⟨b, off, ds, e0, e1, e2, fun j hj => (World.cell?_of_block (w := w) (hk b e1)).trans (e3 j hj), hR _ (List.getElem_mem hi) _ hr⟩
theorem RAt.mono {α : Type} {K : Nat} {S S' : Nat → Prop} {w : World} {R R' : α → List Value → Prop} {ks : List α} {v : Value} (h : RAt K S w R ks v) (hk : ∀ b, S b → S' b) (hR : ∀ t ∈ ks, ∀ ds, R t ds → R' t ds) : RAt K S' w R' ks v := by
  obtain ⟨a, cap, hv, h1, h2, h3⟩ := h
  refine ⟨a, cap, hv, h1, h2, fun i hi => ?_⟩
  obtain ⟨b, off, ds, e0, e1, e2, e3, hr⟩ := h3 i hi
  exact ⟨b, off, ds, e0, hk b e1, e2, e3, hR _ (List.getElem_mem hi) _ hr⟩
theorem RAt.nil {α : Type} {K : Nat} {S : Nat → Prop} {w : World} {R : α → List Value → Prop} : RAt K S w R [] (.slice none 0 0) := ⟨none, 0, rfl, Nat.le_refl _, by simp, fun i hi => by cases hi⟩

/-- Cells stored, one behind the other. -/
def setL (w : World) (B o : Nat) : List Value → World
  | [] => w
  | d :: ds => setL (w.setCell ⟨B, o, none⟩ d) B (o + 1) ds
theorem setL_low {B o' : Nat} : ∀ (ds : List Value) {w : World} {o : Nat}, o' < o → (setL w B o ds).cell? ⟨B, o', none⟩ = w.cell? ⟨B, o', none⟩
  | [], _, _, _ => rfl
  | d :: ds, w, o, h => (setL_low ds (w := w.setCell ⟨B, o, none⟩ d) (by omega)).trans (World.cell?_setCell_other _ _ _ _ (by intro e; cases e; omega))
theorem setL_facts {B N : Nat} {e : TypeId} : ∀ (ds : List Value) {w : World} {o : Nat}, Row B e N w → o + ds.length ≤ N →
    Row B e N (setL w B o ds) ∧ (∀ j, j < ds.length → (setL w B o ds).cell? ⟨B, o + j, none⟩ = ds[j]?) ∧ Below B w (setL w B o ds) ∧ (∀ b, b ≠ B → (setL w B o ds).heap[b]? = w.heap[b]?) ∧ (setL w B o ds).heap.size = w.heap.size
  | [], w, o, h, _ => ⟨h, fun j hj => absurd hj (Nat.not_lt_zero j), Below.refl _ _, fun _ _ => rfl, rfl⟩
  | d :: ds, w, o, h, hl => by
    rw [List.length_cons] at hl
    obtain ⟨r1, r2, r3, r4, r5⟩ := setL_facts ds (w := w.setCell ⟨B, o, none⟩ d) (o := o + 1) (h.set o d) (by omega)
    refine ⟨r1, fun j hj => ?_, (((Below.refl B w).setCell (p := ⟨B, o, none⟩) (Nat.le_refl B) d)).trans r3, fun b hb => (r4 b hb).trans (Below.heap_setCell _ _ _ _ hb), r5.trans (by simp)⟩
    cases j with
    | zero => exact (setL_low ds (by omega)).trans (h.set_get (by omega) d)
    | succ j =>
      have := r2 j (by simpa using hj)
      rw [show o + (j + 1) = o + 1 + j by omega]
      exact this

theorem two_news (w : World) (x y : Obj) : ((w.alloc x).alloc y).heap[w.heap.size]? = some x ∧ ((w.alloc x).alloc y).heap[w.heap.size + 1]? = some y ∧ w.heap.size < ((w.alloc x).alloc y).heap.size ∧ w.heap.size + 1 < ((w.alloc x).alloc y).heap.size := by
  refine ⟨?_, ?_, by simp; omega, by simp⟩
  · rw [Below.heap_alloc _ _ _ (by simp)]; exact heap_new w x
  · have := heap_new (w.alloc x) y
    rwa [World.size_alloc] at this
theorem three_news (w : World) (x y z : Obj) : (((w.alloc x).alloc y).alloc z).heap[w.heap.size]? = some x ∧ (((w.alloc x).alloc y).alloc z).heap[w.heap.size + 1]? = some y ∧
    (((w.alloc x).alloc y).alloc z).heap[w.heap.size + 1 + 1]? = some z := by
  refine ⟨?_, ?_, ?_⟩
  · rw [Below.heap_alloc _ _ _ (by simp; omega), Below.heap_alloc _ _ _ (by simp)]; exact heap_new w x
  · rw [Below.heap_alloc _ _ _ (by simp)]
    have := heap_new (w.alloc x) y
    rwa [World.size_alloc] at this
  · have := heap_new ((w.alloc x).alloc y) z
    rwa [World.size_alloc, World.size_alloc] at this

end Go.Proofs.YtgkckkaegkdioaaDoor
/- Segments: what they are, how they lie in memory; szSeg, szSegS. -/
namespace Go.Proofs.YtgkckkaegkdioaaDoor
open Go.RowKit

/-- A segment: Type, Size, Unit, Signed, Little, V. -/
abbrev SgT (n : Nat) := Int × Int × Int × Bool × Bool × Tm n
def SgAt (S : Nat → Prop) (w : World) (n : Nat) (g : SgT n) (ds : List Value) : Prop := ∃ c0 c1 c2 c3, ds = [.int .i64 g.1, .int .i64 g.2.1, .int .i64 g.2.2.1, .bool g.2.2.2.1, .bool g.2.2.2.2.1, c0, c1, c2, c3] ∧
  In64 g.1 ∧ In64 g.2.1 ∧ In64 g.2.2.1 ∧ TAt S w n g.2.2.2.2.2 c0 c1 c2 c3
theorem SgAt.keep {S : Nat → Prop} {w w' : World} (hk : ∀ b, S b → w'.heap[b]? = w.heap[b]?) {n : Nat} {g : SgT n} {ds : List Value} (h : SgAt S w n g ds) : SgAt S w' n g ds := by
  obtain ⟨c0, c1, c2, c3, e, h1, h2, h3, ht⟩ := h
  exact ⟨c0, c1, c2, c3, e, h1, h2, h3, ht.keep hk⟩
theorem SgAt.mono {S S' : Nat → Prop} {w : World} (hk : ∀ b, S b → S' b) {n : Nat} {g : SgT n} {ds : List Value} (h : SgAt S w n g ds) : SgAt S' w n g ds := by
  obtain ⟨c0, c1, c2, c3, e, h1, h2, h3, ht⟩ := h
  exact ⟨c0, c1, c2, c3, e, h1, h2, h3, ht.mono hk⟩
def SgsAt (S : Nat → Prop) (w : World) (n : Nat) (gs : List (SgT n)) (v : Value) : Prop := RAt 9 S w (SgAt S w n) gs v
theorem SgsAt.keep {S : Nat → Prop} {w w' : World} (hk : ∀ b, S b → w'.heap[b]? = w.heap[b]?) {n : Nat} {gs : List (SgT n)} {v : Value} (h : SgsAt S w n gs v) : SgsAt S w' n gs v := RAt.keep h hk fun _ _ _ hr => hr.keep hk
theorem SgsAt.mono {S S' : Nat → Prop} {w : World} (hk : ∀ b, S b → S' b) {n : Nat} {gs : List (SgT n)} {v : Value} (h : SgsAt S w n gs v) : SgsAt S' w n gs v := RAt.mono h hk fun _ _ _ hr => hr.mono hk
theorem SgsAt.up {w w' : World} (hb : Below w.heap.size w w') {n : Nat} {gs : List (SgT n)} {v : Value} (h : SgsAt (Under w.heap.size) w n gs v) : SgsAt (Under w'.heap.size) w' n gs v :=
  (h.keep fun b hb' => hb.block b hb').mono fun _ hb' => Nat.lt_of_lt_of_le hb' hb.size
theorem SgAt.up {w w' : World} (hb : Below w.heap.size w w') {n : Nat} {g : SgT n} {ds : List Value} (h : SgAt (Under w.heap.size) w n g ds) : SgAt (Under w'.heap.size) w' n g ds :=
  (h.keep fun b hb' => hb.block b hb').mono fun _ hb' => Nat.lt_of_lt_of_le hb' hb.size

/-- The cells of a place's element. -/
theorem SgsAt.at {S : Nat → Prop} {w : World} {n : Nat} {gs : List (SgT n)} {a : Option Addr} {l cap : Nat} (h : SgsAt S w n gs (.slice a l cap)) (i : Nat) (hi : i < gs.length) : ∃ b off k m s u, a = some ⟨b, off, none⟩ ∧ S b ∧
    w.cell? ⟨b, off + i * 9, none⟩ = some (.int .i64 gs[i].1) ∧ w.cell? ⟨b, off + i * 9 + 1, none⟩ = some (.int .i64 gs[i].2.1) ∧ w.cell? ⟨b, off + i * 9 + 2, none⟩ = some (.int .i64 gs[i].2.2.1) ∧
    w.cell? ⟨b, off + i * 9 + 3, none⟩ = some (.bool gs[i].2.2.2.1) ∧ w.cell? ⟨b, off + i * 9 + 4, none⟩ = some (.bool gs[i].2.2.2.2.1) ∧ w.cell? ⟨b, off + i * 9 + 5, none⟩ = some (.int .i64 k) ∧
    w.cell? ⟨b, off + i * 9 + 6, none⟩ = some (.int .i64 m) ∧ w.cell? ⟨b, off + i * 9 + 7, none⟩ = some (.string s) ∧ w.cell? ⟨b, off + i * 9 + 8, none⟩ = some u ∧
    In64 gs[i].1 ∧ In64 gs[i].2.1 ∧ In64 gs[i].2.2.1 ∧ TAt S w n gs[i].2.2.2.2.2 (.int .i64 k) (.int .i64 m) (.string s) u := by
  obtain ⟨a', cap', hv, h1, h2, h3⟩ := h
  cases hv
  obtain ⟨b, off, ds, e0, e1, e2, e3, c0, c1, c2, c3, rfl, i1, i2, i3, ht⟩ := h3 i hi
  obtain ⟨k, m, s, ua, ul, uc, rfl, rfl, rfl, rfl⟩ := ht.shape
  exact ⟨b, off, k, m, s, _, e0, e1, e3 0 (by omega), e3 1 (by omega), e3 2 (by omega), e3 3 (by omega), e3 4 (by omega), e3 5 (by omega), e3 6 (by omega), e3 7 (by omega), e3 8 (by omega), i1, i2, i3, ht⟩

def totG {n : Nat} (gs : List (SgT n)) : Nat := (gs.map fun g => tot n g.2.2.2.2.2).sum
theorem totG_take {n : Nat} (gs : List (SgT n)) (k : Nat) (h : k < gs.length) : totG (gs.take (k + 1)) = totG (gs.take k) + tot n gs[k].2.2.2.2.2 := by
  unfold totG; rw [List.take_succ_eq_append_getElem h, List.map_append, List.sum_append]; simp only [List.map_cons, List.map_nil, List.sum_cons, List.sum_nil, Nat.add_zero]
theorem totG_le {n : Nat} (gs : List (SgT n)) (k : Nat) : totG (gs.take k) ≤ totG gs := by
  have : totG gs = totG (gs.take k) + totG (gs.drop k) := by unfold totG; rw [← List.sum_append, ← List.map_append, List.take_append_drop]
  omega

set_option maxHeartbeats 1000000 in
theorem szSeg_any {n : Nat} (t : Tm n) (x0 x1 x2 x3 x4 c0 c1 c2 c3 : Value) (l : Int) (w : World) (ht : TAt (Under w.heap.size) w n t c0 c1 c2 c3) (hl0 : 0 ≤ l) (hl1 : l ≤ 1048576) :
    Calls Tryd.prog 15 #[.agg #[x0, x1, x2, x3, x4, c0, c1, c2, c3], .int .i64 l] w fun e w' => e = .returned (.int .i64 (left (tot n t) l)) ∧ Below w.heap.size w w' := by
  obtain ⟨k, m, s, ua, ul, uc, rfl, rfl, rfl, rfl⟩ := ht.shape
  by_cases h : ((tot n t : Nat) : Int) ≤ l
  · have hn : ¬ l - (tot n t : Int) < 0 := by omega
    have hs := fun w' (hb : Below w.heap.size w w') => sz_any n t _ _ _ _ l w' (ht.up hb) hl0 hl1
    have HS := hide hs
    clear ht hs
    go_enter Tryd.func15, Tryd.ntmps15
    go_wp2_with fail
    refine ((unhide HS) _ ((Below.refl _ _).alloc (Nat.le_refl _) _)).mono ?_
    rintro e w' ⟨rfl, hb2⟩
    rw [left_pos h]
    go_wp2_with fail
    go_ret
    exact ⟨ret_int (left_pos h).symm, ((Below.refl _ _).alloc (Nat.le_refl _) _).trans (hb2.mono (by simp))⟩
  · have hs := fun w' (hb : Below w.heap.size w w') => sz_any n t _ _ _ _ l w' (ht.up hb) hl0 hl1
    have HS := hide hs
    clear ht hs
    go_enter Tryd.func15, Tryd.ntmps15
    go_wp2_with fail
    refine ((unhide HS) _ ((Below.refl _ _).alloc (Nat.le_refl _) _)).mono ?_
    rintro e w' ⟨rfl, hb2⟩
    rw [left_neg (by omega)]
    go_wp2_with fail
    go_ret
    exact ⟨ret_int (left_neg (by omega)).symm, ((Below.refl _ _).alloc (Nat.le_refl _) _).trans (hb2.mono (by simp))⟩

set_option maxHeartbeats 1000000 in
theorem szSegS_any {n : Nat} (gs : List (SgT n)) (v : Value) (l : Int) (w : World) (hv : SgsAt (Under w.heap.size) w n gs v) (hl0 : 0 ≤ l) (hl1 : l ≤ 1048576) :
    Calls Tryd.prog 5 #[v, .int .i64 l] w fun e w' => e = .returned (.int .i64 (left (gs.length + totG gs) l)) ∧ Below w.heap.size w w' := by
  obtain ⟨a, cap, rfl, hcap⟩ : ∃ a cap, v = .slice a gs.length cap ∧ gs.length ≤ 2 ^ 47 := by obtain ⟨a, cap, h, _, h2, _⟩ := hv; exact ⟨a, cap, h, h2⟩
  by_cases hneg : l < gs.length
  · have hn : l - gs.length < 0 := by omega
    go_enter Tryd.func5, Tryd.ntmps5
    go_wp2_with fail
    go_ret
    exact ⟨ret_int (left_neg (by omega)).symm, Below.refl _ _⟩
  · have hn : ¬ l - gs.length < 0 := by omega
    have hlb : (gs.length : Int) ≤ l := by omega
    go_enter Tryd.func5, Tryd.ntmps5
    go_wp2_with fail
    go_loopw [1, 5] (fun lv iv wr => ∃ k : Nat, k ≤ gs.length ∧ iv = .int .i64 k ∧ (totG (gs.take k) : Int) + gs.length ≤ l ∧ lv = .int .i64 (l - gs.length - totG (gs.take k)) ∧ Below w.heap.size w wr) (fun _ iv _ => gs.length - (intOf iv).toNat)
    case atStart => exact ⟨0, by omega, rfl, by simp [totG]; omega, by simp [totG], Below.refl _ _⟩
    case round =>
      obtain ⟨k, hk, rfl, hle, rfl, hb⟩ := hrel
      by_cases hlt : k < gs.length
      · obtain ⟨b, off, kk, km, ks, ku, rfl, hS, e0, e1, e2, e3, e4, e5, e6, e7, e8, i1, i2, i3, hr⟩ := (hv.up hb).at k hlt
        have hts := totG_take gs k hlt
        have htl := totG_le gs (k + 1)
        generalize gs[k] = g at e0 e1 e2 e3 e4 hr hts i1 i2 i3
        obtain ⟨g1, g2, g3, g4, g5, t⟩ := g
        dsimp only at e0 e1 e2 e3 e4 hr hts i1 i2 i3
        by_cases hfit : (tot n t : Int) ≤ l - gs.length - totG (gs.take k)
        · have hnn : ¬ l - gs.length - totG (gs.take k) - tot n t < 0 := by omega
          have HT := hide hts
          have HB := hide hb
          have HZ := hide (szSeg_any t (.int .i64 g1) (.int .i64 g2) (.int .i64 g3) (.bool g4) (.bool g5) _ _ _ _ (l - gs.length - totG (gs.take k)) wr hr (by omega) (by omega))
          clear hts htl hb hr
          go_wp2_with (go_at_call 15; refine (unhide HZ).mono ?_; rintro e w' ⟨rfl, hb2⟩; rw [left, if_pos hfit])
          go_roundw
          case rel => exact ⟨k + 1, hlt, by go_num, by rw [unhide HT]; omega, by rw [unhide HT]; congr 1; omega, (unhide HB).trans (hb2.mono (unhide HB).size)⟩
          case measure => simp [intOf]; omega
        · have hlast : ¬ ((gs.length + totG gs : Nat) : Int) ≤ l := by omega
          have HB := hide hb
          have HZ := hide (szSeg_any t (.int .i64 g1) (.int .i64 g2) (.int .i64 g3) (.bool g4) (.bool g5) _ _ _ _ (l - gs.length - totG (gs.take k)) wr hr (by omega) (by omega))
          clear hts htl hb hr
          go_wp2_with (go_at_call 15; refine (unhide HZ).mono ?_; rintro e w' ⟨rfl, hb2⟩; rw [left, if_neg hfit])
          go_ret
          exact ⟨ret_int (left_neg (by omega)).symm, (unhide HB).trans (hb2.mono (unhide HB).size)⟩
      · have hkk : k = gs.length := by omega
        subst hkk
        rw [List.take_length] at hle ⊢
        go_wp2_with fail
        go_ret
        exact ⟨ret_int (by rw [left_pos (by omega)]; omega), hb⟩

end Go.Proofs.YtgkckkaegkdioaaDoor
/- Segments that came in: a slice of them lies in memory as SgsAt says. -/
namespace Go.Proofs.YtgkckkaegkdioaaDoor
open Go.ChangeShapes Go.WideShapes Go.ChangeAt Go.RowKit Go.Joins

theorem cellsSeg : Tryd.prog.cellsOf 44 = 9 := by kernel_rfl
theorem cellsBool : Tryd.prog.cellsOf 4 = 1 := by kernel_rfl
theorem bytesSeg : Tryd.prog.bytesOf 44 = 88 := by kernel_rfl
theorem list6 {α : Type} {xs : List α} (h : xs.length = 6) : ∃ a b c d e f, xs = [a, b, c, d, e, f] := by
  match xs, h with
  | [a, b, c, d, e, f], _ => exact ⟨a, b, c, d, e, f, rfl⟩
theorem list9 {α : Type} {xs : List α} (h : xs.length = 9) : ∃ a b c d e f g i j, xs = [a, b, c, d, e, f, g, i, j] := by
  match xs, h with
  | [a, b, c, d, e, f, g, i, j], _ => exact ⟨a, b, c, d, e, f, g, i, j, rfl⟩

section
variable {H : Type} {enc : TypeId × Value → H}

set_option maxRecDepth 40000 in
theorem open_seg (W : World) (fuel : Nat) (cs : List Value) (x : DataW H × List MemPlace) (h : DataW.trod enc Tryd.prog W 0 (fun _ => true) true fuel 44 cs = some x)
    (hw : ∀ y ∈ x.1.weights Tryd.prog 44, y ≤ reachBytes) : ∃ g : SgT ((fuel - 1) / 2), SgAt (Under W.heap.size) W ((fuel - 1) / 2) g cs := by
  obtain ⟨xs, m, hm, rfl, hcs, hxs, hf⟩ := DataW.trod_struct Tryd.underlying44 h
  rw [cellsSeg] at hcs
  obtain ⟨y0, y1, y2, y3, y4, y5, rfl⟩ := list6 hxs
  obtain ⟨c0, c1, c2, c3, c4, c5, c6, c7, c8, rfl⟩ := list9 hcs
  have h0 : DataW.trod enc Tryd.prog W 0 (fun _ => true) true m 3 [c0] = some y0 := by have := hf 0 _ rfl; simpa [cellsInt] using this
  have h1 : DataW.trod enc Tryd.prog W 0 (fun _ => true) true m 3 [c1] = some y1 := by have := hf 1 _ rfl; simpa [cellsInt] using this
  have h2 : DataW.trod enc Tryd.prog W 0 (fun _ => true) true m 3 [c2] = some y2 := by have := hf 2 _ rfl; simpa [cellsInt] using this
  have h3 : DataW.trod enc Tryd.prog W 0 (fun _ => true) true m 4 [c3] = some y3 := by have := hf 3 _ rfl; simpa [cellsBool] using this
  have h4 : DataW.trod enc Tryd.prog W 0 (fun _ => true) true m 4 [c4] = some y4 := by have := hf 4 _ rfl; simpa [cellsBool] using this
  have h5 : DataW.trod enc Tryd.prog W 0 (fun _ => true) true m 42 [c5, c6, c7, c8] = some y5 := by have := hf 5 _ rfl; simpa [cellsTerm] using this
  obtain ⟨k0, e0, rfl, w0⟩ := DataW.trod_int Tryd.underlying3 h0
  obtain ⟨k1, e1, rfl, w1⟩ := DataW.trod_int Tryd.underlying3 h1
  obtain ⟨k2, e2, rfl, w2⟩ := DataW.trod_int Tryd.underlying3 h2
  obtain ⟨b3, e3, rfl⟩ := DataW.trod_bool Tryd.underlying4 h3
  obtain ⟨b4, e4, rfl⟩ := DataW.trod_bool Tryd.underlying4 h4
  have hwt : ∀ y ∈ y5.1.weights Tryd.prog 42, y ≤ reachBytes := fun y hy => hw y (by
    simp only [List.map_cons, List.map_nil, DataW.weights, Tryd.underlying44, DataW.weightsEach] at hy ⊢
    simp [hy])
  obtain ⟨t, d0, d1, d2, d3, hd, hT⟩ := open_term W (m / 2) m rfl _ _ h5 hwt
  simp only [List.cons.injEq, and_true] at e0 e1 e2 e3 e4 hd
  obtain ⟨rfl, rfl, rfl, rfl⟩ := hd
  obtain rfl : m = fuel - 1 := by omega
  subst e0 e1 e2 e3 e4
  exact ⟨(k0, k1, k2, b3, b4, t), c5, c6, c7, c8, rfl, in64_of w0, in64_of w1, in64_of w2, hT⟩

set_option maxRecDepth 40000 in
theorem open_segs (W : World) (fuel : Nat) (v : Value) (x : DataW H × List MemPlace) (h : DataW.trod enc Tryd.prog W 0 (fun _ => true) true fuel 24 [v] = some x)
    (hw : ∀ y ∈ x.1.weights Tryd.prog 24, y ≤ reachBytes) : ∃ (n : Nat) (gs : List (SgT n)), SgsAt (Under W.heap.size) W n gs v := by
  rcases DataW.trod_slice Tryd.underlying24 h with ⟨hc, _⟩ | ⟨a, len, cap, elems, rest, g, hg, hc, rfl, hb, hl, hcm, hlen, hel, hsp, _⟩
  · obtain rfl : v = .slice none 0 0 := by simpa using hc
    exact ⟨0, [], RAt.nil⟩
  · obtain rfl : v = .slice (some a) len cap := by simpa using hc
    have hrl := (hsp rfl).1
    have hwc : (elems.length + rest.length) * 88 ≤ reachBytes := by
      have := hw ((elems.length + rest.length) * 88) (by simp [DataW.weights, Tryd.underlying24, bytesSeg])
      exact this
    have hR := reachBytes_lt
    have hspot : 0 < len → a.spot = none := fun h => by
      have he := hel 0 h
      rw [List.getElem?_eq_getElem (by omega)] at he
      obtain ⟨cs', hcs', _⟩ := Option.bind_eq_some_iff.1 he
      rw [cellsSeg] at hcs'
      obtain ⟨_, hl4, hcell⟩ := World.cells?_some hcs'
      have hc0 := hcell 0 (by decide)
      rw [List.getElem?_eq_getElem (by omega)] at hc0
      simpa [Addr.add] using World.cell?_spot hc0
    have hkid : ∀ i, i < len → ∃ t : SgT ((g - 1) / 2), ∃ b off ds, (some a : Option Addr) = some ⟨b, off, none⟩ ∧ Under W.heap.size b ∧ ds.length = 9 ∧
        (∀ j, j < 9 → W.cell? ⟨b, off + i * 9 + j, none⟩ = ds[j]?) ∧ SgAt (Under W.heap.size) W ((g - 1) / 2) t ds := by
      intro i hi
      have he := hel i hi
      rw [List.getElem?_eq_getElem (by omega)] at he
      obtain ⟨cs', hcs', htr⟩ := Option.bind_eq_some_iff.1 he
      obtain ⟨t, hT⟩ := open_seg W g cs' _ htr (fun y hy => hw y (by
        simp only [DataW.weights, Tryd.underlying24, List.mem_append, List.mem_cons]
        refine Or.inr (Or.inl ?_)
        exact weights_mem_all (by rw [List.mem_map]; exact ⟨_, List.getElem_mem (by omega), rfl⟩) y hy))
      rw [cellsSeg] at hcs'
      obtain ⟨_, hl9, hcell⟩ := World.cells?_some hcs'
      have hblk := World.cells?_block hcs' (by decide)
      have hsn := hspot (by omega)
      obtain ⟨b, off, sp⟩ := a
      obtain rfl : sp = none := hsn
      have hadd : ∀ j, ((⟨b, off, none⟩ : Addr).add (i * 9)).add j = ⟨b, off + i * 9 + j, none⟩ := fun j => by rw [add_plain, add_plain]
      refine ⟨t, b, off, cs', rfl, ?_, hl9, fun j hj => by rw [← hadd]; exact hcell j hj, hT⟩
      rw [add_plain] at hblk
      exact hblk
    obtain ⟨ks, hkl, hks⟩ := list_of len hkid
    exact ⟨_, ks, some a, cap, by rw [hkl], by omega, by omega, fun i hi => hks i hi⟩
end
end Go.Proofs.YtgkckkaegkdioaaDoor
/- Letters, digits, names: the bytes' tests and the names' of both packages. -/
namespace Go.Proofs.YtgkckkaegkdioaaDoor
open Go.RowKit

theorem ret_bool {a b : Bool} (h : a = b) : Ending.returned (.bool a) = .returned (.bool b) := by rw [h]

end Go.Proofs.YtgkckkaegkdioaaDoor
/- How many terms a term is, and how deep: l01Measure, l01Fits. -/
namespace Go.Proofs.YtgkckkaegkdioaaDoor
open Go.RowKit

def siz : (n : Nat) → Tm n → Nat
  | 0, t => t.elim
  | n + 1, (_, _, _, ks) => 1 + (ks.map (siz n)).sum
def sizS {n : Nat} (ks : List (Tm n)) : Nat := (ks.map (siz n)).sum
theorem sizS_take {n : Nat} (ks : List (Tm n)) (k : Nat) (h : k < ks.length) : sizS (ks.take (k + 1)) = sizS (ks.take k) + siz n ks[k] := by
  unfold sizS; rw [List.take_succ_eq_append_getElem h, List.map_append, List.sum_append]; simp only [List.map_cons, List.map_nil, List.sum_cons, List.sum_nil, Nat.add_zero]
theorem sizS_le {n : Nat} (ks : List (Tm n)) (k : Nat) : sizS (ks.take k) ≤ sizS ks := by
  have : sizS ks = sizS (ks.take k) + sizS (ks.drop k) := by unfold sizS; rw [← List.sum_append, ← List.map_append, List.take_append_drop]
  omega
end Go.Proofs.YtgkckkaegkdioaaDoor
/- Plain facts: which texts are rows of bits. -/
namespace Go.Proofs.YtgkckkaegkdioaaDoor
open Go.RowKit

/-- The first tests. -/
abbrev okLen (n : Int) (s : ByteArray) : Prop := 0 ≤ n ∧ n ≤ 32000 ∧ (s.size : Int) = (n + 7) / 8
def okS (n : Int) (s : ByteArray) : Bool := decide (okLen n s) && ((strB (bitsOf s n.toNat)).toList == s.toList)

theorem okS_false {n : Int} {s : ByteArray} (h : ¬ okLen n s) : okS n s = false := by unfold okS; simp [h]
theorem okS_true {n : Int} {s : ByteArray} (h : okLen n s) : okS n s = ((strB (bitsOf s n.toNat)).toList == s.toList) := by unfold okS; simp [h]
theorem bits_01 (s : ByteArray) (n : Nat) : ∀ x ∈ bitsOf s n, x = 0 ∨ x = 1 := by
  intro x hx
  obtain ⟨i, _, rfl⟩ := List.mem_map.1 hx
  exact bit_01 s i

theorem ext_byt {a b : ByteArray} (hs : a.size = b.size) (h : ∀ j, j < a.size → byt a j = byt b j) : a = b := by
  apply ByteArray.ext
  apply Array.ext
  · exact hs
  · intro i h1 h2
    have := h i h1
    rw [byt_get a i h1, byt_get b i h2] at this
    have h3 : (a[i]'h1).toNat = (b[i]'h2).toNat := by omega
    exact UInt8.toNat_inj.1 h3

theorem strB_size (xs : List Int) : (strB xs).size = (xs.length + 7) / 8 := by unfold strB; rw [strOfNums_size, bytesAt_length]
theorem byt_strB (xs : List Int) (hx : ∀ x ∈ xs, x = 0 ∨ x = 1) (j : Nat) (hj : j < (xs.length + 7) / 8) : byt (strB xs) j = packed xs j (min 8 (xs.length - 8 * j)) := by
  have hb := bytesAt_bounds xs hx xs.length j
  rw [List.getD_eq_getElem?_getD, bytesAt_get _ _ _ hj, Option.getD_some] at hb
  unfold byt strB strOfNums
  simp only [List.getElem?_toArray, List.getElem?_map]
  rw [bytesAt_get _ _ _ hj]
  simp only [Option.map_some, Option.getD_some, UInt8.toNat_ofNat']
  omega

theorem low_zero (x : Int) (c : Nat) (hx0 : 0 ≤ x) (hx : x < 256) (hc : c ≤ 8) : x / 2 ^ (8 - c) * 2 ^ (8 - c) = x ↔ ∀ k, c ≤ k → k < 8 → x / 2 ^ (7 - k) % 2 = 0 := by
  have all : ∀ c : Fin 9, ∀ x : Fin 256, (x.val / 2 ^ (8 - c.val) * 2 ^ (8 - c.val) = x.val ↔ ∀ k : Fin 8, c.val ≤ k.val → x.val / 2 ^ (7 - k.val) % 2 = 0) := by decide +kernel
  obtain ⟨X, rfl⟩ := Int.eq_ofNat_of_zero_le hx0
  have h := all ⟨c, by omega⟩ ⟨X, by omega⟩
  have e1 : ((X : Int) / 2 ^ (8 - c) * 2 ^ (8 - c) = X) ↔ X / 2 ^ (8 - c) * 2 ^ (8 - c) = X := by
    rw [← Int.ofNat_inj]; simp
  have e2 : ∀ k, ((X : Int) / 2 ^ (7 - k) % 2 = 0) ↔ X / 2 ^ (7 - k) % 2 = 0 := fun k => by
    rw [← Int.ofNat_inj]; simp
  rw [e1, h]
  exact ⟨fun H k h1 h2 => (e2 k).2 (H ⟨k, h2⟩ h1), fun H k h1 => (e2 k).1 (H k h1 k.2)⟩

theorem toList_beq (a b : ByteArray) : (a.toList == b.toList) = true ↔ a = b := by
  constructor
  · intro h
    rw [ByteArray.toList_eq, ByteArray.toList_eq, beq_iff_eq] at h
    exact ByteArray.ext (Array.toList_inj.1 h)
  · rintro rfl; simp

theorem packed_bits (s : ByteArray) (N j c : Nat) (hc : 8 * j + c ≤ N) : packed (bitsOf s N) j c = pk (bit s) j c := by
  unfold packed
  apply pk_congr
  intro k hk
  rw [List.getD_eq_getElem?_getD, bitsOf_get s N _ (by omega)]
  rfl

/-- Which rows are rows of bits. -/
theorem okS_iff (N : Nat) (s : ByteArray) (h : okLen N s) : okS N s = true ↔ ∀ i, N ≤ i → i < 8 * s.size → bit s i = 0 := by
  rw [okS_true h, toList_beq, Int.toNat_natCast]
  have hs : s.size = (N + 7) / 8 := by have := h.2.2; omega
  have hl : (bitsOf s N).length = N := bitsOf_length s N
  constructor
  · intro he i h1 h2
    have hj : i / 8 < (N + 7) / 8 := by omega
    have hb := byt_strB (bitsOf s N) (bits_01 s N) (i / 8) (by rw [hl]; exact hj)
    rw [he, hl, packed_bits s N (i / 8) _ (by omega), pk_bit s (i / 8) _ (by omega)] at hb
    have := (low_zero (byt s (i / 8)) (min 8 (N - 8 * (i / 8))) (byt_lo _ _) (byt_hi _ _) (by omega)).1 hb.symm (i % 8) (by omega) (by omega)
    exact this
  · intro H
    apply ext_byt
    · rw [strB_size, hl, hs]
    · intro j hj
      rw [strB_size, hl] at hj
      rw [byt_strB (bitsOf s N) (bits_01 s N) j (by rw [hl]; exact hj), hl, packed_bits s N j _ (by omega), pk_bit s j _ (by omega)]
      rw [low_zero (byt s j) (min 8 (N - 8 * j)) (byt_lo _ _) (byt_hi _ _) (by omega)]
      intro k h1 h2
      have := H (8 * j + k) (by omega) (by omega)
      unfold bit at this
      rw [show (8 * j + k) / 8 = j by omega, show (8 * j + k) % 8 = k by omega] at this
      exact this

end Go.Proofs.YtgkckkaegkdioaaDoor
/- Plain facts: a number's bits, in the order in which a field has them. -/
namespace Go.Proofs.YtgkckkaegkdioaaDoor
open Go.RowKit

/-- Which power of 2 bit i of a field stands for. -/
def pw (size : Nat) (little : Bool) (i : Nat) : Nat := match little with
  | true => min (i - i % 8 + 8) size - 1 - i % 8
  | false => size - 1 - i
theorem pw_lt (size : Nat) (l : Bool) (i : Nat) (h : i < size) : pw size l i < size := by
  unfold pw; cases l <;> simp only <;> omega

/-- What a row owns it owns where no old block has turned. -/
theorem ownsRow_below {w w' : World} {b : Nat} {e : TypeId} {size : Nat} {v : Value} {n : Nat} {xs : List Value} (h : w.ownsRow b e size v n xs) (hb : Below w.heap.size w w') : w'.ownsRow b e size v n xs := by
  have hlt := h.lt
  rcases h with ⟨h1, h2 | ⟨g, cap, cur, rfl, h3, h4, h5⟩⟩
  · exact ⟨h1, .inl h2⟩
  · exact ⟨h1, .inr ⟨g, cap, cur, rfl, h3, (hb.block g (hlt g rfl).2).trans h4, h5⟩⟩

theorem own_cell {w : World} {b : Nat} {e : TypeId} {g n c : Nat} {ys : List Int} (h : w.ownsRow b e 1 (.slice (some ⟨g, 0, none⟩) n c) n (ys.map (Value.int .u8))) (j : Nat) (hj : j < n) : w.cell? ⟨g, j, none⟩ = some (.int .u8 (ys.getD j 0)) := by
  have h1 := h.1
  rcases h.2 with ⟨h', _⟩ | ⟨g', cap', cur, h', _⟩
  · simp at h'
  · simp only [Value.slice.injEq] at h'
    have hc := h'.2.2
    have hk : w.ownsRow b e 1 (.slice (some ⟨g, 0, none⟩) n c) n (ys.map (Value.int .u8)) := h
    rw [hk.cellAt j (by omega), List.getElem?_map]
    have hl : j < ys.length := by simp at h1; omega
    rw [List.getElem?_eq_getElem hl]
    simp [hl]
theorem own_set {w : World} {b : Nat} {e : TypeId} {g n c : Nat} {ys : List Int} (h : w.ownsRow b e 1 (.slice (some ⟨g, 0, none⟩) n c) n (ys.map (Value.int .u8))) (j : Nat) (u : Int) :
    (w.setCell ⟨g, j, none⟩ (.int .u8 u)).ownsRow b e 1 (.slice (some ⟨g, 0, none⟩) n c) n ((ys.set j u).map (Value.int .u8)) := by
  have := (h.stored j (.int .u8 u)).1
  rw [List.map_set]; exact this

theorem box3 (w : World) (a b c : Value) (e : TypeId) {w' : World} {B : Nat} (hB : w.heap.size < B) (h : Below B (w.alloc (.cells #[a, b, c] e)) w') :
    w'.cell? ⟨w.heap.size, 0, none⟩ = some a ∧ w'.cell? ⟨w.heap.size, 1, none⟩ = some b ∧ w'.cell? ⟨w.heap.size, 2, none⟩ = some c := by
  have hh := (h.block w.heap.size hB).trans (heap_new _ _)
  exact ⟨cell_of_heap hh 0, cell_of_heap hh 1, cell_of_heap hh 2⟩

end Go.Proofs.YtgkckkaegkdioaaDoor
/- spec.l02Row: the bits of a row, a byte each. -/
namespace Go.Proofs.YtgkckkaegkdioaaDoor
open Go.RowKit

theorem info_u8 : (Tryd.prog.info? 5).map (fun i => (i.zero, i.size, i.bytes)) = some (some (.int .u8 0), 1, 1) := by kernel_rfl

/-- The bits as cells. -/
abbrev u8s (xs : List Int) : List Value := xs.map (Value.int .u8)

set_option maxRecDepth 100000 in
theorem row_any (n : Int) (s : ByteArray) (w : World) (hn : n ≤ 8 * s.size) (hs : n ≤ 1000000000) :
    Calls Tryd.prog 18 #[.agg #[.int .i64 n, .string s]] w fun e w' => ∃ v, e = .returned v ∧ w'.ownsRow w.heap.size 5 1 v n.toNat (u8s (bitsOf s n.toNat)) ∧ Below w.heap.size w w' := by
  obtain ⟨i0, hi, hz0, hz1, hz2⟩ := info_parts info_u8
  go_enter Tryd.func18, Tryd.ntmps18
  go_wp2_with fail
  go_loopw [3, 4] (fun v iv wr => ∃ k : Nat, k ≤ n.toNat ∧ iv = .int .i64 k ∧ wr.ownsRow (w.heap.size + 1) 5 1 v k (u8s (bitsOf s k)) ∧ wr.cell? ⟨w.heap.size, 0, none⟩ = some (.int .i64 n) ∧
      wr.cell? ⟨w.heap.size, 1, none⟩ = some (.string s) ∧ Below (w.heap.size + 1) (w.alloc (.cells #[.int .i64 n, .string s] 30)) wr) (fun _ iv _ => n.toNat - (intOf iv).toNat)
  case atStart =>
    refine ⟨0, Nat.zero_le _, rfl, by have h := World.ownsRow_lit (base := w.heap.size + 1) (e := 5) (size := 1) (w.alloc (.cells #[.int .i64 n, .string s] 30)) #[] 0 (by simp) (by decide) rfl; simpa [u8s, bitsOf] using h, ?_, ?_, (Below.refl _ _).alloc (by simp) _⟩
    · exact (World.cell?_alloc_past _ _ _ (by simp)).trans (two_new _ _ _ _).1
    · exact (World.cell?_alloc_past _ _ _ (by simp)).trans (two_new _ _ _ _).2
  case round =>
    obtain ⟨k, hk, rfl, hown, hc0, hc1, hb⟩ := hrel
    have hsz := hb.size
    simp only [World.size_alloc] at hsz
    by_cases hlt : (k : Int) < n
    · have hkl : k / 8 < s.size := by omega
      go_wp2_with (at_builtin; refine wpList_append_own _ rfl (.tmp 12) (.tmp 24) 51 rfl (w.heap.size + 1) 5 i0 (.int .u8 0) 1 1 Tryd.underlying51 hi hz0 hz1 hz2 rfl (by decide) _ _ _ rfl (hown.alloc _) ⟨wr.heap.size, 0, none⟩ 1 1 [.int .u8 (bit s k)] rfl rfl ?c1 ?c2 ?c3 ?c4 ?c5 ?_)
      case c1 => rw [bit_walk s k hkl]; exact cell_one_new _ _ _
      case c2 => intro u hu; simp at hu; subst hu; rfl
      case c3 => unfold maxLen; omega
      case c4 => omega
      case c5 => simp; omega
      intro v' w1 hown' hgrow _
      have hne : some w.heap.size ≠ u3.ownBlock := fun h => by have := (hown.lt _ h.symm).1; omega
      have hB1 : Below (w.heap.size + 1) (w.alloc (.cells #[.int .i64 n, .string s] 30)) w1 := (hb.alloc hsz _).grown hgrow (by simp; omega) (fun j hj => (hown.lt j hj).1)
      have hd0 := (hgrow.cell (a := ⟨w.heap.size, 0, none⟩) ((World.cell?_alloc_past _ _ _ (by show w.heap.size < _; omega)).trans hc0) hne)
      have hd1 := (hgrow.cell (a := ⟨w.heap.size, 1, none⟩) ((World.cell?_alloc_past _ _ _ (by show w.heap.size < _; omega)).trans hc1) hne)
      have hown2 : w1.ownsRow (w.heap.size + 1) 5 1 v' (k + 1) (u8s (bitsOf s (k + 1))) := by rw [bitsOf_succ]; simpa [u8s] using hown'
      clear hown' hown hb hc0 hc1 hgrow
      go_wp2
      go_roundw
      case rel => exact ⟨k + 1, by omega, by go_num, hown2, hd0, hd1, hB1⟩
      case measure => simp [intOf]; omega
    · have hkn : n.toNat = k := by omega
      go_wp2_with fail
      go_ret
      exact ⟨_, rfl, ownsRow_base hown (by omega), ((Below.refl w.heap.size w).alloc (Nat.le_refl _) _).trans (hb.mono (by omega))⟩

end Go.Proofs.YtgkckkaegkdioaaDoor
/- spec.l02Bits: bits, a byte each, as a row. -/
namespace Go.Proofs.YtgkckkaegkdioaaDoor
open Go.RowKit Go.Deep

set_option maxRecDepth 100000 in
theorem pack_any (v : Value) (xs : List Int) (w : World) (hv : RowAt w v xs) (hx : ∀ x ∈ xs, x = 0 ∨ x = 1) (hs : xs.length ≤ 1000000000) :
    Calls Tryd.prog 22 #[v] w fun e w' => e = .returned (.agg #[.int .i64 xs.length, .string (strB xs)]) ∧ Below w.heap.size w w' := by
  obtain ⟨a, cap, rfl, hcap, hel⟩ := hv
  have hmk := fun w : World => run_make_row' (P := Tryd.prog) 51 5 (.int .u8 0) 1 Tryd.underlying51 info_u8 rfl .i64 .i64 ((xs.length + 7) / 8) (by omega) (by omega) w
  have e8 : (((xs.length + 7) / 8 : Nat) : Int) = ((xs.length : Int) + 7) / 8 := by omega
  rw [e8] at hmk
  clear e8
  go_enter Tryd.func22, Tryd.ntmps22
  go_wp2_with fail
  go_loopw [4] (fun iv wr => ∃ k : Nat, k ≤ xs.length ∧ iv = .int .i64 k ∧ wr.ownsRow (w.heap.size + 1) 5 1 (.slice (some ⟨w.heap.size + 1, 0, none⟩) ((xs.length + 7) / 8) ((xs.length + 7) / 8)) ((xs.length + 7) / 8) (u8s (bytesAt xs k)) ∧
      wr.frozen? ⟨w.heap.size, 0, none⟩ = false ∧ wr.frozen? ⟨w.heap.size, 1, none⟩ = false ∧ (∃ x, wr.cell? ⟨w.heap.size, 0, none⟩ = some x) ∧ (∃ x, wr.cell? ⟨w.heap.size, 1, none⟩ = some x) ∧ Below w.heap.size w wr ∧ w.heap.size + 2 ≤ wr.heap.size) (fun iv _ => xs.length - (intOf iv).toNat)
  case atStart =>
    refine ⟨0, Nat.zero_le _, rfl, ?_, ?_, ?_, ⟨_, (World.cell?_alloc_past _ _ _ (by simp)).trans (two_new _ _ _ _).1⟩, ⟨_, (World.cell?_alloc_past _ _ _ (by simp)).trans (two_new _ _ _ _).2⟩, ((Below.refl w.heap.size w).alloc (Nat.le_refl _) _).alloc (by simp) _, by simp⟩
    · have h := World.ownsRow_lit (base := w.heap.size + 1) (e := 5) (size := 1) (w.alloc (.cells #[.int .i64 0, .string ⟨#[]⟩] 30)) (madeCells #[.int .u8 0] ((xs.length + 7) / 8)) ((xs.length + 7) / 8) (by simp) (by unfold maxLen; omega) (by simp [size_madeCells])
      have e : u8s (bytesAt xs 0) = (madeCells #[Value.int .u8 0] ((xs.length + 7) / 8)).toList := by
        rw [bytesAt_zero]
        apply List.ext_getElem?
        intro i
        by_cases h : i < (xs.length + 7) / 8 <;> simp [u8s, madeCells, h, Nat.mod_one]
      rw [e]
      simpa using h
    · simp [go_sem]
    · simp [go_sem]
  case round =>
    obtain ⟨k, hk, rfl, hown, hf0, hf1, ⟨y0, hc0⟩, ⟨y1, hc1⟩, hb, hsz⟩ := hrel
    by_cases hlt : k < xs.length
    · obtain ⟨b, off, rfl, hbk, hxk⟩ := hel k hlt
      have hxr := (hb.cell (p := ⟨b, off + k, none⟩) hbk).trans hxk
      have hkj : k / 8 < (xs.length + 7) / 8 := by omega
      have hx01 := getD_01 hx k
      have hcy : wr.cell? ⟨w.heap.size + 1, k / 8, none⟩ = some (.int .u8 ((bytesAt xs k).getD (k / 8) 0)) := by
        rw [hown.cellAt (k / 8) (by omega)]
        simp [u8s, bytesAt_get _ _ _ hkj]
      have hfy := hown.frozenAt (k / 8)
      have hst := hide (hown.stored (k / 8) (.int .u8 ((bytesAt xs (k + 1)).getD (k / 8) 0)))
      have HS := hide (bytesAt_succ xs hx k hlt)
      obtain ⟨y, hy⟩ : ∃ y, y = (bytesAt xs k).getD (k / 8) 0 := ⟨_, rfl⟩
      obtain ⟨x, hxe⟩ : ∃ x, x = xs.getD k 0 := ⟨_, rfl⟩
      rw [← hy] at hcy
      rw [← hxe] at hxr hx01
      have HY := hide hy
      have HX := hide hxe
      have HO := hide hown
      clear hy hxe hxk hown hx
      go_wp2_with fail
      go_region
      have hu : bits .or .u8 y (x * 2 ^ (7 - k % 8) % 256) = (bytesAt xs (k + 1)).getD (k / 8) 0 := by
        rw [unhide HS, set_getD _ _ _ (by rw [bytesAt_length]; exact hkj), ← unhide HY, ← unhide HX, bit_mod x hx01]
      have H := unhide hst
      rw [← hu] at H
      have hown2 : (wr.setCell ⟨w.heap.size + 1, k / 8, none⟩ (.int .u8 (bits .or .u8 y (x * 2 ^ (7 - k % 8) % 256)))).ownsRow (w.heap.size + 1) 5 1 (.slice (some ⟨w.heap.size + 1, 0, none⟩) ((xs.length + 7) / 8) ((xs.length + 7) / 8)) ((xs.length + 7) / 8) (u8s (bytesAt xs (k + 1))) := by
        have e : u8s (bytesAt xs (k + 1)) = (u8s (bytesAt xs k)).set (k / 8) (.int .u8 (bits .or .u8 y (x * 2 ^ (7 - k % 8) % 256))) := by
          rw [hu]
          conv => lhs; rw [unhide HS]
          rw [u8s, List.map_set, unhide HS, set_getD _ _ _ (by rw [bytesAt_length]; exact hkj)]
        rw [e]
        exact H.1
      have hbn : Below w.heap.size w (wr.setCell ⟨w.heap.size + 1, k / 8, none⟩ (.int .u8 (bits .or .u8 y (x * 2 ^ (7 - k % 8) % 256)))).drew := (hb.setCell (by show w.heap.size ≤ w.heap.size + 1; omega) _).drew
      have HU := hide hu
      clear H hu
      go_wp2_with fail
      go_roundw
      case rel => exact ⟨k + 1, by omega, by go_num, hown2.drew, by simpa [go_sem] using hf0, by simpa [go_sem] using hf1, ⟨y0, by simpa [go_sem] using hc0⟩, ⟨y1, by simpa [go_sem] using hc1⟩, hbn, by simpa using hsz⟩
      case measure => simp [intOf]; omega
    · have hkn : k = xs.length := by omega
      subst hkn
      have hcv := run_convert_bytes_arg (P := Tryd.prog) wr 51 5 Tryd.underlying51 Tryd.underlying5 (w.heap.size + 1) 0 ((xs.length + 7) / 8) ((xs.length + 7) / 8) (bytesAt xs xs.length) (bytesAt_length _ _) (fun i hi => by
        rw [Nat.zero_add, hown.cellAt i (by omega), u8s, List.getElem?_map, bytesAt_get _ _ _ hi, List.getD_eq_getElem?_getD, bytesAt_get _ _ _ hi]; rfl) 9 Tryd.underlying9
      obtain ⟨S, hS⟩ : ∃ S, S = strOfNums (bytesAt xs xs.length) := ⟨_, rfl⟩
      rw [← hS] at hcv
      have HS := hide hS
      clear hS
      go_wp2_with fail
      exact bodyPost_ret (v := .agg #[.int .i64 xs.length, .string S]) (by simp [results, Tryd.results22, go_sem, hc0, hc1]) rfl ⟨by rw [unhide HS]; rfl, (hb.setCell (Nat.le_refl _) _).setCell (Nat.le_refl _) _⟩

/-- The same, with the length and the text under names. -/
theorem pack_as (v : Value) (xs : List Int) (L : Nat) (S : ByteArray) (w : World) (hv : RowAt w v xs) (hx : ∀ x ∈ xs, x = 0 ∨ x = 1) (hl : xs.length = L) (hs : L ≤ 1000000000) (hS : strB xs = S) :
    Calls Tryd.prog 22 #[v] w fun e w' => e = .returned (.agg #[.int .i64 L, .string S]) ∧ Below w.heap.size w w' := by
  subst hl; subst hS; exact pack_any v xs w hv hx hs

end Go.Proofs.YtgkckkaegkdioaaDoor
/- impl's isSet and bytesFor. -/
namespace Go.Proofs.YtgkckkaegkdioaaDoor
open Go.RowKit Go.Deep

set_option maxRecDepth 100000 in
theorem field1 (a b : Value) (w : World) : (Instr.field 30 (.agg #[a, b]) 1).run Tryd.prog w = .ok b w := by rfl
set_option maxRecDepth 100000 in
theorem bf_any (n : Int) (w : World) (h0 : 0 ≤ n) (hn : n ≤ 10000000000) : Calls Tryd.prog 34 #[.int .i64 n] w fun e w' => e = .returned (.int .i64 ((n + 7) / 8)) ∧ Below w.heap.size w w' := by
  go_enter Tryd.func34, Tryd.ntmps34
  go_wp2_with fail
  go_ret
  exact ⟨rfl, Below.refl _ _⟩

set_option maxRecDepth 100000 in
theorem isSet_any (n : Int) (s : ByteArray) (i : Nat) (w : World) (hm : Masks 0 w) (hi : i / 8 < s.size) (hi2 : i ≤ 10000000000) :
    Calls Tryd.prog 35 #[.agg #[.int .i64 n, .string s], .int .i64 i] w fun e w' => e = .returned (.bool (decide (bit s i = 1))) ∧ Below w.heap.size w w' := by
  have hmk := hm.2 (i % 8) (Nat.mod_lt _ (by decide))
  have hlt := hm.1
  have H := hide (set_walk s i hi)
  clear hm
  have hA : 0 ≤ (i : Int) / 8 := by omega
  have hB : (i : Int) / 8 < s.size := by omega
  have hC : ((i : Int) / 8).toNat = i / 8 := by omega
  have hW : IntKind.i64.wrap ((i : Int) / 8) = (i : Int) / 8 := by simp [IntKind.wrap, IntKind.bits, IntKind.signed]; omega
  go_enter Tryd.func35, Tryd.ntmps35
  go_wp2_with fail
  go_region
  go_wp2_with fail
  go_ret
  refine ⟨?_, (((Below.refl w.heap.size w).alloc (Nat.le_refl _) _).drew)⟩
  rw [← unhide H]
  rfl

end Go.Proofs.YtgkckkaegkdioaaDoor
