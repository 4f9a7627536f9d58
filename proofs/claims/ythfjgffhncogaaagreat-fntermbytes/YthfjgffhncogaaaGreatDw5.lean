/- spec's l01DrawAny: whatever is drawn, a tree in new memory. -/
import Derived.Test.YthfjgffhncogaaaGreatDw4h
import Derived.Laws.BytesArg
namespace Go.Proofs.YthfjgffhncogaaaGreat
open Go.RowKit Go.Deep

theorem TAt.deepTo {S : Nat → Prop} {w : World} {n m : Nat} (h : n ≤ m) {t : Tm n} {a b c d : Value} (ht : TAt S w n t a b c d) : ∃ t' : Tm m, TAt S w m t' a b c d := by
  obtain ⟨k, rfl⟩ := Nat.exists_eq_add_of_le h
  exact ht.deep k
theorem CellsAt.deepTo {S : Nat → Prop} {w : World} {n m : Nat} (h : n ≤ m) {ks : List (Tm n)} {xs : List Value} (hk : CellsAt S w ks xs) : ∃ ls : List (Tm m), ls.length = ks.length ∧ CellsAt S w ls xs := by
  obtain ⟨ls, h1, h2⟩ := list_of' (α := Tm m) (R := fun i t => ∃ d0 d1 d2 d3, xs[i * 4]? = some d0 ∧ xs[i * 4 + 1]? = some d1 ∧ xs[i * 4 + 2]? = some d2 ∧ xs[i * 4 + 3]? = some d3 ∧ TAt S w m t d0 d1 d2 d3) ks.length fun i hi => by
    obtain ⟨d0, d1, d2, d3, e0, e1, e2, e3, ht⟩ := hk.2 i hi
    obtain ⟨t', ht'⟩ := ht.deepTo h
    exact ⟨t', d0, d1, d2, d3, e0, e1, e2, e3, ht'⟩
  exact ⟨ls, h1, by rw [h1]; exact hk.1, fun i hi => h2 i hi⟩
theorem RowsX.deepTo {base : Nat} {w : World} {n m : Nat} (h : n ≤ m) {ks : List (Tm n)} {v : Value} {xs : List Value} (hX : RowsX base w ks v xs) : ∃ ls : List (Tm m), ls.length = ks.length ∧ RowsX base w ls v xs := by
  obtain ⟨ls, h1, h2⟩ := hX.2.deepTo h
  exact ⟨ls, h1, by rw [h1]; exact hX.1, h2⟩

/-- The blocks behind the result's that are there, the box left out. -/
abbrev Sn (w : World) (B : Nat) (w' : World) : Nat → Prop := fun b => w.heap.size + 1 ≤ b ∧ b < w'.heap.size ∧ b ≠ B

/-- Under way: box B holds a term. -/
structure BoxT (g L : Nat) (v : Value) (M : Nat) (w : World) (B : Nat) (w' : World) (n : Nat) (k m : Int) (s : ByteArray) (ks : List (Tm n)) (c : Value) : Prop where
  st : St g L v M w w'
  hB : w.heap.size + 1 ≤ B
  box : w'.heap[B]? = some (.cells #[.int .i64 k, .int .i64 m, .string s, c] 26 (0, 0))
  k64 : In64 k
  m64 : In64 m
  s47 : s.size ≤ 2 ^ 47
  kids : SAt (Sn w B w') w' (TAt (Sn w B w') w' n) ks c
  few : ks.length ≤ 5000

theorem BoxT.lt {g L M B n : Nat} {v : Value} {w w' : World} {k m : Int} {s : ByteArray} {ks : List (Tm n)} {c : Value} (h : BoxT g L v M w B w' n k m s ks c) : B < w'.heap.size := by
  have hb := h.box
  rcases Nat.lt_or_ge B w'.heap.size with h1 | h1
  · exact h1
  · rw [Array.getElem?_eq_none h1] at hb; cases hb
/-- Where only the cursor was written. -/
theorem BoxT.go {g L M M' B n : Nat} {v : Value} {w w1 w2 : World} {k m : Int} {s : ByteArray} {ks : List (Tm n)} {c : Value} (h : BoxT g L v M w B w1 n k m s ks c) (hk : Kept g w1 w2) (hs : St g L v M' w w2) : BoxT g L v M' w B w2 n k m s ks c := by
  have hg := h.st.gl
  have hS : ∀ b, Sn w B w1 b → w2.heap[b]? = w1.heap[b]? := fun b hb => hk.block b hb.2.1 (by have := hb.1; omega)
  have hS2 : ∀ b, Sn w B w1 b → Sn w B w2 b := fun b hb => ⟨hb.1, Nat.lt_of_lt_of_le hb.2.1 hk.size, hb.2.2⟩
  exact ⟨hs, h.hB, (hk.block B h.lt (by have := h.hB; omega)).trans h.box, h.k64, h.m64, h.s47,
    (h.kids.keep (R' := TAt (Sn w B w1) w2 n) hS fun _ _ _ _ _ _ ht => ht.keep hS).mono hS2 fun _ _ _ _ _ _ ht => ht.mono hS2, h.few⟩
theorem BoxT.below {g L M B n : Nat} {v : Value} {w w1 w2 : World} {k m : Int} {s : ByteArray} {ks : List (Tm n)} {c : Value} (h : BoxT g L v M w B w1 n k m s ks c) (hb : Below w1.heap.size w1 w2) : BoxT g L v M w B w2 n k m s ks c := h.go (Kept.below hb) (h.st.below hb)
theorem BoxT.cells {g L M B n : Nat} {v : Value} {w w' : World} {k m : Int} {s : ByteArray} {ks : List (Tm n)} {c : Value} (h : BoxT g L v M w B w' n k m s ks c) :
    (w'.cell? ⟨B, 0, none⟩ = some (.int .i64 k) ∧ w'.cell? ⟨B, 1, none⟩ = some (.int .i64 m) ∧ w'.cell? ⟨B, 2, none⟩ = some (.string s) ∧ w'.cell? ⟨B, 3, none⟩ = some c) ∧
    (w'.frozen? ⟨B, 0, none⟩ = false ∧ w'.frozen? ⟨B, 1, none⟩ = false ∧ w'.frozen? ⟨B, 2, none⟩ = false ∧ w'.frozen? ⟨B, 3, none⟩ = false) :=
  ⟨⟨cell_of_heap h.box 0, cell_of_heap h.box 1, cell_of_heap h.box 2, cell_of_heap h.box 3⟩, ⟨frozen_of_heap h.box 0, frozen_of_heap h.box 1, frozen_of_heap h.box 2, frozen_of_heap h.box 3⟩⟩
/-- The box written anew, nothing else turned. -/
theorem BoxT.put {g L M B n n' : Nat} {v : Value} {w w1 w2 : World} {k m k' m' : Int} {s s' : ByteArray} {ks : List (Tm n)} {c c' : Value} {ls : List (Tm n')} (h : BoxT g L v M w B w1 n k m s ks c) (hk : Kept B w1 w2) (hsz : w2.heap.size = w1.heap.size)
    (hbox : w2.heap[B]? = some (.cells #[.int .i64 k', .int .i64 m', .string s', c'] 26 (0, 0))) (hk' : In64 k') (hm' : In64 m') (hs' : s'.size ≤ 2 ^ 47) (hls : SAt (Sn w B w1) w1 (TAt (Sn w B w1) w1 n') ls c') (hf : ls.length ≤ 5000) :
    BoxT g L v M w B w2 n' k' m' s' ls c' := by
  have hS : ∀ b, Sn w B w1 b → w2.heap[b]? = w1.heap[b]? := fun b hb => hk.block b hb.2.1 hb.2.2
  have hS2 : ∀ b, Sn w B w1 b → Sn w B w2 b := fun b hb => ⟨hb.1, by omega, hb.2.2⟩
  have hB := h.hB
  exact ⟨h.st.low ⟨hk.os, hk.tape, hk.output, hk.size, fun b hb => hk.block b (by have := h.lt; omega) (by omega)⟩, h.hB, hbox, hk', hm', hs',
    (hls.keep (R' := TAt (Sn w B w1) w2 n') hS fun _ _ _ _ _ _ ht => ht.keep hS).mono hS2 fun _ _ _ _ _ _ ht => ht.mono hS2, hf⟩
theorem put4_box {w : World} {B : Nat} {a b c d a' b' c' d' : Value} (h : w.heap[B]? = some (.cells #[a, b, c, d] 26 (0, 0))) : (put4 w B a' b' c' d').heap[B]? = some (.cells #[a', b', c', d'] 26 (0, 0)) := by
  unfold put4
  exact Row.setHeap (Row.setHeap (Row.setHeap (Row.setHeap h 0 a') 1 b') 2 c') 3 d'
theorem put4_size (w : World) (B : Nat) (a b c d : Value) : (put4 w B a b c d).heap.size = w.heap.size := by simp [put4]

theorem info_b : (Tryz.prog.info? 5).map (fun i => (i.zero, i.size, i.bytes)) = some (some (.int .u8 0), 1, 1) := by kernel_rfl
theorem zeros_text (x : Nat) (w : World) : (convert 22 9 (.slice (some ⟨w.heap.size, 0, none⟩) x x)).run Tryz.prog (w.alloc (.cells (madeCells #[.int .u8 0] x) 5)) =
    .ok (.string (strOfNums (List.replicate x 0))) (w.alloc (.cells (madeCells #[.int .u8 0] x) 5)) :=
  run_convert_bytes_arg (P := Tryz.prog) (w.alloc (.cells (madeCells #[.int .u8 0] x) 5)) 22 5 Tryz.underlying22 Tryz.underlying5 w.heap.size 0 x x (List.replicate x 0) (by simp) (fun i hi => by
    rw [cell_of_heap (heap_new _ _)]
    simp [madeCells, hi, Nat.mod_one, List.getD_eq_getElem?_getD]) 9 Tryz.underlying9

theorem sat_nil {α : Type} {S : Nat → Prop} {w : World} {R : α → Value → Value → Value → Value → Prop} : SAt S w R [] (.slice none 0 0) := ⟨none, 0, rfl, by simp, by simp, fun i hi => by simp at hi⟩
/-- The box written whole. -/
theorem BoxT.whole {g L M B n n' : Nat} {v : Value} {w w1 : World} {k m k' m' : Int} {s s' : ByteArray} {ks : List (Tm n)} {c c' : Value} {ls : List (Tm n')} (h : BoxT g L v M w B w1 n k m s ks c) (hk' : In64 k') (hm' : In64 m') (hs' : s'.size ≤ 2 ^ 47)
    (hls : SAt (Sn w B w1) w1 (TAt (Sn w B w1) w1 n') ls c') (hf : ls.length ≤ 5000) : BoxT g L v M w B (put4 w1 B (.int .i64 k') (.int .i64 m') (.string s') c') n' k' m' s' ls c' :=
  h.put (put4_kept _ _ _ _ _ _) (put4_size _ _ _ _ _ _) (put4_box h.box) hk' hm' hs' hls hf

/-- The box's term wrapped into a list of one. -/
theorem BoxT.wrap {g L M B n : Nat} {v : Value} {w w1 w2 : World} {k m : Int} {s : ByteArray} {ks : List (Tm n)} {c : Value} (h : BoxT g L v M w B w1 n k m s ks c)
    (hb : Below (w1.heap.size + 1) (w1.alloc (.cells #[.int .i64 k, .int .i64 m, .string s, c] 26)) w2) :
    ∃ u : Tm (n + 1), BoxT g L v M w B (put4 w2 B (.int .i64 8) (.int .i64 0) (.string ⟨#[]⟩) (.slice (some ⟨w1.heap.size, 0, none⟩) 1 1)) (n + 1) 8 0 ⟨#[]⟩ [u] (.slice (some ⟨w1.heap.size, 0, none⟩) 1 1) := by
  have hbz : Below w1.heap.size w1 w2 := ((Below.refl w1.heap.size w1).alloc (Nat.le_refl _) _).trans (hb.mono (Nat.le_succ _))
  have h2 := h.below hbz
  have hblk := (hb.block w1.heap.size (by omega)).trans (heap_new w1 _)
  have hlt := h.lt
  have hsz : w1.heap.size + 1 ≤ w2.heap.size := by have := hb.size; simpa using this
  have hroom := h.st.room
  obtain ⟨u, hu⟩ : ∃ u : Tm (n + 1), TAt (Sn w B w2) w2 (n + 1) u (.int .i64 k) (.int .i64 m) (.string s) c := ⟨(k, m, s, ks), rfl, rfl, rfl, h.k64, h.m64, h.s47, h2.kids⟩
  refine ⟨u, h2.whole (n' := n + 1) (ls := [u]) ⟨by omega, by omega⟩ ⟨by omega, by omega⟩ (by decide) ⟨_, 1, rfl, by simp, by simp, fun i hi => ?_⟩ (by simp)⟩
  obtain rfl : i = 0 := by simp at hi; omega
  exact ⟨w1.heap.size, 0, .int .i64 k, .int .i64 m, .string s, c, rfl, ⟨by omega, by omega, by omega⟩, by simpa using cell_of_heap hblk 0, by simpa using cell_of_heap hblk 1, by simpa using cell_of_heap hblk 2, by simpa using cell_of_heap hblk 3, hu⟩
/-- The box written whole, whatever it held. -/
theorem box_made {g L M B n : Nat} {v : Value} {w w1 : World} {y0 y1 y2 y3 c : Value} {k m : Int} {s : ByteArray} {ks : List (Tm n)} (hst : St g L v M w w1) (hB : w.heap.size + 1 ≤ B) (hbox : w1.heap[B]? = some (.cells #[y0, y1, y2, y3] 26 (0, 0)))
    (hk : In64 k) (hm : In64 m) (hs : s.size ≤ 2 ^ 47) (hks : SAt (Sn w B w1) w1 (TAt (Sn w B w1) w1 n) ks c) (hf : ks.length ≤ 5000) : BoxT g L v M w B (put4 w1 B (.int .i64 k) (.int .i64 m) (.string s) c) n k m s ks c := by
  have hp := put4_kept w1 B (.int .i64 k) (.int .i64 m) (.string s) c
  have hz := put4_size w1 B (.int .i64 k) (.int .i64 m) (.string s) c
  have hS : ∀ b, Sn w B w1 b → (put4 w1 B (.int .i64 k) (.int .i64 m) (.string s) c).heap[b]? = w1.heap[b]? := fun b hb => hp.block b hb.2.1 hb.2.2
  have hS2 : ∀ b, Sn w B w1 b → Sn w B (put4 w1 B (.int .i64 k) (.int .i64 m) (.string s) c) b := fun b hb => ⟨hb.1, by omega, hb.2.2⟩
  have hr := hst.room
  exact ⟨hst.low ⟨hp.os, hp.tape, hp.output, hp.size, fun b hb => hp.block b (by omega) (by omega)⟩, hB, put4_box hbox, hk, hm, hs, (hks.keep (R' := TAt (Sn w B w1) _ n) hS fun _ _ _ _ _ _ ht => ht.keep hS).mono hS2 fun _ _ _ _ _ _ ht => ht.mono hS2, hf⟩

/-- How many bytes may be taken. -/
def anyCost : Nat := 200000
def AnyEnd (g L : Nat) (v : Value) (N : Nat) (w : World) (e : Ending) (w' : World) : Prop :=
  ∃ (n : Nat) (t : Tm n) (k m : Int) (s : ByteArray) (a : Option Addr) (l c : Nat), e = .returned (.agg #[.int .i64 k, .int .i64 m, .string s, .slice a l c]) ∧
    TAt (From w.heap.size w') w' n t (.int .i64 k) (.int .i64 m) (.string s) (.slice a l c) ∧ l ≤ 5000 ∧ Cur g L v (N + anyCost) w' ∧ Kept g w w'
theorem any_end {g L M N B n : Nat} {v : Value} {w w' : World} {k m : Int} {s : ByteArray} {ks : List (Tm n)} {a : Option Addr} {l c : Nat} (h : BoxT g L v M w B w' n k m s ks (.slice a l c)) (hM : M ≤ N + anyCost) :
    AnyEnd g L v N w (.returned (.agg #[.int .i64 k, .int .i64 m, .string s, .slice a l c])) (put4 w' w.heap.size (.int .i64 k) (.int .i64 m) (.string s) (.slice a l c)) := by
  have hp := put4_kept w' w.heap.size (.int .i64 k) (.int .i64 m) (.string s) (.slice a l c)
  have hS : ∀ b, Sn w B w' b → (put4 w' w.heap.size (.int .i64 k) (.int .i64 m) (.string s) (.slice a l c)).heap[b]? = w'.heap[b]? := fun b hb => hp.block b hb.2.1 (by have := hb.1; omega)
  have hS2 : ∀ b, Sn w B w' b → From w.heap.size (put4 w' w.heap.size (.int .i64 k) (.int .i64 m) (.string s) (.slice a l c)) b := fun b hb => ⟨by have := hb.1; omega, Nat.lt_of_lt_of_le hb.2.1 hp.size⟩
  have hl : l = ks.length := by obtain ⟨_, _, h1, _⟩ := h.kids; simp at h1; exact h1.2.1
  have hg := h.st.gl
  exact ⟨n + 1, (k, m, s, ks), k, m, s, a, l, c, rfl, ⟨rfl, rfl, rfl, h.k64, h.m64, h.s47, (h.kids.keep (R' := TAt (Sn w B w') _ n) hS fun _ _ _ _ _ _ ht => ht.keep hS).mono hS2 fun _ _ _ _ _ _ ht => ht.mono hS2⟩,
    by rw [hl]; exact h.few, (h.st.cur.low fun b hb => hp.block b (by have := h.st.lt; omega) (by omega)).mono hM, h.st.kept.both hp (Nat.le_refl _)⟩

theorem cost_five : ∀ D, D ≤ 5 → cost D ≤ 186620
  | 0, _ => by decide
  | 1, _ => by decide
  | 2, _ => by decide
  | 3, _ => by decide
  | 4, _ => by decide
  | 5, _ => by decide
  | _ + 6, h => by omega

/-- The box's kids written anew. -/
theorem box_kids {g L M B n : Nat} {v : Value} {w w1 : World} {c c' : Value} {k m : Int} {s : ByteArray} {ls : List (Tm n)} (hst : St g L v M w w1) (hB : w.heap.size + 1 ≤ B) (hbox : w1.heap[B]? = some (.cells #[.int .i64 k, .int .i64 m, .string s, c] 26 (0, 0)))
    (hk : In64 k) (hm : In64 m) (hs : s.size ≤ 2 ^ 47) (hks : SAt (Sn w B w1) w1 (TAt (Sn w B w1) w1 n) ls c') (hf : ls.length ≤ 5000) : BoxT g L v M w B (w1.setCell ⟨B, 3, none⟩ c') n k m s ls c' := by
  have hp : Kept B w1 (w1.setCell ⟨B, 3, none⟩ c') := (Kept.refl _ _).set _ _
  have hz : (w1.setCell ⟨B, 3, none⟩ c').heap.size = w1.heap.size := by simp
  have hS : ∀ b, Sn w B w1 b → (w1.setCell ⟨B, 3, none⟩ c').heap[b]? = w1.heap[b]? := fun b hb => hp.block b hb.2.1 hb.2.2
  have hS2 : ∀ b, Sn w B w1 b → Sn w B (w1.setCell ⟨B, 3, none⟩ c') b := fun b hb => ⟨hb.1, by omega, hb.2.2⟩
  have hr := hst.room
  exact ⟨hst.low ⟨hp.os, hp.tape, hp.output, hp.size, fun b hb => hp.block b (by omega) (by omega)⟩, hB, Row.setHeap hbox 3 _, hk, hm, hs, (hks.keep (R' := TAt (Sn w B w1) _ n) hS fun _ _ _ _ _ _ ht => ht.keep hS).mono hS2 fun _ _ _ _ _ _ ht => ht.mono hS2, hf⟩

/-- Cells that stand for terms, in an own row, as a slice that is read. -/
theorem own_sat {S : Nat → Prop} {base n R len cap : Nat} {w : World} {ls : List (Tm n)} {xs : List Value} (ho : w.ownsRow base 26 4 (.slice (some ⟨R, 0, none⟩) len cap) ls.length xs) (hl : len = ls.length) (hf : ls.length ≤ 100000) (hR : S R) (hc : CellsAt S w ls xs) :
    SAt S w (TAt S w n) ls (.slice (some ⟨R, 0, none⟩) len cap) := by
  subst hl
  rcases own_place ho with ⟨h, _⟩ | ⟨G, cp, h, h3, h4, h5, h6⟩
  · simp at h
  · simp at h
    obtain ⟨rfl, rfl⟩ := h
    refine ⟨some ⟨R, 0, none⟩, cap, rfl, h5, by omega, fun i hi => ?_⟩
    obtain ⟨d0, d1, d2, d3, e0, e1, e2, e3, ht⟩ := hc.2 i hi
    refine ⟨R, 0, d0, d1, d2, d3, rfl, hR, ?_, ?_, ?_, ?_, ht⟩ <;> rw [Nat.zero_add, h6 _ (by omega)] <;> assumption

/-- A term that lies in a new block put behind the row of kids that came with the box. -/
theorem row_box {g n m S3 : Nat} {w w2 wq wz : World} {ks : List (Tm n)} {xs : List Value} {kv : Value} (hX : RowsX (w.heap.size + 1) w2 ks kv xs) (hl : ks.length ≤ 4000) (hk : Kept g w2 wq) (hg : g < w.heap.size) (hS3 : w2.heap.size < S3) (hb2 : w.heap.size + 1 ≤ w2.heap.size)
    {t : Tm m} {d0 d1 d2 d3 : Value} (ht : TAt (From S3 wq) wq m t d0 d1 d2 d3) (hw : w2.heap.size < wq.heap.size)
    (hz : wz.heap = (wq.alloc (.cells #[d0, d1, d2, d3] 26)).heap ∧ wz.os = wq.os ∧ wz.tape = wq.tape ∧ wz.output = wq.output) (ty : TypeId) :
    ∃ R cap w' N, ∃ ls : List (Tm N), (Builtin.append_ #[24, 24] ty #[kv, .slice (some ⟨wq.heap.size, 0, none⟩) 1 1]).run Tryz.prog wz = .ok (.slice (some ⟨R, 0, none⟩) (ks.length + 1) cap) w' ∧ ls.length = ks.length + 1 ∧
      SAt (Sn w w2.heap.size w') w' (TAt (Sn w w2.heap.size w') w' N) ls (.slice (some ⟨R, 0, none⟩) (ks.length + 1) cap) ∧ Below (w.heap.size + 1) wq w' ∧ w'.heap[w2.heap.size]? = wq.heap[w2.heap.size]? := by
  have hbz : Below wq.heap.size wq wz := ⟨hz.2.1, hz.2.2.1, hz.2.2.2, by rw [hz.1]; simp, fun k hk => by rw [hz.1]; exact Below.heap_alloc _ _ _ hk⟩
  have hXz := (hX.kept hk (by omega)).up hbz
  have hsz : wq.heap.size + 1 = wz.heap.size := by rw [hz.1]; simp
  have hblk : wz.heap[wq.heap.size]? = some (.cells #[d0, d1, d2, d3] 26 (0, 0)) := by rw [hz.1]; exact heap_new _ _
  have hcs : CellsAt (fun b => Sn w w2.heap.size wz b ∧ kv.ownBlock ≠ some b) wz ks xs := hX.2.keep (fun b hb => (hbz.block b (by have := hb.2.1; have := hk.size; omega)).trans (hk.block b hb.2.1 (by have := hb.1; omega)))
    fun b hb => ⟨⟨hb.1, by have := hb.2.1; have := hk.size; omega, by have := hb.2.1; omega⟩, hb.2.2⟩
  have ht2 : TAt (fun b => Sn w w2.heap.size wz b ∧ kv.ownBlock ≠ some b) wz m t d0 d1 d2 d3 := (ht.below hbz fun b hb => hb.2).mono fun b hb => ⟨⟨by have := hb.1; omega, by have := hb.2; omega, by have := hb.1; omega⟩, fun e => by have := (hX.1.lt b e).2; have := hb.1; omega⟩
  obtain ⟨ls, hll, hls⟩ := hcs.deepTo (Nat.le_max_left n m)
  obtain ⟨t', ht'⟩ := ht2.deepTo (Nat.le_max_right n m)
  obtain ⟨R, cap, w', hr, ho, hg', hR⟩ := run_append_terms (w.heap.size + 1) kv ks.length xs wz hXz.1 (by omega) ⟨wq.heap.size, 0, none⟩ 1 1 [d0, d1, d2, d3] rfl ⟨by omega, by omega⟩
    (fun j u hu => by rw [Go.WideShapes.add_plain, cell_of_heap hblk, Nat.zero_add, ← Array.getElem?_toList]; exact hu) (shape_one ht) (by omega) ty
  have hown : ∀ b, kv.ownBlock = some b → w.heap.size + 1 ≤ b ∧ b < w2.heap.size := fun b e => hX.1.lt b e
  have hSR : Sn w w2.heap.size w' R := by
    have hlt := (ho.lt R rfl).2
    rcases hR with hR | hR
    · have := hown R hR; exact ⟨this.1, hlt, by omega⟩
    · exact ⟨by omega, hlt, by omega⟩
  have hc' : CellsAt (Sn w w2.heap.size w') w' (ls ++ [t']) (xs ++ [d0, d1, d2, d3]) := (hls.append (CellsAt.one ht')).keep (fun b hb => hg'.block b hb.1.2.1 fun e => hb.2 e.symm) fun b hb => ⟨hb.1.1, Nat.lt_of_lt_of_le hb.1.2.1 hg'.size, hb.1.2.2⟩
  have hlen : (ls ++ [t']).length = ks.length + 1 := by rw [List.length_append, hll]; rfl
  refine ⟨R, cap, w', _, ls ++ [t'], hr, hlen, own_sat (base := w.heap.size + 1) (by rw [hlen]; exact ho) hlen.symm (by rw [hlen]; omega) hSR hc', (hbz.mono (by omega)).grown hg' (by omega) fun k hk => (hown k hk).1, ?_⟩
  exact (hg'.block _ (by omega) fun e => by have := hown _ e.symm; omega).trans (hbz.block _ hw)

end Go.Proofs.YthfjgffhncogaaaGreat
