/- spec's l01DrawAny, as a function of the code: what its walk needs. -/
import Derived.Test.YthfjgffhncogaaaGreatDw5
import Derived.Test.YthfjgffhncogaaaGreatDd4
import Derived.Laws.BytesArg
namespace Go.Proofs.YthfjgffhncogaaaGreat
open Go.RowKit Go.Deep

/-- A tree as one of another depth: the same wherever it is deep enough. -/
def cvT : (n m : Nat) → Tm n → Tm (m + 1)
  | 0, _, t => t.elim
  | _ + 1, 0, (k, i, s, _) => (k, i, s, [])
  | n + 1, m + 1, (k, i, s, ks) => (k, i, s, ks.map (cvT n m))
theorem SAt.cv {S : Nat → Prop} {w : World} {n n' : Nat} {f : Tm n → Tm n'} (hf : ∀ t a b c d, TAt S w n t a b c d → TAt S w n' (f t) a b c d) {ks : List (Tm n)} {v : Value} (h : SAt S w (TAt S w n) ks v) : SAt S w (TAt S w n') (ks.map f) v := by
  obtain ⟨a, cap, rfl, h1, h2, h3⟩ := h
  refine ⟨a, cap, by rw [List.length_map], by rw [List.length_map]; exact h1, by rw [List.length_map]; exact h2, fun i hi => ?_⟩
  rw [List.length_map] at hi
  obtain ⟨b, off, d0, d1, d2, d3, e0, e1, e2, e3, e4, e5, ht⟩ := h3 i hi
  exact ⟨b, off, d0, d1, d2, d3, e0, e1, e2, e3, e4, e5, by rw [List.getElem_map]; exact hf _ _ _ _ _ ht⟩
theorem TAt.cv {S : Nat → Prop} {w : World} : ∀ {n m : Nat}, n ≤ m + 1 → ∀ {t : Tm n} {a b c d : Value}, TAt S w n t a b c d → TAt S w (m + 1) (cvT n m t) a b c d
  | 0, _, _, t => t.elim
  | n + 1, 0, hm, (k, i, s, ks) => fun ⟨h0, h1, h2, h3, h4, h5, h6⟩ => by
    obtain rfl : n = 0 := by omega
    refine ⟨h0, h1, h2, h3, h4, h5, ?_⟩
    have : ks = [] := by
      cases ks with
      | nil => rfl
      | cons t _ => exact t.elim
    subst this
    exact h6
  | n + 1, m + 1, hm, (k, i, s, ks) => fun ⟨h0, h1, h2, h3, h4, h5, h6⟩ => ⟨h0, h1, h2, h3, h4, h5, h6.cv fun _ _ _ _ _ ht => TAt.cv (by omega) ht⟩
theorem CellsAt.cv {S : Nat → Prop} {w : World} {n m : Nat} (h : n ≤ m + 1) {ks : List (Tm n)} {xs : List Value} (hk : CellsAt S w ks xs) : CellsAt S w (ks.map (cvT n m)) xs := by
  refine ⟨by rw [List.length_map]; exact hk.1, fun i hi => ?_⟩
  rw [List.length_map] at hi
  obtain ⟨d0, d1, d2, d3, e0, e1, e2, e3, ht⟩ := hk.2 i hi
  exact ⟨d0, d1, d2, d3, e0, e1, e2, e3, by rw [List.getElem_map]; exact ht.cv h⟩

/-- Under way: box B holds a term. -/
structure BoxD (g : Nat) (q : Src) (v : Value) (M : Nat) (σ : Sig) (w : World) (B : Nat) (w' : World) (n : Nat) (k m : Int) (s : ByteArray) (ks : List (Tm n)) (c : Value) : Prop where
  st : StD g q v M σ w w'
  hB : w.heap.size + 1 ≤ B
  box : w'.heap[B]? = some (.cells #[.int .i64 k, .int .i64 m, .string s, c] 26 (0, 0))
  k64 : In64 k
  m64 : In64 m
  s47 : s.size ≤ 2 ^ 47
  kids : SAt (Sn w B w') w' (TAt (Sn w B w') w' n) ks c
  few : ks.length ≤ 5000

theorem BoxD.lt {g M B n : Nat} {q : Src} {v : Value} {σ : Sig} {w w' : World} {k m : Int} {s : ByteArray} {ks : List (Tm n)} {c : Value} (h : BoxD g q v M σ w B w' n k m s ks c) : B < w'.heap.size := by
  have hb := h.box
  rcases Nat.lt_or_ge B w'.heap.size with h1 | h1
  · exact h1
  · rw [Array.getElem?_eq_none h1] at hb; cases hb
/-- Where only the cursor was written. -/
theorem BoxD.go {g M M' B n : Nat} {q : Src} {v : Value} {σ σ' : Sig} {w w1 w2 : World} {k m : Int} {s : ByteArray} {ks : List (Tm n)} {c : Value} (h : BoxD g q v M σ w B w1 n k m s ks c) (hk : Kept g w1 w2) (hs : StD g q v M' σ' w w2) : BoxD g q v M' σ' w B w2 n k m s ks c := by
  have hg := h.st.gl
  have hS : ∀ b, Sn w B w1 b → w2.heap[b]? = w1.heap[b]? := fun b hb => hk.block b hb.2.1 (by have := hb.1; omega)
  have hS2 : ∀ b, Sn w B w1 b → Sn w B w2 b := fun b hb => ⟨hb.1, Nat.lt_of_lt_of_le hb.2.1 hk.size, hb.2.2⟩
  exact ⟨hs, h.hB, (hk.block B h.lt (by have := h.hB; omega)).trans h.box, h.k64, h.m64, h.s47,
    (h.kids.keep (R' := TAt (Sn w B w1) w2 n) hS fun _ _ _ _ _ _ ht => ht.keep hS).mono hS2 fun _ _ _ _ _ _ ht => ht.mono hS2, h.few⟩
theorem BoxD.below {g M B n : Nat} {q : Src} {v : Value} {σ : Sig} {w w1 w2 : World} {k m : Int} {s : ByteArray} {ks : List (Tm n)} {c : Value} (h : BoxD g q v M σ w B w1 n k m s ks c) (hb : Below w1.heap.size w1 w2) : BoxD g q v M σ w B w2 n k m s ks c := h.go (Kept.below hb) (h.st.below hb)
theorem BoxD.cells {g M B n : Nat} {q : Src} {v : Value} {σ : Sig} {w w' : World} {k m : Int} {s : ByteArray} {ks : List (Tm n)} {c : Value} (h : BoxD g q v M σ w B w' n k m s ks c) :
    (w'.cell? ⟨B, 0, none⟩ = some (.int .i64 k) ∧ w'.cell? ⟨B, 1, none⟩ = some (.int .i64 m) ∧ w'.cell? ⟨B, 2, none⟩ = some (.string s) ∧ w'.cell? ⟨B, 3, none⟩ = some c) ∧
    (w'.frozen? ⟨B, 0, none⟩ = false ∧ w'.frozen? ⟨B, 1, none⟩ = false ∧ w'.frozen? ⟨B, 2, none⟩ = false ∧ w'.frozen? ⟨B, 3, none⟩ = false) :=
  ⟨⟨cell_of_heap h.box 0, cell_of_heap h.box 1, cell_of_heap h.box 2, cell_of_heap h.box 3⟩, ⟨frozen_of_heap h.box 0, frozen_of_heap h.box 1, frozen_of_heap h.box 2, frozen_of_heap h.box 3⟩⟩
/-- The box written anew, nothing else turned. -/
theorem BoxD.put {g M B n n' : Nat} {q : Src} {v : Value} {σ : Sig} {w w1 w2 : World} {k m k' m' : Int} {s s' : ByteArray} {ks : List (Tm n)} {c c' : Value} {ls : List (Tm n')} (h : BoxD g q v M σ w B w1 n k m s ks c) (hk : Kept B w1 w2) (hsz : w2.heap.size = w1.heap.size)
    (hbox : w2.heap[B]? = some (.cells #[.int .i64 k', .int .i64 m', .string s', c'] 26 (0, 0))) (hk' : In64 k') (hm' : In64 m') (hs' : s'.size ≤ 2 ^ 47) (hls : SAt (Sn w B w1) w1 (TAt (Sn w B w1) w1 n') ls c') (hf : ls.length ≤ 5000) :
    BoxD g q v M σ w B w2 n' k' m' s' ls c' := by
  have hS : ∀ b, Sn w B w1 b → w2.heap[b]? = w1.heap[b]? := fun b hb => hk.block b hb.2.1 hb.2.2
  have hS2 : ∀ b, Sn w B w1 b → Sn w B w2 b := fun b hb => ⟨hb.1, by omega, hb.2.2⟩
  have hB := h.hB
  exact ⟨h.st.low ⟨hk.os, hk.tape, hk.output, hk.size, fun b hb => hk.block b (by have := h.lt; omega) (by omega)⟩, h.hB, hbox, hk', hm', hs',
    (hls.keep (R' := TAt (Sn w B w1) w2 n') hS fun _ _ _ _ _ _ ht => ht.keep hS).mono hS2 fun _ _ _ _ _ _ ht => ht.mono hS2, hf⟩
/-- The box written whole. -/
theorem BoxD.whole {g M B n n' : Nat} {q : Src} {v : Value} {σ : Sig} {w w1 : World} {k m k' m' : Int} {s s' : ByteArray} {ks : List (Tm n)} {c c' : Value} {ls : List (Tm n')} (h : BoxD g q v M σ w B w1 n k m s ks c) (hk' : In64 k') (hm' : In64 m') (hs' : s'.size ≤ 2 ^ 47)
    (hls : SAt (Sn w B w1) w1 (TAt (Sn w B w1) w1 n') ls c') (hf : ls.length ≤ 5000) : BoxD g q v M σ w B (put4 w1 B (.int .i64 k') (.int .i64 m') (.string s') c') n' k' m' s' ls c' :=
  h.put (put4_kept _ _ _ _ _ _) (put4_size _ _ _ _ _ _) (put4_box h.box) hk' hm' hs' hls hf

/-- The box's term wrapped into a list of one. -/
theorem BoxD.wrap {g M B n : Nat} {q : Src} {v : Value} {σ : Sig} {w w1 w2 : World} {k m : Int} {s : ByteArray} {ks : List (Tm n)} {c : Value} (h : BoxD g q v M σ w B w1 n k m s ks c)
    (hb : Below (w1.heap.size + 1) (w1.alloc (.cells #[.int .i64 k, .int .i64 m, .string s, c] 26)) w2) :
    BoxD g q v M σ w B (put4 w2 B (.int .i64 8) (.int .i64 0) (.string ⟨#[]⟩) (.slice (some ⟨w1.heap.size, 0, none⟩) 1 1)) (n + 1) 8 0 ⟨#[]⟩ [((k, m, s, ks) : Tm (n + 1))] (.slice (some ⟨w1.heap.size, 0, none⟩) 1 1) := by
  have hbz : Below w1.heap.size w1 w2 := ((Below.refl w1.heap.size w1).alloc (Nat.le_refl _) _).trans (hb.mono (Nat.le_succ _))
  have h2 := h.below hbz
  have hblk := (hb.block w1.heap.size (by omega)).trans (heap_new w1 _)
  have hlt := h.lt
  have hsz : w1.heap.size + 1 ≤ w2.heap.size := by have := hb.size; simpa using this
  have hroom := h.st.room
  have hu : TAt (Sn w B w2) w2 (n + 1) (k, m, s, ks) (.int .i64 k) (.int .i64 m) (.string s) c := ⟨rfl, rfl, rfl, h.k64, h.m64, h.s47, h2.kids⟩
  have key : ∀ u : Tm (n + 1), TAt (Sn w B w2) w2 (n + 1) u (.int .i64 k) (.int .i64 m) (.string s) c → BoxD g q v M σ w B (put4 w2 B (.int .i64 8) (.int .i64 0) (.string ⟨#[]⟩) (.slice (some ⟨w1.heap.size, 0, none⟩) 1 1)) (n + 1) 8 0 ⟨#[]⟩ [u] (.slice (some ⟨w1.heap.size, 0, none⟩) 1 1) := fun u hu => by
   refine h2.whole (n' := n + 1) (ls := [u]) ⟨by omega, by omega⟩ ⟨by omega, by omega⟩ (by decide) ⟨_, 1, rfl, by simp, by simp, fun i hi => ?_⟩ (by simp)
   obtain rfl : i = 0 := by simp at hi; omega
   exact ⟨w1.heap.size, 0, .int .i64 k, .int .i64 m, .string s, c, rfl, ⟨by omega, by omega, by omega⟩, by simpa using cell_of_heap hblk 0, by simpa using cell_of_heap hblk 1, by simpa using cell_of_heap hblk 2, by simpa using cell_of_heap hblk 3, hu⟩
  exact key _ hu
/-- The box written whole, whatever it held. -/
theorem boxD_made {g M B n : Nat} {q : Src} {v : Value} {σ : Sig} {w w1 : World} {y0 y1 y2 y3 c : Value} {k m : Int} {s : ByteArray} {ks : List (Tm n)} (hst : StD g q v M σ w w1) (hB : w.heap.size + 1 ≤ B) (hbox : w1.heap[B]? = some (.cells #[y0, y1, y2, y3] 26 (0, 0)))
    (hk : In64 k) (hm : In64 m) (hs : s.size ≤ 2 ^ 47) (hks : SAt (Sn w B w1) w1 (TAt (Sn w B w1) w1 n) ks c) (hf : ks.length ≤ 5000) : BoxD g q v M σ w B (put4 w1 B (.int .i64 k) (.int .i64 m) (.string s) c) n k m s ks c := by
  have hp := put4_kept w1 B (.int .i64 k) (.int .i64 m) (.string s) c
  have hz := put4_size w1 B (.int .i64 k) (.int .i64 m) (.string s) c
  have hS : ∀ b, Sn w B w1 b → (put4 w1 B (.int .i64 k) (.int .i64 m) (.string s) c).heap[b]? = w1.heap[b]? := fun b hb => hp.block b hb.2.1 hb.2.2
  have hS2 : ∀ b, Sn w B w1 b → Sn w B (put4 w1 B (.int .i64 k) (.int .i64 m) (.string s) c) b := fun b hb => ⟨hb.1, by omega, hb.2.2⟩
  have hr := hst.room
  exact ⟨hst.low ⟨hp.os, hp.tape, hp.output, hp.size, fun b hb => hp.block b (by omega) (by omega)⟩, hB, put4_box hbox, hk, hm, hs, (hks.keep (R' := TAt (Sn w B w1) _ n) hS fun _ _ _ _ _ _ ht => ht.keep hS).mono hS2 fun _ _ _ _ _ _ ht => ht.mono hS2, hf⟩

/-- The box's kids written anew. -/
theorem boxD_kids {g M B n : Nat} {q : Src} {v : Value} {σ : Sig} {w w1 : World} {c c' : Value} {k m : Int} {s : ByteArray} {ls : List (Tm n)} (hst : StD g q v M σ w w1) (hB : w.heap.size + 1 ≤ B) (hbox : w1.heap[B]? = some (.cells #[.int .i64 k, .int .i64 m, .string s, c] 26 (0, 0)))
    (hk : In64 k) (hm : In64 m) (hs : s.size ≤ 2 ^ 47) (hks : SAt (Sn w B w1) w1 (TAt (Sn w B w1) w1 n) ls c') (hf : ls.length ≤ 5000) : BoxD g q v M σ w B (w1.setCell ⟨B, 3, none⟩ c') n k m s ls c' := by
  have hp : Kept B w1 (w1.setCell ⟨B, 3, none⟩ c') := (Kept.refl _ _).set _ _
  have hz : (w1.setCell ⟨B, 3, none⟩ c').heap.size = w1.heap.size := by simp
  have hS : ∀ b, Sn w B w1 b → (w1.setCell ⟨B, 3, none⟩ c').heap[b]? = w1.heap[b]? := fun b hb => hp.block b hb.2.1 hb.2.2
  have hS2 : ∀ b, Sn w B w1 b → Sn w B (w1.setCell ⟨B, 3, none⟩ c') b := fun b hb => ⟨hb.1, by omega, hb.2.2⟩
  have hr := hst.room
  exact ⟨hst.low ⟨hp.os, hp.tape, hp.output, hp.size, fun b hb => hp.block b (by omega) (by omega)⟩, hB, Row.setHeap hbox 3 _, hk, hm, hs, (hks.keep (R' := TAt (Sn w B w1) _ n) hS fun _ _ _ _ _ _ ht => ht.keep hS).mono hS2 fun _ _ _ _ _ _ ht => ht.mono hS2, hf⟩


/-- A term that lies in a new block put behind the row of kids that came with the box. -/
theorem row_boxD {g n m S3 : Nat} {w w2 wq wz : World} {ks : List (Tm n)} {xs : List Value} {kv : Value} (hX : RowsX (w.heap.size + 1) w2 ks kv xs) (hl : ks.length ≤ 4000) (hk : Kept g w2 wq) (hg : g < w.heap.size) (hS3 : w2.heap.size < S3) (hb2 : w.heap.size + 1 ≤ w2.heap.size)
    {t : Tm m} {d0 d1 d2 d3 : Value} (ht : TAt (From S3 wq) wq m t d0 d1 d2 d3) (hw : w2.heap.size < wq.heap.size)
    (N : Nat) (hn : n ≤ N + 1) (hm : m ≤ N + 1) (hz : wz.heap = (wq.alloc (.cells #[d0, d1, d2, d3] 26)).heap ∧ wz.os = wq.os ∧ wz.tape = wq.tape ∧ wz.output = wq.output) (ty : TypeId) :
    ∃ R cap w', (Builtin.append_ #[24, 24] ty #[kv, .slice (some ⟨wq.heap.size, 0, none⟩) 1 1]).run Tryz.prog wz = .ok (.slice (some ⟨R, 0, none⟩) (ks.length + 1) cap) w' ∧
      SAt (Sn w w2.heap.size w') w' (TAt (Sn w w2.heap.size w') w' (N + 1)) (ks.map (cvT n N) ++ [cvT m N t]) (.slice (some ⟨R, 0, none⟩) (ks.length + 1) cap) ∧ Below (w.heap.size + 1) wq w' ∧ w'.heap[w2.heap.size]? = wq.heap[w2.heap.size]? := by
  have hbz : Below wq.heap.size wq wz := ⟨hz.2.1, hz.2.2.1, hz.2.2.2, by rw [hz.1]; simp, fun k hk => by rw [hz.1]; exact Below.heap_alloc _ _ _ hk⟩
  have hXz := (hX.kept hk (by omega)).up hbz
  have hsz : wq.heap.size + 1 = wz.heap.size := by rw [hz.1]; simp
  have hblk : wz.heap[wq.heap.size]? = some (.cells #[d0, d1, d2, d3] 26 (0, 0)) := by rw [hz.1]; exact heap_new _ _
  have hcs : CellsAt (fun b => Sn w w2.heap.size wz b ∧ kv.ownBlock ≠ some b) wz ks xs := hX.2.keep (fun b hb => (hbz.block b (by have := hb.2.1; have := hk.size; omega)).trans (hk.block b hb.2.1 (by have := hb.1; omega)))
    fun b hb => ⟨⟨hb.1, by have := hb.2.1; have := hk.size; omega, by have := hb.2.1; omega⟩, hb.2.2⟩
  have ht2 : TAt (fun b => Sn w w2.heap.size wz b ∧ kv.ownBlock ≠ some b) wz m t d0 d1 d2 d3 := (ht.below hbz fun b hb => hb.2).mono fun b hb => ⟨⟨by have := hb.1; omega, by have := hb.2; omega, by have := hb.1; omega⟩, fun e => by have := (hX.1.lt b e).2; have := hb.1; omega⟩
  have hls := hcs.cv hn
  have ht' := ht2.cv hm
  have hll : (ks.map (cvT n N)).length = ks.length := List.length_map ..
  obtain ⟨R, cap, w', hr, ho, hg', hR⟩ := run_append_terms (w.heap.size + 1) kv ks.length xs wz hXz.1 (by omega) ⟨wq.heap.size, 0, none⟩ 1 1 [d0, d1, d2, d3] rfl ⟨by omega, by omega⟩
    (fun j u hu => by rw [Go.WideShapes.add_plain, cell_of_heap hblk, Nat.zero_add, ← Array.getElem?_toList]; exact hu) (shape_one ht) (by omega) ty
  have hown : ∀ b, kv.ownBlock = some b → w.heap.size + 1 ≤ b ∧ b < w2.heap.size := fun b e => hX.1.lt b e
  have hSR : Sn w w2.heap.size w' R := by
    have hlt := (ho.lt R rfl).2
    rcases hR with hR | hR
    · have := hown R hR; exact ⟨this.1, hlt, by omega⟩
    · exact ⟨by omega, hlt, by omega⟩
  have hc' : CellsAt (Sn w w2.heap.size w') w' (ks.map (cvT n N) ++ [cvT m N t]) (xs ++ [d0, d1, d2, d3]) := (hls.append (CellsAt.one ht')).keep (fun b hb => hg'.block b hb.1.2.1 fun e => hb.2 e.symm) fun b hb => ⟨hb.1.1, Nat.lt_of_lt_of_le hb.1.2.1 hg'.size, hb.1.2.2⟩
  have hlen : (ks.map (cvT n N) ++ [cvT m N t]).length = ks.length + 1 := by rw [List.length_append, hll]; rfl
  refine ⟨R, cap, w', hr, own_sat (base := w.heap.size + 1) (by rw [hlen]; exact ho) hlen.symm (by rw [hlen]; omega) hSR hc', (hbz.mono (by omega)).grown hg' (by omega) fun k hk => (hown k hk).1, ?_⟩
  exact (hg'.block _ (by omega) fun e => by have := hown _ e.symm; omega).trans (hbz.block _ hw)


def ints3 : Array Value := #[.int .i64 (-1), .int .i64 1000000000000001, .int .i64 (-1000000000000001)]
def strs4 : Array Value := #[.string ⟨#[65]⟩, .string ⟨#[]⟩, .string ⟨#[97, 32, 98]⟩, .string ⟨#[120]⟩]
def nestT : (m : Nat) → Tm (m + 1)
  | 0 => ((1 : Int), (1 : Int), (⟨#[]⟩ : ByteArray), ([] : List (Tm 0)))
  | m + 1 => ((8 : Int), (0 : Int), (⟨#[]⟩ : ByteArray), [nestT m])
def nestF (q : Src) : Nat → Nat → Sig → Nat × Sig
  | 0, j, σ => (j, σ)
  | fuel + 1, j, σ => if (j : Int) < 100 + ((pickF q 2 σ).1 : Int) then nestF q fuel (j + 1) (pickF q 2 σ).2 else (j, (pickF q 2 σ).2)
def wideF (q : Src) : Nat → Nat → List (Tm 1) → Sig → List (Tm 1) × Sig
  | 0, _, ls, σ => (ls, σ)
  | fuel + 1, j, ls, σ => if (j : Int) < 2000 + ((pickF q 2 σ).1 : Int) then wideF q fuel (j + 1) (ls ++ [(show Tm 1 from ((1 : Int), (j : Int) % 300, (⟨#[]⟩ : ByteArray), ([] : List (Tm 0))))]) (pickF q 2 σ).2 else (ls, (pickF q 2 σ).2)
/-- What becomes of the drawn term. -/
def turnF {n : Nat} (q : Src) (x : Int) (k m : Int) (s : ByteArray) (ks : List (Tm n)) (σ : Sig) : Tm 101 × Sig :=
  if x = 0 then (cvT (n + 1) 100 (((pickF q 12 σ).1 : Int) - 1, m, s, ks), (pickF q 12 σ).2)
  else if x = 1 then (cvT (n + 1) 100 (k, intV ints3[(pickF q 3 σ).1]?, s, ks), (pickF q 3 σ).2)
  else if x = 2 then (cvT (n + 1) 100 (k, m, strV strs4[(pickF q 4 σ).1]?, ks), (pickF q 4 σ).2)
  else if x = 3 then (cvT 11 100 (k, m, s, ks.map (cvT n 9) ++ [cvT 2 9 (drawF q 1 σ).1]), (drawF q 1 σ).2)
  else if x = 4 then (cvT ((nestF q 101 1 σ).1 - 1 + 1) 100 (nestT ((nestF q 101 1 σ).1 - 1)), (nestF q 101 1 σ).2)
  else if x = 5 then (cvT 2 100 ((6 : Int), (0 : Int), (⟨#[]⟩ : ByteArray), (wideF q 2001 1 [] σ).1), (wideF q 2001 1 [] σ).2)
  else if x = 6 then (cvT 1 100 ((9 : Int), (0 : Int), strOfNums (List.replicate (4000 + (pickF q 2 σ).1) 0), ([] : List (Tm 0))), (pickF q 2 σ).2)
  else (cvT (n + 1) 100 (k, m, s, ks), σ)
def anyF (q : Src) (σ : Sig) : Tm 101 × Sig :=
  turnF q (pickF q 24 (drawF q ((sizeF q σ).1 + 1) (sizeF q σ).2).2).1 (drawF q ((sizeF q σ).1 + 1) (sizeF q σ).2).1.1 (drawF q ((sizeF q σ).1 + 1) (sizeF q σ).2).1.2.1 (drawF q ((sizeF q σ).1 + 1) (sizeF q σ).2).1.2.2.1
    (drawF q ((sizeF q σ).1 + 1) (sizeF q σ).2).1.2.2.2 (pickF q 24 (drawF q ((sizeF q σ).1 + 1) (sizeF q σ).2).2).2
theorem anyF_of {q : Src} {σ σ1 σ2 σ3 : Sig} {r x : Nat} {k m : Int} {s : ByteArray} {ks : List (Tm (r + 1))} (h1 : sizeF q σ = (r, σ1)) (h2 : drawF q (r + 1) σ1 = ((k, m, s, ks), σ2)) (h3 : pickF q 24 σ2 = (x, σ3)) : anyF q σ = turnF q x k m s ks σ3 := by
  unfold anyF
  rw [h1]
  dsimp only
  rw [h2]
  dsimp only
  rw [h3]

def AnyEndD (g : Nat) (q : Src) (v : Value) (N : Nat) (σ0 : Sig) (w : World) (e : Ending) (w' : World) : Prop :=
  ∃ (k m : Int) (s : ByteArray) (a : Option Addr) (l c : Nat), e = .returned (.agg #[.int .i64 k, .int .i64 m, .string s, .slice a l c]) ∧
    TAt (From w.heap.size w') w' 101 (anyF q σ0).1 (.int .i64 k) (.int .i64 m) (.string s) (.slice a l c) ∧ l ≤ 5000 ∧ CurD g q v (N + anyCost) (anyF q σ0).2 w' ∧ Kept g w w'
theorem anyD_end {g M N B n : Nat} {q : Src} {v : Value} {σ0 σ : Sig} {w w' : World} {k m : Int} {s : ByteArray} {ks : List (Tm n)} {a : Option Addr} {l c : Nat} (h : BoxD g q v M σ w B w' n k m s ks (.slice a l c)) (hM : M ≤ N + anyCost) (hn : n ≤ 100) (hF : anyF q σ0 = (cvT (n + 1) 100 (k, m, s, ks), σ)) :
    AnyEndD g q v N σ0 w (.returned (.agg #[.int .i64 k, .int .i64 m, .string s, .slice a l c])) (put4 w' w.heap.size (.int .i64 k) (.int .i64 m) (.string s) (.slice a l c)) := by
  have hp := put4_kept w' w.heap.size (.int .i64 k) (.int .i64 m) (.string s) (.slice a l c)
  have hS : ∀ b, Sn w B w' b → (put4 w' w.heap.size (.int .i64 k) (.int .i64 m) (.string s) (.slice a l c)).heap[b]? = w'.heap[b]? := fun b hb => hp.block b hb.2.1 (by have := hb.1; omega)
  have hS2 : ∀ b, Sn w B w' b → From w.heap.size (put4 w' w.heap.size (.int .i64 k) (.int .i64 m) (.string s) (.slice a l c)) b := fun b hb => ⟨by have := hb.1; omega, Nat.lt_of_lt_of_le hb.2.1 hp.size⟩
  have hl : l = ks.length := by obtain ⟨_, _, h1, _⟩ := h.kids; simp at h1; exact h1.2.1
  have hg := h.st.gl
  have ht : TAt (From w.heap.size (put4 w' w.heap.size (.int .i64 k) (.int .i64 m) (.string s) (.slice a l c))) (put4 w' w.heap.size (.int .i64 k) (.int .i64 m) (.string s) (.slice a l c)) (n + 1) (k, m, s, ks) (.int .i64 k) (.int .i64 m) (.string s) (.slice a l c) :=
    ⟨rfl, rfl, rfl, h.k64, h.m64, h.s47, (h.kids.keep (R' := TAt (Sn w B w') _ n) hS fun _ _ _ _ _ _ ht => ht.keep hS).mono hS2 fun _ _ _ _ _ _ ht => ht.mono hS2⟩
  refine ⟨k, m, s, a, l, c, rfl, ?_, by rw [hl]; exact h.few, ?_, h.st.kept.both hp (Nat.le_refl _)⟩
  · rw [hF]; exact ht.cv (by omega)
  · rw [hF]; exact (h.st.cur.low fun b hb => hp.block b (by have := h.st.lt; omega) (by omega)).mono hM

end Go.Proofs.YthfjgffhncogaaaGreat
