/- spec's DrawTermCompare: two trees in new memory. -/
import Derived.Test.YtjhdljmghhdhgaaDw6
import Derived.Deep.DeepCutAuto
namespace Go.Proofs.Ytjhdljmghhdhgaa
open Go.RowKit Go.Deep

/-- The blocks behind the results' and the cursor's that are there, the two boxes left out. -/
abbrev S2 (Z A B : Nat) (w : World) : Nat → Prop := fun b => Z + 3 ≤ b ∧ b < w.heap.size ∧ b ≠ A ∧ b ≠ B

/-- Box C holds a term. -/
structure Held (Z A B C : Nat) (w : World) (n : Nat) (t : Tm n) (k m : Int) (s : ByteArray) (a : Option Addr) (l c : Nat) : Prop where
  box : w.heap[C]? = some (.cells #[.int .i64 k, .int .i64 m, .string s, .slice a l c] 26 (0, 0))
  tat : TAt (S2 Z A B w) w n t (.int .i64 k) (.int .i64 m) (.string s) (.slice a l c)
  few : l ≤ 5000
theorem Held.keep {Z A B C n : Nat} {w w' : World} {t : Tm n} {k m : Int} {s : ByteArray} {a : Option Addr} {l c : Nat} (h : Held Z A B C w n t k m s a l c) (hb : w'.heap[C]? = w.heap[C]?) (hk : ∀ b, S2 Z A B w b → w'.heap[b]? = w.heap[b]?) (hs : w.heap.size ≤ w'.heap.size) :
    Held Z A B C w' n t k m s a l c :=
  ⟨hb.trans h.box, (h.tat.keep hk).mono fun _ hb => ⟨hb.1, Nat.lt_of_lt_of_le hb.2.1 hs, hb.2.2⟩, h.few⟩
theorem Held.cells {Z A B C n : Nat} {w : World} {t : Tm n} {k m : Int} {s : ByteArray} {a : Option Addr} {l c : Nat} (h : Held Z A B C w n t k m s a l c) :
    (w.cell? ⟨C, 0, none⟩ = some (.int .i64 k) ∧ w.cell? ⟨C, 1, none⟩ = some (.int .i64 m) ∧ w.cell? ⟨C, 2, none⟩ = some (.string s) ∧ w.cell? ⟨C, 3, none⟩ = some (.slice a l c)) ∧
    (w.frozen? ⟨C, 0, none⟩ = false ∧ w.frozen? ⟨C, 1, none⟩ = false ∧ w.frozen? ⟨C, 2, none⟩ = false ∧ w.frozen? ⟨C, 3, none⟩ = false) :=
  ⟨⟨cell_of_heap h.box 0, cell_of_heap h.box 1, cell_of_heap h.box 2, cell_of_heap h.box 3⟩, ⟨frozen_of_heap h.box 0, frozen_of_heap h.box 1, frozen_of_heap h.box 2, frozen_of_heap h.box 3⟩⟩

/-- Under way: the cursor, what was there, the results' cells, the boxes' places. -/
structure Two (g L : Nat) (v : Value) (M Z A B : Nat) (w w' : World) : Prop where
  cur : Cur g L v M w'
  below : Below Z w w'
  r2 : Res4 Z w'
  r3 : Res4 (Z + 1) w'
  hg : g = Z + 2
  hA : Z + 3 ≤ A
  hAB : A < B
  hB : B < w'.heap.size
theorem Two.go {g L M M' Z A B : Nat} {v : Value} {w w1 w2 : World} (h : Two g L v M Z A B w w1) (hk : Kept g w1 w2) (hc : Cur g L v M' w2) : Two g L v M' Z A B w w2 := by
  have hg := h.hg; have hA := h.hA; have hAB := h.hAB; have hB := h.hB
  exact ⟨hc, h.below.trans ⟨hk.os, hk.tape, hk.output, hk.size, fun k hk' => hk.block k (by omega) (by omega)⟩, h.r2.keep (hk.block _ (by omega) (by omega)), h.r3.keep (hk.block _ (by omega) (by omega)), hg, hA, hAB, Nat.lt_of_lt_of_le hB hk.size⟩
/-- What writes only from the boxes on. -/
theorem Two.up {g L M Z A B : Nat} {v : Value} {w w1 w2 : World} (h : Two g L v M Z A B w w1) (hb : Below (Z + 3) w1 w2) : Two g L v M Z A B w w2 := by
  have hg := h.hg; have hA := h.hA; have hAB := h.hAB; have hB := h.hB
  exact ⟨h.cur.low fun b hb' => hb.block b (by omega), h.below.trans (hb.mono (by omega)), h.r2.keep (hb.block _ (by omega)), h.r3.keep (hb.block _ (by omega)), hg, hA, hAB, Nat.lt_of_lt_of_le hB hb.size⟩
theorem Held.go {g L M Z A B C n : Nat} {v : Value} {w w1 w2 : World} {t : Tm n} {k m : Int} {s : ByteArray} {a : Option Addr} {l c : Nat} (h : Held Z A B C w1 n t k m s a l c) (hT : Two g L v M Z A B w w1) (hC : C = A ∨ C = B) (hk : Kept g w1 w2) : Held Z A B C w2 n t k m s a l c := by
  have hg := hT.hg; have hA := hT.hA; have hAB := hT.hAB; have hB := hT.hB
  exact h.keep (hk.block C (by omega) (by omega)) (fun b hb => hk.block b hb.2.1 (by have := hb.1; omega)) hk.size
/-- Box B written whole with what box A holds. -/
theorem Held.copy {Z A B n : Nat} {w : World} {t : Tm n} {k m : Int} {s : ByteArray} {a : Option Addr} {l c : Nat} {b0 b1 b2 b3 : Value} (h : Held Z A B A w n t k m s a l c) (hAB : A < B) (hZ : Z + 3 ≤ A) (hB : w.heap[B]? = some (.cells #[b0, b1, b2, b3] 26 (0, 0))) :
    Held Z A B A (put4 w B (.int .i64 k) (.int .i64 m) (.string s) (.slice a l c)) n t k m s a l c ∧ Held Z A B B (put4 w B (.int .i64 k) (.int .i64 m) (.string s) (.slice a l c)) n t k m s a l c ∧ Below (Z + 3) w (put4 w B (.int .i64 k) (.int .i64 m) (.string s) (.slice a l c)) := by
  have hp := put4_kept w B (.int .i64 k) (.int .i64 m) (.string s) (.slice a l c)
  have hz := put4_size w B (.int .i64 k) (.int .i64 m) (.string s) (.slice a l c)
  have hlt : A < w.heap.size := by
    have hb := h.box
    rcases Nat.lt_or_ge A w.heap.size with h1 | h1
    · exact h1
    · rw [Array.getElem?_eq_none h1] at hb; cases hb
  have hA := h.keep (w' := put4 w B (.int .i64 k) (.int .i64 m) (.string s) (.slice a l c)) (hp.block A hlt (by omega)) (fun b hb => hp.block b hb.2.1 hb.2.2.2) hp.size
  exact ⟨hA, ⟨put4_box hB, hA.tat, hA.few⟩, ⟨hp.os, hp.tape, hp.output, hp.size, fun k hk => by
    rcases Nat.lt_or_ge k w.heap.size with h1 | h1
    · exact hp.block k h1 (by omega)
    · rw [Array.getElem?_eq_none h1, Array.getElem?_eq_none (by omega)]⟩⟩

theorem two_pick {g L M Z A B : Nat} {v : Value} {w w1 : World} (h : Two g L v M Z A B w w1) (n : Int) (hM : M ≤ 1000000000000) (hn0 : -1000000 ≤ n) (hn : n ≤ 1000000000) :
    Calls Try.prog 27 #[.pointer (some ⟨g, 0, none⟩), .int .i64 n] w1 fun e w' => (∃ r : Nat, e = .returned (.int .i64 r) ∧ ((r : Int) < n ∨ (r = 0 ∧ n ≤ 1))) ∧ Two g L v (M + 2) Z A B w w' ∧ Kept g w1 w' :=
  (dpick_any g L M v n w1 h.cur hM hn0 hn).mono fun _ _ ⟨h1, h2, h3⟩ => ⟨h1, h.go h3 h2, h3⟩
/-- Both boxes hold terms. -/
def Pair (g L : Nat) (v : Value) (M Z A B : Nat) (w : World) {n : Nat} (t : Tm n) (k m : Int) (s : ByteArray) (a : Option Addr) (l c : Nat) (wc : World) : Prop :=
  Two g L v M Z A B w wc ∧ Held Z A B A wc n t k m s a l c ∧ ∃ (n2 : Nat) (u : Tm n2) (k2 m2 : Int) (s2 : ByteArray) (a2 : Option Addr) (l2 c2 : Nat), Held Z A B B wc n2 u k2 m2 s2 a2 l2 c2
theorem Pair.go {g L M M' Z A B n : Nat} {v : Value} {w w1 w2 : World} {t : Tm n} {k m : Int} {s : ByteArray} {a : Option Addr} {l c : Nat} (h : Pair g L v M Z A B w t k m s a l c w1) (hk : Kept g w1 w2) (hT : Two g L v M' Z A B w w2) : Pair g L v M' Z A B w t k m s a l c w2 := by
  obtain ⟨h1, h2, n2, u, k2, m2, s2, a2, l2, c2, h3⟩ := h
  exact ⟨hT, h2.go h1 (.inl rfl) hk, n2, u, k2, m2, s2, a2, l2, c2, h3.go h1 (.inr rfl) hk⟩
theorem Pair.copy {g L M Z A B n : Nat} {v : Value} {w w1 : World} {t : Tm n} {k m : Int} {s : ByteArray} {a : Option Addr} {l c : Nat} (h : Pair g L v M Z A B w t k m s a l c w1) :
    Pair g L v M Z A B w t k m s a l c (put4 w1 B (.int .i64 k) (.int .i64 m) (.string s) (.slice a l c)) ∧ Held Z A B B (put4 w1 B (.int .i64 k) (.int .i64 m) (.string s) (.slice a l c)) n t k m s a l c := by
  obtain ⟨h1, h2, n2, u, k2, m2, s2, a2, l2, c2, h3⟩ := h
  obtain ⟨g1, g2, g3⟩ := h2.copy h1.hAB h1.hA h3.box
  exact ⟨⟨h1.up g3, g1, n, t, k, m, s, a, l, c, g2⟩, g2⟩

theorem TAt.kids {S : Nat → Prop} {w : World} : ∀ {n : Nat} {t : Tm n} {k m : Int} {s : ByteArray} {a : Option Addr} {l c : Nat}, TAt S w n t (.int .i64 k) (.int .i64 m) (.string s) (.slice a l c) → In64 k ∧ In64 m ∧ s.size ≤ 2 ^ 47 ∧ ∃ n' : Nat, ∃ ks : List (Tm n'), ks.length = l ∧ SAt S w (TAt S w n') ks (.slice a l c)
  | 0, t, _, _, _, _, _, _, _ => t.elim
  | n + 1, (_, _, _, ks), _, _, _, _, _, _, ⟨h0, h1, h2, h3, h4, h5, h6⟩ => by
    simp at h0 h1 h2
    subst h0 h1 h2
    refine ⟨h3, h4, h5, n, ks, ?_, h6⟩
    obtain ⟨_, _, h, _⟩ := h6
    simp at h
    exact h.2.1.symm

/-- The cells of a slice of terms. -/
theorem sat_cells {S : Nat → Prop} {w : World} {n l c : Nat} {ks : List (Tm n)} {a : Option Addr} (h : SAt S w (TAt S w n) ks (.slice a l c)) (hl : ks.length = l) (h0 : 0 < l) :
    ∃ b off, ∃ xs : List Value, a = some ⟨b, off, none⟩ ∧ S b ∧ CellsAt S w ks xs ∧ (∀ j u, xs[j]? = some u → w.cell? ⟨b, off + j, none⟩ = some u) ∧ ∀ u ∈ xs, u.oneCell' = true := by
  obtain ⟨a', cap, hv, h1, h2, hel⟩ := h
  simp at hv
  obtain ⟨rfl, _, rfl⟩ := hv
  obtain ⟨b, off, _, _, _, _, rfl, hS, _⟩ := hel 0 (by omega)
  obtain ⟨xs, hxs⟩ : ∃ xs, xs = (List.range (ks.length * 4)).map fun j => (w.cell? ⟨b, off + j, none⟩).getD undef := ⟨_, rfl⟩
  have hget : ∀ j, j < ks.length * 4 → xs[j]? = some ((w.cell? ⟨b, off + j, none⟩).getD undef) := fun j hj => by rw [hxs, List.getElem?_map, List.getElem?_range hj]; rfl
  have hlen : xs.length = ks.length * 4 := by rw [hxs]; simp
  have hcell : ∀ i (hi : i < ks.length), ∃ d0 d1 d2 d3, w.cell? ⟨b, off + (i * 4), none⟩ = some d0 ∧ w.cell? ⟨b, off + (i * 4 + 1), none⟩ = some d1 ∧ w.cell? ⟨b, off + (i * 4 + 2), none⟩ = some d2 ∧ w.cell? ⟨b, off + (i * 4 + 3), none⟩ = some d3 ∧ TAt S w n ks[i] d0 d1 d2 d3 := fun i hi => by
    obtain ⟨b', off', d0, d1, d2, d3, he, _, e0, e1, e2, e3, ht⟩ := hel i hi
    simp at he
    obtain ⟨rfl, rfl⟩ := he
    exact ⟨d0, d1, d2, d3, e0, e1, e2, e3, ht⟩
  have hany : ∀ j, j < ks.length * 4 → ∃ u, w.cell? ⟨b, off + j, none⟩ = some u ∧ u.oneCell' = true := fun j hj => by
    obtain ⟨d0, d1, d2, d3, e0, e1, e2, e3, ht⟩ := hcell (j / 4) (by omega)
    have h1c := shape_one ht
    rcases (show j = j / 4 * 4 ∨ j = j / 4 * 4 + 1 ∨ j = j / 4 * 4 + 2 ∨ j = j / 4 * 4 + 3 by omega) with e | e | e | e
    · exact ⟨d0, by rw [e]; exact e0, h1c _ (by simp)⟩
    · exact ⟨d1, by rw [e]; exact e1, h1c _ (by simp)⟩
    · exact ⟨d2, by rw [e]; exact e2, h1c _ (by simp)⟩
    · exact ⟨d3, by rw [e]; exact e3, h1c _ (by simp)⟩
  have hat : ∀ j u, xs[j]? = some u → w.cell? ⟨b, off + j, none⟩ = some u ∧ u.oneCell' = true := fun j u hu => by
    have hj : j < ks.length * 4 := by rw [← hlen]; exact (List.getElem?_eq_some_iff.1 hu).1
    obtain ⟨u', e, h1⟩ := hany j hj
    rw [hget j hj, e] at hu
    simp at hu
    subst hu
    exact ⟨e, h1⟩
  refine ⟨b, off, xs, rfl, hS, ⟨hlen, fun i hi => ?_⟩, fun j u hu => (hat j u hu).1, fun u hu => ?_⟩
  · obtain ⟨d0, d1, d2, d3, e0, e1, e2, e3, ht⟩ := hcell i hi
    exact ⟨d0, d1, d2, d3, by rw [hget _ (by omega), e0]; rfl, by rw [hget _ (by omega), e1]; rfl, by rw [hget _ (by omega), e2]; rfl, by rw [hget _ (by omega), e3]; rfl, ht⟩
  · obtain ⟨j, hj, e⟩ := List.mem_iff_getElem.1 hu
    exact (hat j u (by rw [List.getElem?_eq_getElem hj, e])).2

theorem set4_ne {B N : Nat} {e : TypeId} {w : World} (h : Row B e N w) {o o' : Nat} (ho : o' < o ∨ o + 3 < o') (d0 d1 d2 d3 : Value) : (set4 w B o d0 d1 d2 d3).cell? ⟨B, o', none⟩ = w.cell? ⟨B, o', none⟩ := by
  have r1 := h.set o d0
  have r2 := r1.set (o + 1) d1
  have r3 := r2.set (o + 2) d2
  unfold set4
  rw [r3.set_ne (by omega), r2.set_ne (by omega), r1.set_ne (by omega), h.set_ne (by omega)]

/-- The first term's kids copied into a new row. -/
theorem pair_row {g L M Z A B n : Nat} {v : Value} {w w1 wz : World} {t : Tm n} {k m : Int} {s : ByteArray} {a : Option Addr} {l c : Nat} (hT : Two g L v M Z A B w w1) (h : Held Z A B A w1 n t k m s a l c) (h0 : 0 < l)
    (hz : wz.heap = (w1.alloc (.cells #[] 26)).heap ∧ wz.os = w1.os ∧ wz.tape = w1.tape ∧ wz.output = w1.output) (ty : TypeId) :
    ∃ R cap w2 n', ∃ ks : List (Tm n'), ∃ xs, (Builtin.append_ #[24, 24] ty #[.slice (some ⟨w1.heap.size, 0, none⟩) 0 0, .slice a l c]).run Try.prog wz = .ok (.slice (some ⟨R, 0, none⟩) l cap) w2 ∧
      w1.heap.size ≤ R ∧ Row R 26 (cap * 4) w2 ∧ l ≤ cap ∧ (∀ j, j < l * 4 → w2.cell? ⟨R, j, none⟩ = xs[j]?) ∧ CellsAt (S2 Z A B w1) w2 ks xs ∧ ks.length = l ∧ Below w1.heap.size w1 w2 ∧ In64 k ∧ In64 m ∧ s.size ≤ 2 ^ 47 := by
  obtain ⟨hk, hm, hs, n', ks, hl, hsat⟩ := h.tat.kids
  obtain ⟨b, off, xs, rfl, hSb, hcs, hcell, hone⟩ := sat_cells hsat hl h0
  have hbz : Below w1.heap.size w1 wz := ⟨hz.2.1, hz.2.2.1, hz.2.2.2, by rw [hz.1]; simp, fun k hk => by rw [hz.1]; exact Below.heap_alloc _ _ _ hk⟩
  have hB := hT.hB; have hA := hT.hA; have hAB := hT.hAB
  have hown1 := World.ownsRow_lit (base := Z + 3) (e := 26) (size := 4) w1 #[] 0 (by omega) (by unfold maxLen; omega) (by simp)
  have hown : wz.ownsRow (Z + 3) 26 4 (.slice (some ⟨w1.heap.size, 0, none⟩) 0 0) 0 [] := by
    refine ⟨hown1.1, ?_⟩
    rcases hown1.2 with h3 | ⟨R, cap, cur, e, h4, h5, h6⟩
    · exact .inl h3
    · exact .inr ⟨R, cap, cur, e, h4, by rw [hz.1]; exact h5, h6⟩
  have hf := h.few
  have hsz : wz.heap.size = w1.heap.size + 1 := by rw [hz.1]; simp
  obtain ⟨R, cap, w2, hr, ho, hg, hR⟩ := run_append_terms (Z + 3) _ 0 [] wz hown (by omega) ⟨b, off, none⟩ l c xs (by rw [hcs.1, hl]) ⟨h0, by omega⟩
    (fun j u hu => by rw [Go.WideShapes.add_plain, World.cell?_of_block (w := w1) (hbz.block b hSb.2.1)]; exact hcell j u hu) hone (by omega) ty
  rw [Nat.zero_add] at hr ho
  rw [List.nil_append] at ho
  have hRl : w1.heap.size ≤ R := by
    rcases hR with hR | hR
    · simp [Value.ownBlock] at hR; omega
    · omega
  have hb2 : Below w1.heap.size w1 w2 := hbz.grown hg (by omega) fun k hk => by simp [Value.ownBlock] at hk; omega
  have hrow : Row R 26 (cap * 4) w2 ∧ l ≤ cap := by
    rcases ho.2 with ⟨e, _⟩ | ⟨g', cap', cur, e, _, h4, h5, _, h6, _⟩
    · simp at e
    · simp at e
      obtain ⟨rfl, rfl⟩ := e
      exact ⟨⟨cur, h4, h6⟩, h5⟩
  exact ⟨R, cap, w2, n', ks, xs, hr, hRl, hrow.1, hrow.2, fun j hj => ho.cellAt j hj, hcs.keep (fun b hb => hb2.block b hb.2.1) fun b hb => hb, hl, hb2, hk, hm, hs⟩

/-- One of the copied kids drawn anew. -/
theorem pair_changed {g L M Z A B n n' R cap i S3 : Nat} {v : Value} {w w1 w2 w4 : World} {t : Tm n} {k m : Int} {s : ByteArray} {a : Option Addr} {l c : Nat} {ks : List (Tm n')} {xs : List Value} {t' : Tm 2} {d0 d1 d2 d3 : Value} (hT : Two g L v M Z A B w w4) (hA : Held Z A B A w1 n t k m s a l c) (hB1 : B < w1.heap.size)
    (hR : w1.heap.size ≤ R) (hrow : Row R 26 (cap * 4) w2) (hcap : l ≤ cap) (hcs : ∀ j, j < l * 4 → w2.cell? ⟨R, j, none⟩ = xs[j]?) (hc : CellsAt (S2 Z A B w1) w2 ks xs) (hl : ks.length = l) (hb : Below w1.heap.size w1 w2)
    (hk : ∀ b, b < w2.heap.size → b ≠ g → b ≠ B → w4.heap[b]? = w2.heap[b]?) (hsz : w2.heap.size ≤ S3) (hS4 : S3 ≤ w4.heap.size) (hbx : w4.heap[B]? = some (.cells #[.int .i64 k, .int .i64 m, .string s, .slice (some ⟨R, 0, none⟩) l cap] 26 (0, 0))) (hi : i < l)
    (ht : TAt (From S3 w4) w4 2 t' d0 d1 d2 d3) (h1 : In64 k) (h2 : In64 m) (h3 : s.size ≤ 2 ^ 47) :
    Pair g L v M Z A B w t k m s a l c (set4 w4 R (i * 4) d0 d1 d2 d3) ∧ ∃ N, ∃ u : Tm N, Held Z A B B (set4 w4 R (i * 4) d0 d1 d2 d3) N u k m s (some ⟨R, 0, none⟩) l cap := by
  have hg := hT.hg; have hA3 := hT.hA; have hAB := hT.hAB
  have hRlt := hrow.lt
  have hrow4 := hrow.keep (hk R hRlt (by omega) (by omega))
  have f := set4_facts hrow4 (o := i * 4) (by omega) d0 d1 d2 d3
  obtain ⟨g1, g2, g3, g4, g5, _, g7, g8⟩ := f
  have hne := fun o' (ho : o' < i * 4 ∨ i * 4 + 3 < o') => set4_ne hrow4 ho d0 d1 d2 d3
  obtain ⟨w5, hw5⟩ : ∃ w5, w5 = set4 w4 R (i * 4) d0 d1 d2 d3 := ⟨_, rfl⟩
  rw [← hw5] at g1 g2 g3 g4 g5 g7 g8 hne ⊢
  have hs5 := g7.size
  have hsame : ∀ b, b < w2.heap.size → b ≠ g → b ≠ B → b ≠ R → w5.heap[b]? = w2.heap[b]? := fun b hb1 hb2 hb3 hb4 => (g8 b hb4).trans (hk b hb1 hb2 hb3)
  have hb2s := hb.size
  have hAlt : A < w1.heap.size := by omega
  have hA5 : Held Z A B A w5 n t k m s a l c := hA.keep ((hsame A (by omega) (by omega) (by omega) (by omega)).trans (hb.block A hAlt)) (fun b hb' => (hsame b (by have := hb'.2.1; omega) (by have := hb'.1; omega) hb'.2.2.2 (by have := hb'.2.1; omega)).trans (hb.block b hb'.2.1)) (by omega)
  have hf := hA.few
  obtain ⟨ls, hll, hls⟩ := hc.deepTo (Nat.le_max_left n' 2)
  obtain ⟨t2, ht2⟩ := ht.deepTo (Nat.le_max_right n' 2)
  have hS : ∀ b, S2 Z A B w1 b → S2 Z A B w5 b := fun b hb' => ⟨hb'.1, by have := hb'.2.1; omega, hb'.2.2⟩
  have hnew : TAt (S2 Z A B w5) w5 (max n' 2) t2 d0 d1 d2 d3 := (ht2.keep fun b hb' => g8 b (by have := hb'.1; omega)).mono fun b hb' => ⟨by have := hb'.1; omega, by have := hb'.2; omega, by have := hb'.1; omega, by have := hb'.1; omega⟩
  have hold : CellsAt (S2 Z A B w5) w5 ls xs := hls.keep (fun b hb' => hsame b (by have := hb'.2.1; omega) (by have := hb'.1; omega) hb'.2.2.2 (by have := hb'.2.1; omega)) hS
  have hcells : ∀ o', o' < l * 4 → (o' < i * 4 ∨ i * 4 + 3 < o') → w5.cell? ⟨R, o', none⟩ = xs[o']? := fun o' h1 h2 => by
    rw [hne o' h2, World.cell?_of_block (w := w2) (hk R hRlt (by omega) (by omega)), hcs o' h1]
  have hB5 : Held Z A B B w5 (max n' 2 + 1) (k, m, s, ls.set i t2) k m s (some ⟨R, 0, none⟩) l cap := by
    refine ⟨(g8 B (by omega)).trans hbx, ⟨rfl, rfl, rfl, h1, h2, h3, ⟨some ⟨R, 0, none⟩, cap, by rw [List.length_set, hll, hl], by rw [List.length_set, hll, hl]; exact hcap, by rw [List.length_set, hll, hl]; omega, fun j hj => ?_⟩⟩, hf⟩
    rw [List.length_set, hll, hl] at hj
    have hSR : S2 Z A B w5 R := ⟨by omega, by omega, by omega, by omega⟩
    by_cases hji : j = i
    · subst hji
      refine ⟨R, 0, d0, d1, d2, d3, rfl, hSR, by rw [Nat.zero_add]; exact g2, by rw [Nat.zero_add]; exact g3, by rw [Nat.zero_add]; exact g4, by rw [Nat.zero_add]; exact g5, ?_⟩
      rw [List.getElem_set_self]; exact hnew
    · obtain ⟨e0, e1, e2, e3, q0, q1, q2, q3, hte⟩ := hold.2 j (by omega)
      refine ⟨R, 0, e0, e1, e2, e3, rfl, hSR, ?_, ?_, ?_, ?_, ?_⟩
      · rw [Nat.zero_add, hcells _ (by omega) (by omega)]; exact q0
      · rw [Nat.zero_add, hcells _ (by omega) (by omega)]; exact q1
      · rw [Nat.zero_add, hcells _ (by omega) (by omega)]; exact q2
      · rw [Nat.zero_add, hcells _ (by omega) (by omega)]; exact q3
      · rw [List.getElem_set_ne (by omega)]; exact hte
  exact ⟨⟨hT.up (g7.mono (by omega)), hA5, _, _, _, _, _, _, _, _, hB5⟩, _, _, hB5⟩

def CmpEnd (w : World) (e : Ending) (w' : World) : Prop :=
  ∃ (n : Nat) (t : Tm n) (m : Nat) (u : Tm m) (c0 c1 c2 c3 d0 d1 d2 d3 : Value), e = .returned (.tuple #[.agg #[c0, c1, c2, c3], .agg #[d0, d1, d2, d3]]) ∧
    TAt (From w.heap.size w') w' n t c0 c1 c2 c3 ∧ TAt (From w.heap.size w') w' m u d0 d1 d2 d3 ∧ Below w.heap.size w w'

/-- Only the results' blocks were written. -/
def Off2 (Z : Nat) (w w' : World) : Prop := w'.os = w.os ∧ w'.tape = w.tape ∧ w'.output = w.output ∧ w'.heap.size = w.heap.size ∧ ∀ b, b ≠ Z → b ≠ Z + 1 → w'.heap[b]? = w.heap[b]?
theorem Off2.refl (Z : Nat) (w : World) : Off2 Z w w := ⟨rfl, rfl, rfl, rfl, fun _ _ _ => rfl⟩
theorem Off2.drew {Z : Nat} {a w : World} (h : Off2 Z a w) : Off2 Z a w.drew := h
theorem put4_ne (w : World) (B : Nat) (d0 d1 d2 d3 : Value) {b : Nat} (h : b ≠ B) : (put4 w B d0 d1 d2 d3).heap[b]? = w.heap[b]? := by
  unfold put4
  rw [Below.heap_setCell _ _ _ _ h, Below.heap_setCell _ _ _ _ h, Below.heap_setCell _ _ _ _ h, Below.heap_setCell _ _ _ _ h]
theorem Off2.put {Z : Nat} {a w : World} (h : Off2 Z a w) (d0 d1 d2 d3 : Value) : Off2 Z a (put4 w Z d0 d1 d2 d3) := by
  obtain ⟨h1, h2, h3, h4, h5⟩ := h
  exact ⟨h1, h2, h3, (put4_size _ _ _ _ _ _).trans h4, fun b e1 e2 => (put4_ne _ _ _ _ _ _ e1).trans (h5 b e1 e2)⟩
theorem Off2.next {Z : Nat} {a w : World} (h : Off2 Z a w) (d0 d1 d2 d3 : Value) : Off2 Z a (put4 w (Z + 1) d0 d1 d2 d3) := by
  obtain ⟨h1, h2, h3, h4, h5⟩ := h
  exact ⟨h1, h2, h3, (put4_size _ _ _ _ _ _).trans h4, fun b e1 e2 => (put4_ne _ _ _ _ _ _ e2).trans (h5 b e1 e2)⟩
theorem cmp_end {g L M Z A B n n2 : Nat} {v : Value} {w w1 w' : World} {t : Tm n} {k m : Int} {s : ByteArray} {a : Option Addr} {l c : Nat} {u : Tm n2} {k2 m2 : Int} {s2 : ByteArray} {a2 : Option Addr} {l2 c2 : Nat} (hZ : Z = w.heap.size) (hT : Two g L v M Z A B w w1)
    (hA : Held Z A B A w1 n t k m s a l c) (hB : Held Z A B B w1 n2 u k2 m2 s2 a2 l2 c2) (h : Off2 Z w1 w') : CmpEnd w (.returned (.tuple #[.agg #[.int .i64 k, .int .i64 m, .string s, .slice a l c], .agg #[.int .i64 k2, .int .i64 m2, .string s2, .slice a2 l2 c2]])) w' := by
  obtain ⟨h1, h2, h3, h4, h5⟩ := h
  have hS : ∀ b, S2 Z A B w1 b → w'.heap[b]? = w1.heap[b]? := fun b hb => h5 b (by have := hb.1; omega) (by have := hb.1; omega)
  have hS2 : ∀ b, S2 Z A B w1 b → From w.heap.size w' b := fun b hb => ⟨by have := hb.1; omega, by have := hb.2.1; omega⟩
  exact ⟨n, t, n2, u, _, _, _, _, _, _, _, _, rfl, (hA.tat.keep hS).mono hS2, (hB.tat.keep hS).mono hS2, by rw [← hZ]; exact hT.below.trans ⟨h1, h2, h3, by omega, fun b hb => h5 b (by omega) (by omega)⟩⟩

set_option maxRecDepth 100000 in
set_option maxHeartbeats 1000000 in
theorem dcmp_any (L : Nat) (v : Value) (w : World) (hc : CodeAt w.heap.size L v w) : Calls Try.prog 9 #[v] w fun e w' => CmpEnd w e w' := by
  obtain ⟨w0, hw0⟩ : ∃ w0, w0 = (w.alloc (.cells #[.int .i64 0, .int .i64 0, .string ⟨#[]⟩, .slice none 0 0] 26)).alloc (.cells #[.int .i64 0, .int .i64 0, .string ⟨#[]⟩, .slice none 0 0] 26) := ⟨_, rfl⟩
  have hs0 : w0.heap.size = w.heap.size + 2 := by rw [hw0]; simp
  have hb0 : Below w.heap.size w w0 := by rw [hw0]; exact ((Below.refl w.heap.size w).alloc (Nat.le_refl _) _).alloc (by simp) _
  have hr2 : Res4 w.heap.size w0 := by rw [hw0]; exact ⟨_, _, _, _, (Below.heap_alloc _ _ _ (by simp)).trans (heap_new w _)⟩
  have hr3 : Res4 (w.heap.size + 1) w0 := by
    rw [hw0]
    have := heap_new (w.alloc (.cells #[.int .i64 0, .int .i64 0, .string ⟨#[]⟩, .slice none 0 0] 26)) (.cells #[.int .i64 0, .int .i64 0, .string ⟨#[]⟩, .slice none 0 0] 26)
    exact ⟨_, _, _, _, by simpa using this⟩
  have hc0 : CodeAt w0.heap.size L v w0 := by
    obtain ⟨a, cap, h1, h2, h3, h4, h5⟩ := hc.low (w' := w0) fun b hb => hb0.block b hb
    exact ⟨a, cap, h1, h2, h3, h4, fun i hi => by obtain ⟨b, off, x, g1, g2, g3⟩ := h5 i hi; exact ⟨b, off, x, g1, by omega, g3⟩⟩
  have HW0 := hide hw0
  have HB0 := hide hb0
  have HR2 := hide hr2
  have HR3 := hide hr3
  have hd := hide (dcur_any L v w0 hc0)
  clear hc hc0 hb0 hr2 hr3
  go_enter Try.func9, Try.ntmps9
  go_wp2_with fail
  rw [← unhide HW0]
  clear hw0
  refine (unhide hd).mono ?_
  rintro e w1 ⟨rfl, hc1, hk1⟩
  obtain ⟨Z, hZ⟩ : ∃ Z, Z = w.heap.size := ⟨_, rfl⟩
  obtain ⟨g, hg⟩ : ∃ g, g = w0.heap.size := ⟨_, rfl⟩
  rw [← hg] at hc1 hk1 ⊢
  rw [← hZ] at HB0 HR2 HR3 hs0 ⊢
  have HC1 := hide hc1
  have HK1 := hide hk1
  have HZ := hide hZ
  have HG := hide hg
  have HS0 := hide hs0
  clear hc1 hk1 hd hZ hg hs0
  go_wp2_with fail
  refine (any_any g L v 0 w1 (unhide HC1) (by omega)).mono ?_
  rintro e w2 ⟨n, t, k, m, s, a, l, c, rfl, ht, hl, hc2', hk2⟩
  obtain ⟨M2, hM2, hc2⟩ : ∃ M2, M2 ≤ 200000 ∧ Cur g L v M2 w2 := ⟨_, by unfold anyCost; omega, hc2'⟩
  clear hc2'
  have HT2 := hide ht
  have HL := hide hl
  have HC2 := hide hc2
  have HK2 := hide hk2
  clear ht hl hc2 hk2
  go_wp2_with fail
  refine (dsize_any g L M2 v _ ((unhide HC2).alloc _) (by omega)).mono ?_
  rintro e w4 ⟨⟨r, rfl, hr⟩, hc4, hk4⟩
  have hcr := cost_five (r + 1) (by omega)
  have HC4 := hide hc4
  have HK4 := hide hk4
  have HCR := hide hcr
  clear hc4 hk4 hcr
  go_wp2_with fail
  refine (draw_any (r + 1) (1 + (r : Int)) g L v _ w4 (by omega) (unhide HC4) (by have := unhide HCR; omega)).mono ?_
  rintro e w5 ⟨k2, m2, s2, ks2, c32, xs2, rfl, i1, i2, i3, hX, hlk, hc5', hk5⟩
  obtain ⟨M5, hM5, hc5⟩ : ∃ M5, M5 ≤ 400000 ∧ Cur g L v M5 w5 := ⟨_, by have := unhide HCR; omega, hc5'⟩
  clear hc5'

  have hsat := hX.sat (by omega)
  obtain ⟨a2, c2, rfl, _⟩ := id hsat
  obtain ⟨A, hAe⟩ : ∃ A, A = w2.heap.size := ⟨_, rfl⟩
  obtain ⟨B, hBe⟩ : ∃ B, B = w5.heap.size := ⟨_, rfl⟩
  obtain ⟨w6, hw6⟩ : ∃ w6, w6 = w5.alloc (.cells #[.int .i64 k2, .int .i64 m2, .string s2, .slice a2 ks2.length c2] 26) := ⟨_, rfl⟩
  have hZ := unhide HZ
  have hg := unhide HG
  have hs0 := unhide HS0
  have hgz : g = Z + 2 := by omega
  have hlt1 : g < w1.heap.size := (unhide HC1).lt
  have hk25 : Kept g w2 w5 := (((Kept.refl g w2).alloc _).trans (unhide HK4)).trans hk5
  have hk26 : Kept g w2 w6 := by rw [hw6]; exact hk25.alloc _
  have hk06 : Kept g w0 w6 := ((unhide HK1).trans (unhide HK2)).trans hk26
  have hA3 : w2.heap.size + 1 ≤ w4.heap.size := by have := (unhide HK4).size; simpa using this
  have hsz2 := (unhide HK2).size
  have hsz5 := hk5.size
  have hsz6 : w6.heap.size = w5.heap.size + 1 := by rw [hw6]; simp
  have hTwo : Two g L v M5 Z A B w w6 :=
    ⟨by rw [hw6]; exact hc5.alloc _, (unhide HB0).trans (hk06.toBelow (by omega) (by omega)), (unhide HR2).keep (hk06.block _ (by omega) (by omega)), (unhide HR3).keep (hk06.block _ (by omega) (by omega)), hgz, by omega, by omega, by omega⟩
  have hHA : Held Z A B A w6 n t k m s a l c := by
    refine ⟨?_, ((unhide HT2).keep (fun b hb => hk26.block b hb.2 (by have := hb.1; omega))).mono fun b hb => ⟨by have := hb.1; omega, by have := hb.2; omega, by have := hb.2; omega, by have := hb.2; omega⟩, unhide HL⟩
    rw [hw6, hAe, Below.heap_alloc _ _ _ (by omega), hk5.block _ (by omega) (by omega), (unhide HK4).block _ (by simp) (by omega)]
    exact heap_new w2 _
  have hHB : Held Z A B B w6 (r + 1 + 1) (k2, m2, s2, ks2) k2 m2 s2 a2 ks2.length c2 := by
    refine ⟨by rw [hw6, hBe]; exact heap_new w5 _, ?_, by omega⟩
    have hS : ∀ b, (w4.heap.size ≤ b ∧ b < w5.heap.size) → w6.heap[b]? = w5.heap[b]? := fun b hb => by rw [hw6]; exact Below.heap_alloc _ _ _ hb.2
    have hS3 : ∀ b, (w4.heap.size ≤ b ∧ b < w5.heap.size) → S2 Z A B w6 b := fun b hb => ⟨by omega, by omega, by omega, by omega⟩
    exact ⟨rfl, rfl, rfl, i1, i2, i3, (hsat.keep (R' := TAt (fun b => w4.heap.size ≤ b ∧ b < w5.heap.size) w6 (r + 1)) hS fun _ _ _ _ _ _ ht => ht.keep hS).mono hS3 fun _ _ _ _ _ _ ht => ht.mono hS3⟩
  have HP6 := hide (show Pair g L v M5 Z A B w t k m s a l c w6 from ⟨hTwo, hHA, _, _, _, _, _, _, _, _, hHB⟩)
  clear hTwo hHA hHB hsz6 hsz5 hsz2 hA3 hk06 hk26 hk25 hlt1 hX hlk hc5 hk5 hsat i1 i2 i3 hZ hg hs0
  have HGZ := hide hgz
  clear hgz
  go_wp2_with fail
  rw [← hw6, ← hAe, ← hBe]
  clear hw6 hAe hBe
  refine (two_pick (unhide HP6).1 4 (by omega) (by omega) (by omega)).mono ?_
  rintro e w7 ⟨⟨p, rfl, hp⟩, hT7, hk7⟩
  have HP7 := hide ((unhide HP6).go hk7 hT7)
  clear hT7 hk7 hp
  go_upto_if 18 with fail
  go_cut [] (fun wc => Pair g L v (M5 + 2) Z A B w t k m s a l c wc)
  case first =>
    have hAB := (unhide HP7).1.hAB
    have hBA : ¬ A = B := by omega
    have hBA' : ¬ B = A := by omega
    rcases Nat.eq_zero_or_pos p with h0 | h0
    · have h0' : ((p : Int) == 0) = true := by simp [h0]
      obtain ⟨⟨p0, p1, p2, p3⟩, _⟩ := (unhide HP7).2.1.cells
      obtain ⟨n2, u2, k2, m2, s2, a2, l2, c2, hH⟩ := (unhide HP7).2.2
      obtain ⟨⟨r0, r1, r2, r3⟩, ⟨z0, z1, z2, z3⟩⟩ := hH.cells
      clear h0 hH
      go_wp2_with fail
      go_meet
      case rel => exact (unhide HP7).copy.1
    · have h0' : ((p : Int) == 0) = false := by simp; omega
      clear h0
      go_wp2_with fail
      go_meet
      case rel => exact unhide HP7
  case rest =>
    rename World => w8
    have HP8 := hide hcut
    clear hcut
    go_wp2_with fail
    refine (two_pick (unhide HP8).1 4 (by omega) (by omega) (by omega)).mono ?_
    rintro e w9 ⟨⟨p, rfl, hp⟩, hT9, hk9⟩
    have HP9 := hide ((unhide HP8).go hk9 hT9)
    obtain ⟨⟨p0, p1, p2, p3⟩, ⟨f0, f1, f2, f3⟩⟩ := (unhide HP9).2.1.cells
    obtain ⟨n2, u2, k2, m2, s2, a2, l2, c2, hH⟩ := (unhide HP9).2.2
    obtain ⟨⟨r0, r1, r2, r3⟩, ⟨z0, z1, z2, z3⟩⟩ := hH.cells
    obtain ⟨x0, x1, x2, x3, q0, q1, q2, q3, fq0, fq1, fq2, fq3⟩ := res_cells hT9.r2
    obtain ⟨y0, y1, y2, y3, t0, t1, t2, t3, ft0, ft1, ft2, ft3⟩ := res_cells hT9.r3
    have hA3 := hT9.hA
    have hAB := hT9.hAB
    have n1 : ¬ A = B := by omega
    have n2' : ¬ B = A := by omega
    have n3 : ¬ A = Z := by omega
    have n4 : ¬ Z = A := by omega
    have n5 : ¬ A = Z + 1 := by omega
    have n6 : ¬ Z + 1 = A := by omega
    have n7 : ¬ B = Z := by omega
    have n8 : ¬ Z = B := by omega
    have n9 : ¬ B = Z + 1 := by omega
    have n10 : ¬ Z + 1 = B := by omega
    have HH := hide hH
    clear hT9 hk9 hA3 hAB hH hp
    rcases Nat.eq_zero_or_pos p with h0 | h0
    · have h0' : ((p : Int) == 0) = true := by simp [h0]
      clear h0
      rcases Nat.eq_zero_or_pos l with hl0 | hl0
      · have hl0' : ¬ (0 : Int) < (l : Int) := by omega
        clear hl0
        go_wp2_with fail
        go_region
        all_goals
          go_wp2_with fail
          exact bodyPost_ret (v := .tuple #[.agg #[.int .i64 k, .int .i64 m, .string s, .slice a l c], .agg #[.int .i64 k2, .int .i64 m2, .string s2, .slice a2 l2 c2]]) (by simp [results, Try.results9, go_sem, q0, q1, q2, q3, t0, t1, t2, t3]) rfl (cmp_end (unhide HZ) (unhide HP9).1 (unhide HP9).2.1 (unhide HH) (by first | exact (((Off2.refl Z w9).put _ _ _ _).next _ _ _ _).drew | exact (((Off2.refl Z w9).next _ _ _ _).put _ _ _ _).drew))
      · have hcp := (unhide HP9).copy
        obtain ⟨w10, hw10⟩ : ∃ w10, w10 = put4 w9 B (.int .i64 k) (.int .i64 m) (.string s) (.slice a l c) := ⟨_, rfl⟩
        rw [← hw10] at hcp
        have hlpos : (0 : Int) < (l : Int) := by omega
        have HW10 := hide hw10
        have HL0 := hide hl0
        clear hw10 hl0
        go_upto_region 8 with fail
        have hw10 := unhide HW10
        unfold put4 at hw10
        rw [← hw10]
        clear hw10 p0 p1 p2 p3 f0 f1 f2 f3 r0 r1 r2 r3 z0 z1 z2 z3 q0 q1 q2 q3 fq0 fq1 fq2 fq3 t0 t1 t2 t3 ft0 ft1 ft2 ft3
        have hT := hcp.1.1
        obtain ⟨R, cap, w11, n', ks, xs, hr, hRl, hrow, hcap, hcs, hcc, hkl, hb11, g64, m64, s47⟩ := pair_row hT hcp.1.2.1 (unhide HL0) (wz := w10.alloc (.cells #[] 26)) ⟨rfl, rfl, rfl, rfl⟩ 24
        have p3 := hcp.1.2.1.cells.1.2.2.2
        have p4 := (bcell ((Below.refl w10.heap.size w10).alloc (Nat.le_refl _) (.cells #[] 26)) A 3 (by have := hT.hAB; have := hT.hB; omega)).trans p3
        have hBs := hT.hB
        have hbx11 := (hb11.block B hBs).trans hcp.2.box
        have hT11 := hT.up (hb11.mono (by have := hT.hA; have := hT.hAB; omega))
        have hT12 : Two g L v (M5 + 2 + 2) Z A B w (w11.setCell ⟨B, 3, none⟩ (.slice (some ⟨R, 0, none⟩) l cap)).drew := (hT11.up ((Below.refl (Z + 3) w11).setCell (p := ⟨B, 3, none⟩) (by have := hT.hA; have := hT.hAB; show Z + 3 ≤ B; omega) _)).up (Below.refl _ _).drew
        have hbx12 : (w11.setCell ⟨B, 3, none⟩ (.slice (some ⟨R, 0, none⟩) l cap)).drew.heap[B]? = some (.cells #[.int .i64 k, .int .i64 m, .string s, .slice (some ⟨R, 0, none⟩) l cap] 26 (0, 0)) := Row.setHeap hbx11 3 _
        have hs12 : (w11.setCell ⟨B, 3, none⟩ (.slice (some ⟨R, 0, none⟩) l cap)).drew.heap.size = w11.heap.size := by show (w11.setCell _ _).heap.size = _; simp
        have hk12 : ∀ b, b ≠ B → (w11.setCell ⟨B, 3, none⟩ (.slice (some ⟨R, 0, none⟩) l cap)).drew.heap[b]? = w11.heap[b]? := fun b hb => Below.heap_setCell _ _ _ _ hb
        have hfew := hcp.1.2.1.few
        have b0 := cell_of_heap hbx11 0
        have b1 := cell_of_heap hbx11 1
        have b2 := cell_of_heap hbx11 2
        have b3 := cell_of_heap hbx11 3
        have fb := frozen_of_heap hbx11 3
        have e0 := cell_of_heap hbx12 3
        have HR := hide hr
        have HRL := hide hRl
        have HROW := hide hrow
        have HCAP := hide hcap
        have HCS := hide hcs
        have HCC := hide hcc
        have HKL := hide hkl
        have HB11 := hide hb11
        have H64 := hide (show In64 k ∧ In64 m ∧ s.size ≤ 2 ^ 47 from ⟨g64, m64, s47⟩)
        have HCP := hide hcp
        have HBS := hide hBs
        have HT12 := hide hT12
        have HBX12 := hide hbx12
        have HS12 := hide hs12
        have HK12 := hide hk12
        have HF := hide hfew
        clear hcp hT hr hRl hrow hcap hcs hcc hkl hb11 g64 m64 s47 hBs hbx11 hT11 hT12 hbx12 hs12 hk12 hfew
        go_wp2_with (at_builtin; refine Go.Lib.wpList_append_run _ rfl (.tmp 30) (.tmp 32) 24 24 rfl _ _ rfl rfl _ _ (unhide HR) ?_)
        clear b0 b1 b2 b3 fb p3 p4
        go_region_with (first
          | (go_at_call 27; refine (two_pick (unhide HT12) (l : Int) (by omega) (by omega) (by have := unhide HF; omega)).mono ?_; rintro e w13 ⟨⟨x, rfl, hx⟩, hT13, hk13⟩; have hx : (x : Int) < (l : Int) := (by have := unhide HL0; omega); have HT13 := hide hT13; have hbx13 := (hk13.block B (by have := unhide HS12; have := (unhide HB11).size; have := unhide HBS; omega) (by have := hT13.hg; have := hT13.hA; have := hT13.hAB; omega)).trans (unhide HBX12); have e1 := cell_of_heap hbx13 3; have HBX13 := hide hbx13; have HK13 := hide hk13; clear hT13 hk13 hbx13)
          | (go_at_call 25; refine (draw_any 1 1 g L v _ w13 (by rfl) (unhide HT13).cur (by have e : cost 1 = 140 := rfl; omega)).mono ?_; rintro e w14 hde; obtain ⟨t', tk, tm, ts, ta, tl, tc, rfl, ht, hc14, hk14⟩ := hde.opened; have hT14 := (unhide HT13).go hk14 hc14; have hbx14 := (hk14.block B (unhide HT13).hB (by have := hT14.hg; have := hT14.hA; have := hT14.hAB; omega)).trans (unhide HBX13); have e2 := cell_of_heap hbx14 3; have hs12 := unhide HS12; have hs13 := (unhide HK13).size; have hsame : ∀ b, b < w11.heap.size → b ≠ g → b ≠ B → w14.heap[b]? = w11.heap[b]? := (fun b h1 h2 h3 => ((hk14.block b (by omega) h2).trans ((unhide HK13).block b (by omega) h2)).trans (unhide HK12 b h3)); have hrow14 := (unhide HROW).keep (hsame R (unhide HROW).lt (by have := hT14.hg; have := hT14.hA; have := hT14.hAB; have := unhide HRL; have := unhide HBS; omega) (by have := unhide HRL; have := unhide HBS; omega)); have hcap := unhide HCAP; obtain ⟨v0, c0⟩ := hrow14.cell (o := x * 4) (by omega); obtain ⟨v1, c1⟩ := hrow14.cell (o := x * 4 + 1) (by omega); obtain ⟨v2, c2'⟩ := hrow14.cell (o := x * 4 + 2) (by omega); obtain ⟨v3, c3⟩ := hrow14.cell (o := x * 4 + 3) (by omega); have d0 := hrow14.frozen (x * 4); have d1 := hrow14.frozen (x * 4 + 1); have d2 := hrow14.frozen (x * 4 + 2); have d3 := hrow14.frozen (x * 4 + 3); have HT14 := hide hT14; have HBX14 := hide hbx14; have HSAME := hide hsame; have HTT := hide ht; have HSZ := hide (show w11.heap.size ≤ w13.heap.size ∧ w13.heap.size ≤ w14.heap.size from ⟨by omega, hk14.size⟩); clear hde ht hc14 hk14 hT14 hbx14 hsame hrow14 hs12 hs13 hcap))
        all_goals
          obtain ⟨hP15, N15, u15, hH15⟩ := pair_changed (unhide HT14) (unhide HCP).1.2.1 (unhide HBS) (unhide HRL) (unhide HROW) (unhide HCAP) (unhide HCS) (unhide HCC) (unhide HKL) (unhide HB11) (unhide HSAME) (unhide HSZ).1 (unhide HSZ).2 (unhide HBX14) (i := x) (by omega) (unhide HTT) (unhide H64).1 (unhide H64).2.1 (unhide H64).2.2
          obtain ⟨w15, hw15⟩ : ∃ w15, w15 = set4 w14 R (x * 4) (.int .i64 tk) (.int .i64 tm) (.string ts) (.slice ta tl tc) := ⟨_, rfl⟩
          rw [← hw15] at hP15 hH15
          unfold set4 at hw15
          rw [← hw15]
          clear hw15 c0 c1 c2' c3 d0 d1 d2 d3 e0 e1 e2 x0 x1 x2 x3 y0 y1 y2 y3
          obtain ⟨⟨p0, p1, p2, p3⟩, _⟩ := hP15.2.1.cells
          obtain ⟨⟨r0, r1, r2, r3⟩, _⟩ := hH15.cells
          obtain ⟨x0, x1, x2, x3, q0, q1, q2, q3, fq0, fq1, fq2, fq3⟩ := res_cells hP15.1.r2
          obtain ⟨y0, y1, y2, y3, t0, t1, t2, t3, ft0, ft1, ft2, ft3⟩ := res_cells hP15.1.r3
          have HP15 := hide hP15
          have HH15 := hide hH15
          clear hP15 hH15
          go_wp2_with fail
          go_region
          all_goals
            go_wp2_with fail
            exact bodyPost_ret (v := .tuple #[.agg #[.int .i64 k, .int .i64 m, .string s, .slice a l c], .agg #[.int .i64 k, .int .i64 m, .string s, .slice (some ⟨R, 0, none⟩) l cap]]) (by simp [results, Try.results9, go_sem, q0, q1, q2, q3, t0, t1, t2, t3]) rfl (cmp_end (unhide HZ) (unhide HP15).1 (unhide HP15).2.1 (unhide HH15) (by first | exact (((Off2.refl Z w15).put _ _ _ _).next _ _ _ _).drew | exact (((Off2.refl Z w15).next _ _ _ _).put _ _ _ _).drew))
    · have h0' : ((p : Int) == 0) = false := by simp; omega
      clear h0
      go_wp2_with fail
      go_region
      all_goals
        go_wp2_with fail
        exact bodyPost_ret (v := .tuple #[.agg #[.int .i64 k, .int .i64 m, .string s, .slice a l c], .agg #[.int .i64 k2, .int .i64 m2, .string s2, .slice a2 l2 c2]]) (by simp [results, Try.results9, go_sem, q0, q1, q2, q3, t0, t1, t2, t3]) rfl (cmp_end (unhide HZ) (unhide HP9).1 (unhide HP9).2.1 (unhide HH) (by first | exact (((Off2.refl Z w9).put _ _ _ _).next _ _ _ _).drew | exact (((Off2.refl Z w9).next _ _ _ _).put _ _ _ _).drew))
end Go.Proofs.Ytjhdljmghhdhgaa
