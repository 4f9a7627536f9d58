/- Rows of drawn terms: what they are, what an append makes of them. -/
import Derived.Test.YthfjgffhncogaaaGreatQ22
import Derived.Lib.AppendZeros
import Derived.Deep.RegionLaw
import Derived.Test.YthfjgffhncogaaaGreatQ21
namespace Go.Proofs.YthfjgffhncogaaaGreat
open Go.RowKit Go.Deep

theorem infoT : (Tryz.prog.info? 26).map (fun i => (i.zero, i.size, i.bytes)) = some (some (.agg #[.int .i64 0, .int .i64 0, .string ⟨#[]⟩, .slice none 0 0]), 4, 56) := by kernel_rfl

/-- append of m terms onto an own row: where the new row lies, too. -/
theorem run_append_terms (base : Nat) (v : Value) (n : Nat) (xs : List Value) (w : World) (hown : w.ownsRow base 26 4 v n xs) (hn : n ≤ 100000)
    (a : Addr) (m c : Nat) (news : List Value) (hl : news.length = m * 4) (hm : 0 < m ∧ m ≤ 100000) (hnews : ∀ j u, news[j]? = some u → w.cell? (a.add j) = some u) (h1 : ∀ u ∈ news, u.oneCell' = true) (hbase : base ≤ w.heap.size) (ty : TypeId) :
    ∃ R cap w', (Builtin.append_ #[24, 24] ty #[v, .slice (some a) m c]).run Tryz.prog w = .ok (.slice (some ⟨R, 0, none⟩) (n + m) cap) w' ∧ w'.ownsRow base 26 4 (.slice (some ⟨R, 0, none⟩) (n + m) cap) (n + m) (xs ++ news) ∧
      w.grownBy w' v.ownBlock ∧ (v.ownBlock = some R ∨ R = w.heap.size) := by
  obtain ⟨i, hi, hz, hs, hb⟩ := info_parts infoT
  have h63 : n + m ≤ maxLen := by unfold maxLen; omega
  obtain ⟨v', w', hr, ho, hg, hnil⟩ := run_append_own (P := Tryz.prog) w base 24 ty 26 i _ 4 56 Tryz.underlying24 hi hz hs hb rfl (by decide) v n xs hown a m c news hl hnews h1 h63 (by omega) hbase
  have hne : v' ≠ .slice none 0 0 := fun h => by have := (hnil.1 h).2; omega
  obtain ⟨R, cap, cur, rfl, hR⟩ : ∃ R cap, ∃ cur : Array Value, v' = .slice (some ⟨R, 0, none⟩) (n + m) cap ∧ w'.heap[R]? = some (.cells cur 26 (0, 0)) := by
    rcases ho.2 with ⟨h, _⟩ | ⟨R, cap, cur, h, _, h2, _⟩
    · exact absurd h hne
    · exact ⟨R, cap, cur, h, h2⟩
  refine ⟨R, cap, w', hr, ho, hg, ?_⟩
  rcases hown.2 with ⟨rfl, rfl⟩ | ⟨g, cp, cr, rfl, hbg, hh, hnc, hcm, hcs, htake⟩
  · have hx : xs = [] := List.eq_nil_of_length_eq_zero (by simpa using hown.1)
    subst hx
    have h2 := run_append_nil (P := Tryz.prog) w 24 ty 26 i _ Tryz.underlying24 hi hz a m c news (by rw [hs]; exact hl) hnews hm.1 (by omega) (by rw [hb]; omega)
    rw [hr] at h2
    injection h2 with h2 _
    simp at h2
    exact .inr h2.1
  · by_cases hroom : n + m ≤ cp
    · have h2 := run_append_room (P := Tryz.prog) w 24 ty 26 i Tryz.underlying24 hi g n cp cr hh a m c news (by rw [hs]; exact hl) hnews h1 hroom (by rw [hs, hl, hcs]; omega)
      rw [hr] at h2
      injection h2 with h2 _
      simp at h2
      exact .inl (by rw [h2.1]; rfl)
    · have h2 := run_append_grow (P := Tryz.prog) w 24 ty 26 i _ Tryz.underlying24 hi hz ⟨g, 0, none⟩ n cp xs (by rw [hs]; exact hown.1) (hown.cells (g := g) rfl) a m c news (by rw [hs]; exact hl) hnews (by omega) (by omega)
        (by rw [hb]; exact growslice_fits (by omega) (by omega))
      rw [hr] at h2
      injection h2 with h2 _
      simp at h2
      exact .inr h2.1

/-- The blocks from base on that are there, the row's own left out. -/
abbrev Off (base : Nat) (v : Value) (w : World) : Nat → Prop := fun b => base ≤ b ∧ b < w.heap.size ∧ v.ownBlock ≠ some b

/-- A row's cells stand for terms. -/
def CellsAt (S : Nat → Prop) (w : World) {n : Nat} (ks : List (Tm n)) (xs : List Value) : Prop :=
  xs.length = ks.length * 4 ∧ ∀ i (h : i < ks.length), ∃ d0 d1 d2 d3, xs[i * 4]? = some d0 ∧ xs[i * 4 + 1]? = some d1 ∧ xs[i * 4 + 2]? = some d2 ∧ xs[i * 4 + 3]? = some d3 ∧ TAt S w n ks[i] d0 d1 d2 d3

/-- An own row of terms. -/
def RowsX (base : Nat) (w : World) {n : Nat} (ks : List (Tm n)) (v : Value) (xs : List Value) : Prop :=
  w.ownsRow base 26 4 v ks.length xs ∧ CellsAt (Off base v w) w ks xs

theorem own_place {base : Nat} {w : World} {v : Value} {n : Nat} {xs : List Value} (h : w.ownsRow base 26 4 v n xs) : (v = .slice none 0 0 ∧ n = 0) ∨ ∃ g cap, v = .slice (some ⟨g, 0, none⟩) n cap ∧ base ≤ g ∧ g < w.heap.size ∧ n ≤ cap ∧ ∀ j, j < n * 4 → w.cell? ⟨g, j, none⟩ = xs[j]? := by
  rcases h.2 with h1 | ⟨g, cap, cur, rfl, h2, h3, h4, h5⟩
  · exact .inl h1
  · exact .inr ⟨g, cap, rfl, h2, (h.lt g rfl).2, h4, fun j hj => h.cellAt j hj⟩

theorem CellsAt.keep {S S' : Nat → Prop} {w w' : World} {n : Nat} {ks : List (Tm n)} {xs : List Value} (h : CellsAt S w ks xs) (hk : ∀ b, S b → w'.heap[b]? = w.heap[b]?) (hS : ∀ b, S b → S' b) : CellsAt S' w' ks xs := by
  refine ⟨h.1, fun i hi => ?_⟩
  obtain ⟨d0, d1, d2, d3, e0, e1, e2, e3, ht⟩ := h.2 i hi
  exact ⟨d0, d1, d2, d3, e0, e1, e2, e3, (ht.keep hk).mono hS⟩
theorem CellsAt.append {S : Nat → Prop} {w : World} {n : Nat} {ks ls : List (Tm n)} {xs ys : List Value} (h : CellsAt S w ks xs) (h' : CellsAt S w ls ys) : CellsAt S w (ks ++ ls) (xs ++ ys) := by
  have hx := h.1
  refine ⟨by rw [List.length_append, List.length_append, h.1, h'.1]; omega, fun i hi => ?_⟩
  by_cases hlt : i < ks.length
  · obtain ⟨d0, d1, d2, d3, e0, e1, e2, e3, ht⟩ := h.2 i hlt
    refine ⟨d0, d1, d2, d3, ?_, ?_, ?_, ?_, by rw [List.getElem_append_left hlt]; exact ht⟩ <;> rw [List.getElem?_append_left (by omega)] <;> assumption
  · have hi' : i - ks.length < ls.length := by rw [List.length_append] at hi; omega
    obtain ⟨d0, d1, d2, d3, e0, e1, e2, e3, ht⟩ := h'.2 (i - ks.length) hi'
    refine ⟨d0, d1, d2, d3, ?_, ?_, ?_, ?_, by rw [List.getElem_append_right (by omega)]; exact ht⟩ <;> rw [List.getElem?_append_right (by omega), hx]
    · rw [show i * 4 - ks.length * 4 = (i - ks.length) * 4 by omega]; exact e0
    · rw [show i * 4 + 1 - ks.length * 4 = (i - ks.length) * 4 + 1 by omega]; exact e1
    · rw [show i * 4 + 2 - ks.length * 4 = (i - ks.length) * 4 + 2 by omega]; exact e2
    · rw [show i * 4 + 3 - ks.length * 4 = (i - ks.length) * 4 + 3 by omega]; exact e3
theorem CellsAt.one {S : Nat → Prop} {w : World} {n : Nat} {t : Tm n} {d0 d1 d2 d3 : Value} (h : TAt S w n t d0 d1 d2 d3) : CellsAt S w [t] [d0, d1, d2, d3] := by
  refine ⟨rfl, fun i hi => ?_⟩
  obtain rfl : i = 0 := by simp at hi; omega
  exact ⟨d0, d1, d2, d3, rfl, rfl, rfl, rfl, h⟩
theorem CellsAt.nil {S : Nat → Prop} {w : World} {n : Nat} : CellsAt S w ([] : List (Tm n)) [] := ⟨rfl, fun i hi => by simp at hi⟩

/-- What was an own row is one still where only block g, below it, was written. -/
theorem RowsX.kept {base g : Nat} {w w' : World} {n : Nat} {ks : List (Tm n)} {v : Value} {xs : List Value} (h : RowsX base w ks v xs) (hk : Kept g w w') (hg : g < base) : RowsX base w' ks v xs := by
  obtain ⟨h1, h2⟩ := h
  refine ⟨⟨h1.1, ?_⟩, h2.keep (fun b hb => hk.block b hb.2.1 (by have := hb.1; omega)) fun b hb => ⟨hb.1, Nat.lt_of_lt_of_le hb.2.1 hk.size, hb.2.2⟩⟩
  rcases h1.2 with h3 | ⟨R, cap, cur, rfl, h4, h5, h6⟩
  · exact .inl h3
  · exact .inr ⟨R, cap, cur, rfl, h4, (hk.block R (h1.lt R rfl).2 (by omega)).trans h5, h6⟩
theorem RowsX.up {base : Nat} {w w' : World} {n : Nat} {ks : List (Tm n)} {v : Value} {xs : List Value} (h : RowsX base w ks v xs) (hb : Below w.heap.size w w') : RowsX base w' ks v xs := by
  obtain ⟨h1, h2⟩ := h
  refine ⟨⟨h1.1, ?_⟩, h2.keep (fun b hb' => hb.block b hb'.2.1) fun b hb' => ⟨hb'.1, Nat.lt_of_lt_of_le hb'.2.1 hb.size, hb'.2.2⟩⟩
  rcases h1.2 with h3 | ⟨R, cap, cur, rfl, h4, h5, h6⟩
  · exact .inl h3
  · exact .inr ⟨R, cap, cur, rfl, h4, (hb.block R (h1.lt R rfl).2).trans h5, h6⟩
theorem RowsX.lower {base base' : Nat} {w : World} {n : Nat} {ks : List (Tm n)} {v : Value} {xs : List Value} (h : RowsX base w ks v xs) (hb : base' ≤ base) : RowsX base' w ks v xs := by
  obtain ⟨h1, h2⟩ := h
  refine ⟨⟨h1.1, ?_⟩, h2.keep (fun _ _ => rfl) fun b hb' => ⟨Nat.le_trans hb hb'.1, hb'.2⟩⟩
  rcases h1.2 with h3 | ⟨R, cap, cur, rfl, h4, h5, h6⟩
  · exact .inl h3
  · exact .inr ⟨R, cap, cur, rfl, by omega, h5, h6⟩
/-- Behind the append: the old terms and the new ones. -/
theorem RowsX.push {base : Nat} {w w' : World} {n : Nat} {ks ls : List (Tm n)} {v : Value} {xs ys : List Value} {R cap : Nat} (h : RowsX base w ks v xs) (hl : CellsAt (Off base v w) w ls ys)
    (ho : w'.ownsRow base 26 4 (.slice (some ⟨R, 0, none⟩) (ks.length + ls.length) cap) (ks.length + ls.length) (xs ++ ys)) (hg : w.grownBy w' v.ownBlock) (hR : v.ownBlock = some R ∨ R = w.heap.size) :
    RowsX base w' (ks ++ ls) (.slice (some ⟨R, 0, none⟩) (ks.length + ls.length) cap) (xs ++ ys) := by
  refine ⟨by rw [List.length_append]; exact ho, (h.2.append hl).keep (fun b hb => hg.block b hb.2.1 fun e => hb.2.2 e.symm) fun b hb => ⟨hb.1, Nat.lt_of_lt_of_le hb.2.1 hg.size, ?_⟩⟩
  show some R ≠ some b
  intro e
  injection e with e
  rcases hR with hR | hR
  · exact hb.2.2 (by rw [hR, e])
  · have := hb.2.1; omega

/-- A row of terms as a slice that is read. -/
theorem RowsX.sat {base : Nat} {w : World} {n : Nat} {ks : List (Tm n)} {v : Value} {xs : List Value} (h : RowsX base w ks v xs) (hl : ks.length ≤ 100000) : SAt (fun b => base ≤ b ∧ b < w.heap.size) w (TAt (fun b => base ≤ b ∧ b < w.heap.size) w n) ks v := by
  obtain ⟨h1, h2⟩ := h
  rcases own_place h1 with ⟨rfl, h3⟩ | ⟨g, cap, rfl, h3, h4, h5, h6⟩
  · exact ⟨none, 0, by rw [h3], by omega, by omega, fun i hi => by omega⟩
  · refine ⟨some ⟨g, 0, none⟩, cap, rfl, h5, by omega, fun i hi => ?_⟩
    obtain ⟨d0, d1, d2, d3, e0, e1, e2, e3, ht⟩ := h2.2 i hi
    refine ⟨g, 0, d0, d1, d2, d3, rfl, ⟨h3, h4⟩, ?_, ?_, ?_, ?_, ht.mono fun b hb => ⟨hb.1, hb.2.1⟩⟩ <;> rw [Nat.zero_add, h6 _ (by omega)] <;> assumption

theorem list_of' {α : Type} {R : Nat → α → Prop} : ∀ (len : Nat), (∀ i, i < len → ∃ t, R i t) → ∃ ks : List α, ks.length = len ∧ ∀ i (h : i < ks.length), R i ks[i]
  | 0, _ => ⟨[], rfl, fun i h => by simp at h⟩
  | len + 1, H => by
    obtain ⟨ks, h1, h2⟩ := list_of' len fun i h => H i (by omega)
    obtain ⟨t, ht⟩ := H len (by omega)
    refine ⟨ks ++ [t], by simp [h1], fun i h => ?_⟩
    by_cases hi : i < ks.length
    · rw [List.getElem_append_left hi]; exact h2 i hi
    · have : i = ks.length := by simp at h; omega
      subst this
      simp only [List.getElem_concat_length]
      rw [h1]; exact ht

/-- The same tree, held deeper. -/
theorem TAt.deeper {S : Nat → Prop} {w : World} : ∀ {n : Nat} {t : Tm n} {a b c d : Value}, TAt S w n t a b c d → ∃ t' : Tm (n + 1), TAt S w (n + 1) t' a b c d := by
  intro n
  induction n with
  | zero => intro t; exact t.elim
  | succ n ih =>
    rintro ⟨k, m, s, ks⟩ a b c d ⟨h0, h1, h2, hk1, hm, hs, a', cap, h3, h4, h5, h6⟩
    obtain ⟨ls, hll, hls⟩ := list_of' (α := Tm (n + 1)) (R := fun i t => ∃ b off d0 d1 d2 d3, a' = some ⟨b, off, none⟩ ∧ S b ∧ w.cell? ⟨b, off + i * 4, none⟩ = some d0 ∧ w.cell? ⟨b, off + i * 4 + 1, none⟩ = some d1 ∧
        w.cell? ⟨b, off + i * 4 + 2, none⟩ = some d2 ∧ w.cell? ⟨b, off + i * 4 + 3, none⟩ = some d3 ∧ TAt S w (n + 1) t d0 d1 d2 d3) ks.length fun i hi => by
      obtain ⟨b, off, d0, d1, d2, d3, g0, g1, g2, g3, g4, g5, ht⟩ := h6 i hi
      obtain ⟨t', ht'⟩ := ih ht
      exact ⟨t', b, off, d0, d1, d2, d3, g0, g1, g2, g3, g4, g5, ht'⟩
    exact ⟨(k, m, s, ls), h0, h1, h2, hk1, hm, hs, a', cap, by rw [hll]; exact h3, by omega, by omega, fun i hi => hls i hi⟩
theorem TAt.deep {S : Nat → Prop} {w : World} {n : Nat} {t : Tm n} {a b c d : Value} (h : TAt S w n t a b c d) (k : Nat) : ∃ t' : Tm (n + k), TAt S w (n + k) t' a b c d := by
  induction k with
  | zero => exact ⟨t, h⟩
  | succ k ih => obtain ⟨_, h'⟩ := ih; exact h'.deeper

end Go.Proofs.YthfjgffhncogaaaGreat
/- spec's taker: kids. -/
namespace Go.Proofs.YthfjgffhncogaaaGreat
open Go.RowKit Go.Deep

theorem cells_shape {S : Nat → Prop} {w : World} {n : Nat} {t : Tm n} {c0 c1 c2 c3 : Value} (h : TAt S w n t c0 c1 c2 c3) : ∀ u ∈ [c0, c1, c2, c3], u.oneCell' = true := by
  obtain ⟨_, _, _, _, _, _, rfl, rfl, rfl, rfl⟩ := h.shape
  intro u hu
  simp at hu
  rcases hu with rfl | rfl | rfl | rfl <;> rfl
theorem But.kept {g : Nat} {w w' : World} (h : But g w w') : Kept g w w' := ⟨h.os, h.tape, h.output, h.size, h.block⟩

/-- Behind taking a term. -/
def StEnd (m g c : Nat) (data : ByteArray) (pos : Nat) (w : World) (e : Ending) (w' : World) : Prop :=
  But g w w' ∧ ((∃ t c' pos' d0 d1 d2 d3, takeV m (suf data pos) c = some (t, suf data pos', c') ∧ pos' ≤ data.size ∧ c < c' ∧ c' ≤ 2000 ∧ e = .returned (.agg #[d0, d1, d2, d3]) ∧ TAt (Fresh w w') w' (m + 1) t d0 d1 d2 d3 ∧ Tkr g c' data pos' false w') ∨
    (takeV m (suf data pos) c = none ∧ ∃ c' pos' k1 k2 s a l cap, pos' ≤ data.size ∧ e = .returned (.agg #[.int .i64 k1, .int .i64 k2, .string s, .slice a l cap]) ∧ Tkr g c' data pos' true w'))
def StSaid (m : Nat) : Prop := ∀ (g c : Nat) (data : ByteArray) (pos d : Nat) (w : World), Tkr g c data pos false w → pos ≤ data.size → data.size ≤ 2 ^ 47 → d + m = 101 → c ≤ 2000 →
  Calls Tryz.prog 51 #[.pointer (some ⟨g, 0, none⟩), .int .i64 d] w fun e w' => StEnd m g c data pos w e w'

/-- Behind taking k terms. -/
def SkEnd (m g c k : Nat) (data : ByteArray) (pos : Nat) (w : World) (e : Ending) (w' : World) : Prop :=
  But g w w' ∧ ((∃ ks c' pos' a cap, takeR (takeV m) k (suf data pos) c = some (ks, suf data pos', c') ∧ pos' ≤ data.size ∧ c + k ≤ c' ∧ c' ≤ 2000 ∧ ks.length = k ∧ e = .returned (.slice a k cap) ∧ SAt (Fresh w w') w' (TAt (Fresh w w') w' (m + 1)) ks (.slice a k cap) ∧ Tkr g c' data pos' false w') ∨
    (takeR (takeV m) k (suf data pos) c = none ∧ ∃ c' pos' a l cap, pos' ≤ data.size ∧ e = .returned (.slice a l cap) ∧ Tkr g c' data pos' true w'))

/-- A term that lies in new memory put behind an own row. -/
theorem row_put {n base : Nat} {w1 wz : World} {ls : List (Tm n)} {xs : List Value} {kv : Value} (hX : RowsX base w1 ls kv xs) (hl : ls.length ≤ 90000) {t : Tm n} {d0 d1 d2 d3 : Value} {S : Nat → Prop} (ht : TAt S w1 n t d0 d1 d2 d3) (hS : ∀ b, S b → Off base kv w1 b)
    (hz : wz.heap = (w1.alloc (.cells #[d0, d1, d2, d3] 26)).heap ∧ wz.os = w1.os ∧ wz.tape = w1.tape ∧ wz.output = w1.output) (hb : base ≤ w1.heap.size) (ty : TypeId) :
    ∃ R cap w', (Builtin.append_ #[24, 24] ty #[kv, .slice (some ⟨w1.heap.size, 0, none⟩) 1 1]).run Tryz.prog wz = .ok (.slice (some ⟨R, 0, none⟩) (ls.length + 1) cap) w' ∧
      RowsX base w' (ls ++ [t]) (.slice (some ⟨R, 0, none⟩) (ls.length + 1) cap) (xs ++ [d0, d1, d2, d3]) ∧ Below base w1 w' := by
  have hbz : Below w1.heap.size w1 wz := ⟨hz.2.1, hz.2.2.1, hz.2.2.2, by rw [hz.1]; simp, fun k hk => by rw [hz.1]; exact Below.heap_alloc _ _ _ hk⟩
  have hXz := hX.up hbz
  have hblk : wz.heap[w1.heap.size]? = some (.cells #[d0, d1, d2, d3] 26 (0, 0)) := by rw [hz.1]; exact heap_new _ _
  have g1 : TAt (Off base kv wz) wz n t d0 d1 d2 d3 := (ht.below hbz fun b hb => (hS b hb).2.1).mono fun b hb => ⟨(hS b hb).1, Nat.lt_of_lt_of_le (hS b hb).2.1 hbz.size, (hS b hb).2.2⟩
  obtain ⟨R, cap, w', hr, ho, hg, hR⟩ := run_append_terms base kv ls.length xs wz hXz.1 (by omega) ⟨w1.heap.size, 0, none⟩ 1 1 [d0, d1, d2, d3] rfl ⟨by omega, by omega⟩
    (fun j u hu => by rw [Go.WideShapes.add_plain, cell_of_heap hblk, Nat.zero_add, ← Array.getElem?_toList]; exact hu) (cells_shape ht) (Nat.le_trans hb hbz.size) ty
  exact ⟨R, cap, w', hr, hXz.push (CellsAt.one g1) (R := R) (cap := cap) ho hg hR, (hbz.mono hb).grown hg (Nat.le_trans hb hbz.size) fun k hk => (hXz.1.lt k hk).1⟩

/-- Any four cells put behind an own row. -/
theorem row_junk {n base : Nat} {w1 wz : World} {ls : List (Tm n)} {xs : List Value} {kv : Value} (hX : RowsX base w1 ls kv xs) (hl : ls.length ≤ 90000) {d0 d1 d2 d3 : Value} (hd : ∀ u ∈ [d0, d1, d2, d3], u.oneCell' = true)
    (hz : wz.heap = (w1.alloc (.cells #[d0, d1, d2, d3] 26)).heap ∧ wz.os = w1.os ∧ wz.tape = w1.tape ∧ wz.output = w1.output) (hb : base ≤ w1.heap.size) (ty : TypeId) :
    ∃ R cap w', (Builtin.append_ #[24, 24] ty #[kv, .slice (some ⟨w1.heap.size, 0, none⟩) 1 1]).run Tryz.prog wz = .ok (.slice (some ⟨R, 0, none⟩) (ls.length + 1) cap) w' ∧ Below base w1 w' := by
  have hbz : Below w1.heap.size w1 wz := ⟨hz.2.1, hz.2.2.1, hz.2.2.2, by rw [hz.1]; simp, fun k hk => by rw [hz.1]; exact Below.heap_alloc _ _ _ hk⟩
  have hXz := hX.up hbz
  have hblk : wz.heap[w1.heap.size]? = some (.cells #[d0, d1, d2, d3] 26 (0, 0)) := by rw [hz.1]; exact heap_new _ _
  obtain ⟨R, cap, w', hr, ho, hg, hR⟩ := run_append_terms base kv ls.length xs wz hXz.1 (by omega) ⟨w1.heap.size, 0, none⟩ 1 1 [d0, d1, d2, d3] rfl ⟨by omega, by omega⟩
    (fun j u hu => by rw [Go.WideShapes.add_plain, cell_of_heap hblk, Nat.zero_add, ← Array.getElem?_toList]; exact hu) hd (Nat.le_trans hb hbz.size) ty
  exact ⟨R, cap, w', hr, (hbz.mono hb).grown hg (Nat.le_trans hb hbz.size) fun k hk => (hXz.1.lt k hk).1⟩

theorem rows_lit {n : Nat} {base : Nat} (w : World) (hb : base ≤ w.heap.size) : RowsX base (w.alloc (.cells #[] 26)) ([] : List (Tm n)) (.slice (some ⟨w.heap.size, 0, none⟩) 0 0) [] :=
  ⟨World.ownsRow_lit (base := base) w #[] 0 hb (by unfold maxLen; omega) (by simp), CellsAt.nil⟩
theorem rows_form {n base : Nat} {w : World} {ks : List (Tm n)} {v : Value} {xs : List Value} (h : RowsX base w ks v xs) : ∃ a cap, v = .slice a ks.length cap := by
  rcases own_place h.1 with ⟨rfl, h3⟩ | ⟨g, cap, rfl, _⟩
  · exact ⟨none, 0, by rw [h3]⟩
  · exact ⟨_, cap, rfl⟩

set_option maxRecDepth 40000 in
set_option maxHeartbeats 2000000 in
theorem skids_any (m : Nat) (h : StSaid m) (g c k : Nat) (data : ByteArray) (pos d : Nat) (w : World) (hu : Tkr g c data pos false w) (hp : pos ≤ data.size) (hd : data.size ≤ 2 ^ 47) (hdm : d + m = 101) (hc : c ≤ 2000) (hk : k ≤ 200000) :
    Calls Tryz.prog 89 #[.pointer (some ⟨g, 0, none⟩), .int .i64 k, .int .i64 d] w fun e w' => SkEnd m g c k data pos w e w' := by
  have hgl := hu.lt
  have HU := hide (hu.below ((Below.refl w.heap.size w).alloc (Nat.le_refl _) (.cells #[] 26)))
  have HR0 := hide (rows_lit (n := m + 1) w (Nat.le_refl _))
  have HB0 := hide (show But g w (w.alloc (.cells #[] 26)) from ⟨rfl, rfl, rfl, by simp, fun k hk _ => Below.heap_alloc _ _ _ hk⟩)
  clear hu
  go_enter Tryz.func89, Tryz.ntmps89
  go_wp2_with fail
  go_loopw [7, 8] (fun rv iv wr => ∃ i : Nat, i ≤ k ∧ iv = .int .i64 i ∧ But g w wr ∧
      ((∃ (ks : List (Tm (m + 1))) (xs : List Value) (c' pos' : Nat), takeR (takeV m) i (suf data pos) c = some (ks, suf data pos', c') ∧ pos' ≤ data.size ∧ c' ≤ 2000 ∧ c + i ≤ c' ∧ ks.length = i ∧ RowsX w.heap.size wr ks rv xs ∧ Tkr g c' data pos' false wr) ∨
       (takeR (takeV m) k (suf data pos) c = none ∧ ∃ c' pos' a l cap, pos' ≤ data.size ∧ rv = .slice a l cap ∧ Tkr g c' data pos' true wr))) (fun _ iv _ => k - (intOf iv).toNat)
  case atStart => exact ⟨0, Nat.zero_le _, rfl, unhide HB0, .inl ⟨[], [], c, pos, rfl, hp, hc, Nat.le_refl _, rfl, unhide HR0, unhide HU⟩⟩
  case round =>
    obtain ⟨i, hi, rfl, hbut, ⟨ks, xs, c', pos', htk, hp', hc', hci, hkl, hX, hu'⟩ | ⟨hno, c', pos', a, l, cap, hpb, rfl, hu'⟩⟩ := hrel
    · obtain ⟨a, cap, rfl⟩ := rows_form hX
      rw [hkl] at hX ⊢
      obtain ⟨_, _, t2, _, _⟩ := hu'.cells
      by_cases hlt : i < k
      · have hcall := hide (h g c' data pos' d wr hu' hp' hd hdm hc')
        have HTK := hide htk
        have HX := hide hX
        have HBUT := hide hbut
        have HKL := hide hkl
        have HCI := hide (And.intro hci hc')
        clear hu' htk hX hbut hkl hci hp' hc'
        go_wp2_with fail
        refine (unhide hcall).mono ?_
        rintro e w2 ⟨hb2, ⟨t, c2, p2, d0, d1, d2, d3, ht, hp2, hcc, hc2, rfl, hv, hu2⟩ | ⟨hno, c2, p2, k1, k2, s, a2, l2, cap2, hpb, rfl, hu2⟩⟩
        · obtain ⟨tk, tm, ts, ta, tl, tc, rfl, rfl, rfl, rfl⟩ := hv.shape
          have hX2 := (unhide HX).kept hb2.kept hgl
          have hbw := (unhide HBUT).size
          obtain ⟨R, cp, w4, hr4, hX4, hB4⟩ := row_put hX2 (by have := unhide HKL; have := (unhide HCI).1; have := (unhide HCI).2; omega) hv (fun b hb => ⟨by have := hb.1; omega, hb.2, fun e => by have := ((unhide HX).1.lt b e).2; have := hb.1; omega⟩) (wz := w2.alloc _) ⟨rfl, rfl, rfl, rfl⟩ (Nat.le_trans hbw hb2.size) 24
          rw [unhide HKL] at hr4 hX4
          have hbw2 := (unhide HBUT).trans hb2
          have HB4 := hide (show But g w w4 from ⟨hB4.os.trans hbw2.os, hB4.tape.trans hbw2.tape, hB4.output.trans hbw2.output, Nat.le_trans hbw2.size hB4.size, fun b hb hn => (hB4.block b hb).trans (hbw2.block b hb hn)⟩)
          have HU4 := hide (show Tkr g c2 data p2 false w4 from (hB4.block g hgl).trans hu2)
          have htk2 := hide (show takeR (takeV m) (i + 1) (suf data pos) c = some (ks ++ [t], suf data p2, c2) by
            rw [takeR, unhide HTK]
            dsimp only
            rw [ht])
          have HR4 := hide hr4
          have HX4 := hide hX4
          have HCC := hide (And.intro hp2 (And.intro hcc hc2))
          clear hX2 hbw hr4 hX4 hB4 hbw2 hv hu2 ht hp2 hcc hc2 hb2
          go_wp2_with (at_builtin; refine Go.Lib.wpList_append_run _ rfl (.tmp 22) (.tmp 26) 24 24 rfl _ _ rfl rfl _ _ (unhide HR4) ?_)
          go_roundw
          case rel =>
            obtain ⟨q1, q2, q3⟩ := unhide HCC
            exact ⟨i + 1, hlt, by go_num, unhide HB4, .inl ⟨ks ++ [t], _, c2, p2, unhide htk2, q1, q3, by have := (unhide HCI).1; have := (unhide HCI).2; omega, by rw [List.length_append, unhide HKL]; rfl, unhide HX4, unhide HU4⟩⟩
          case measure => simp [intOf]; omega
        · have hX2 := (unhide HX).kept hb2.kept hgl
          have hbw := (unhide HBUT).size
          obtain ⟨R, cp, w4, hr4, hB4⟩ := row_junk hX2 (by have := unhide HKL; have := (unhide HCI).1; have := (unhide HCI).2; omega) (d0 := .int .i64 k1) (d1 := .int .i64 k2) (d2 := .string s) (d3 := .slice a2 l2 cap2) (by intro u hu; simp at hu; rcases hu with rfl | rfl | rfl | rfl <;> rfl) (wz := w2.alloc _) ⟨rfl, rfl, rfl, rfl⟩ (Nat.le_trans hbw hb2.size) 24
          rw [unhide HKL] at hr4
          have hbw2 := (unhide HBUT).trans hb2
          have HB4 := hide (show But g w w4 from ⟨hB4.os.trans hbw2.os, hB4.tape.trans hbw2.tape, hB4.output.trans hbw2.output, Nat.le_trans hbw2.size hB4.size, fun b hb hn => (hB4.block b hb).trans (hbw2.block b hb hn)⟩)
          have HU4 := hide (show Tkr g c2 data p2 true w4 from (hB4.block g hgl).trans hu2)
          have HNO := hide (show takeR (takeV m) k (suf data pos) c = none by
            refine takeR_none _ (i + 1) _ _ ?_ k hlt
            rw [takeR, unhide HTK]
            dsimp only
            rw [hno])
          have HR4 := hide hr4
          have HPB := hide hpb
          clear hX2 hbw hr4 hB4 hbw2 hu2 hno hb2 hpb
          go_wp2_with (at_builtin; refine Go.Lib.wpList_append_run _ rfl (.tmp 22) (.tmp 26) 24 24 rfl _ _ rfl rfl _ _ (unhide HR4) ?_)
          go_roundw
          case rel => exact ⟨i + 1, hlt, by go_num, unhide HB4, .inr ⟨unhide HNO, c2, p2, _, _, _, unhide HPB, rfl, unhide HU4⟩⟩
          case measure => simp [intOf]; omega
      · have hkk : i = k := by omega
        subst hkk
        have HTK := hide htk
        have HX := hide hX
        have HBUT := hide hbut
        have HKL := hide hkl
        have HCI := hide (And.intro hp' (And.intro hci hc'))
        have HU' := hide hu'
        clear hu' htk hX hbut hkl hci hp' hc'
        go_wp2_with fail
        go_ret
        obtain ⟨q1, q2, q3⟩ := unhide HCI
        refine ⟨unhide HBUT, .inl ⟨ks, c', pos', a, cap, unhide HTK, q1, q2, q3, unhide HKL, rfl, ?_, unhide HU'⟩⟩
        have := (unhide HX).sat (by have := unhide HKL; omega)
        exact this
    · obtain ⟨_, _, t2, _, _⟩ := hu'.cells
      have HBUT := hide hbut
      have HNO := hide hno
      have HU' := hide hu'
      have HPB := hide hpb
      clear hbut hno hu' hpb
      by_cases hlt : i < k
      all_goals
        go_wp2_with fail
        go_ret
        exact ⟨unhide HBUT, .inr ⟨unhide HNO, c', pos', a, l, cap, unhide HPB, rfl, unhide HU'⟩⟩

set_option maxRecDepth 40000 in
set_option maxHeartbeats 1000000 in
theorem skids_bad (g c k : Nat) (data : ByteArray) (pos : Nat) (d : Int) (w : World) (hu : Tkr g c data pos true w) :
    Calls Tryz.prog 89 #[.pointer (some ⟨g, 0, none⟩), .int .i64 k, .int .i64 d] w fun e w' => But g w w' ∧ ∃ a l cap, e = .returned (.slice a l cap) ∧ Tkr g c data pos true w' := by
  have hgl := hu.lt
  obtain ⟨w0, hw0⟩ : ∃ w0, w0 = w.alloc (.cells #[] 26) := ⟨_, rfl⟩
  have hb0 : Below w.heap.size w w0 := by rw [hw0]; exact (Below.refl w.heap.size w).alloc (Nat.le_refl _) _
  have hu0 := hu.below hb0
  have t2 := hu0.cells.2.2.1
  have HU := hide hu0
  have HB := hide (But.below (g := g) hb0)
  have HW := hide hw0
  clear hu hb0 hu0 hw0
  by_cases hk : 0 < k
  all_goals
    go_enter Tryz.func89, Tryz.ntmps89
    go_upto_region 2 with fail
    rw [← unhide HW]
    go_wp2_with fail
    go_loopw [7, 8] (fun rv iv wr => rv = .slice (some ⟨w.heap.size, 0, none⟩) 0 0 ∧ iv = .int .i64 0 ∧ wr = w0) (fun _ _ _ => 0)
    case atStart => exact ⟨rfl, rfl, rfl⟩
    case round =>
      obtain ⟨rfl, rfl, rfl⟩ := hrel
      go_wp2_with fail
      go_ret
      exact ⟨unhide HB, _, _, _, rfl, unhide HU⟩

end Go.Proofs.YthfjgffhncogaaaGreat
