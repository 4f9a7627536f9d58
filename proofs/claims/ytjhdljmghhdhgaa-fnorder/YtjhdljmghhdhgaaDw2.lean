/- Rows of drawn terms: what they are, what an append makes of them. -/
import Derived.Test.YtjhdljmghhdhgaaDw1
import Derived.Lib.AppendZeros
import Derived.Deep.RegionLaw
namespace Go.Proofs.Ytjhdljmghhdhgaa
open Go.RowKit Go.Deep

theorem infoT : (Try.prog.info? 26).map (fun i => (i.zero, i.size, i.bytes)) = some (some (.agg #[.int .i64 0, .int .i64 0, .string ⟨#[]⟩, .slice none 0 0]), 4, 56) := by kernel_rfl

/-- append of m terms onto an own row: where the new row lies, too. -/
theorem run_append_terms (base : Nat) (v : Value) (n : Nat) (xs : List Value) (w : World) (hown : w.ownsRow base 26 4 v n xs) (hn : n ≤ 100000)
    (a : Addr) (m c : Nat) (news : List Value) (hl : news.length = m * 4) (hm : 0 < m ∧ m ≤ 100000) (hnews : ∀ j u, news[j]? = some u → w.cell? (a.add j) = some u) (h1 : ∀ u ∈ news, u.oneCell' = true) (hbase : base ≤ w.heap.size) (ty : TypeId) :
    ∃ R cap w', (Builtin.append_ #[24, 24] ty #[v, .slice (some a) m c]).run Try.prog w = .ok (.slice (some ⟨R, 0, none⟩) (n + m) cap) w' ∧ w'.ownsRow base 26 4 (.slice (some ⟨R, 0, none⟩) (n + m) cap) (n + m) (xs ++ news) ∧
      w.grownBy w' v.ownBlock ∧ (v.ownBlock = some R ∨ R = w.heap.size) := by
  obtain ⟨i, hi, hz, hs, hb⟩ := info_parts infoT
  have h63 : n + m ≤ maxLen := by unfold maxLen; omega
  obtain ⟨v', w', hr, ho, hg, hnil⟩ := run_append_own (P := Try.prog) w base 24 ty 26 i _ 4 56 Try.underlying24 hi hz hs hb rfl (by decide) v n xs hown a m c news hl hnews h1 h63 (by omega) hbase
  have hne : v' ≠ .slice none 0 0 := fun h => by have := (hnil.1 h).2; omega
  obtain ⟨R, cap, cur, rfl, hR⟩ : ∃ R cap, ∃ cur : Array Value, v' = .slice (some ⟨R, 0, none⟩) (n + m) cap ∧ w'.heap[R]? = some (.cells cur 26 (0, 0)) := by
    rcases ho.2 with ⟨h, _⟩ | ⟨R, cap, cur, h, _, h2, _⟩
    · exact absurd h hne
    · exact ⟨R, cap, cur, h, h2⟩
  refine ⟨R, cap, w', hr, ho, hg, ?_⟩
  rcases hown.2 with ⟨rfl, rfl⟩ | ⟨g, cp, cr, rfl, hbg, hh, hnc, hcm, hcs, htake⟩
  · have hx : xs = [] := List.eq_nil_of_length_eq_zero (by simpa using hown.1)
    subst hx
    have h2 := run_append_nil (P := Try.prog) w 24 ty 26 i _ Try.underlying24 hi hz a m c news (by rw [hs]; exact hl) hnews hm.1 (by omega) (by rw [hb]; omega)
    rw [hr] at h2
    injection h2 with h2 _
    simp at h2
    exact .inr h2.1
  · by_cases hroom : n + m ≤ cp
    · have h2 := run_append_room (P := Try.prog) w 24 ty 26 i Try.underlying24 hi g n cp cr hh a m c news (by rw [hs]; exact hl) hnews h1 hroom (by rw [hs, hl, hcs]; omega)
      rw [hr] at h2
      injection h2 with h2 _
      simp at h2
      exact .inl (by rw [h2.1]; rfl)
    · have h2 := run_append_grow (P := Try.prog) w 24 ty 26 i _ Try.underlying24 hi hz ⟨g, 0, none⟩ n cp xs (by rw [hs]; exact hown.1) (hown.cells (g := g) rfl) a m c news (by rw [hs]; exact hl) hnews (by omega) (by omega)
        (by rw [hb]; exact growslice_fits (by omega) (by omega))
      rw [hr] at h2
      injection h2 with h2 _
      simp at h2
      exact .inr h2.1

/-- The blocks from base on that are there, the row's own left out. -/
abbrev Off (base : Nat) (v : Value) (w : World) : Nat → Prop := fun b => base ≤ b ∧ b < w.heap.size ∧ v.ownBlock ≠ some b

/-- A row's cells stand for terms. -/
def CellsAt (S : Nat → Prop) (w : World) {n : Nat} (ks : List (Tm n)) (xs : List Value) : Prop :=
  xs.length = ks.length * 4 ∧ ∀ i (h : i < ks.length), ∃ d0 d1 d2 d3, xs[i * 4]? = some d0 ∧ xs[i * 4 + 1]? = some d1 ∧ xs[i * 4 + 2]? = some d2 ∧ xs[i * 4 + 3]? = some d3 ∧ TAt S w n ks[i] d0 d1 d2 d3

/-- An own row of terms. -/
def RowsX (base : Nat) (w : World) {n : Nat} (ks : List (Tm n)) (v : Value) (xs : List Value) : Prop :=
  w.ownsRow base 26 4 v ks.length xs ∧ CellsAt (Off base v w) w ks xs

theorem own_place {base : Nat} {w : World} {v : Value} {n : Nat} {xs : List Value} (h : w.ownsRow base 26 4 v n xs) : (v = .slice none 0 0 ∧ n = 0) ∨ ∃ g cap, v = .slice (some ⟨g, 0, none⟩) n cap ∧ base ≤ g ∧ g < w.heap.size ∧ n ≤ cap ∧ ∀ j, j < n * 4 → w.cell? ⟨g, j, none⟩ = xs[j]? := by
  rcases h.2 with h1 | ⟨g, cap, cur, rfl, h2, h3, h4, h5⟩
  · exact .inl h1
  · exact .inr ⟨g, cap, rfl, h2, (h.lt g rfl).2, h4, fun j hj => h.cellAt j hj⟩

theorem CellsAt.keep {S S' : Nat → Prop} {w w' : World} {n : Nat} {ks : List (Tm n)} {xs : List Value} (h : CellsAt S w ks xs) (hk : ∀ b, S b → w'.heap[b]? = w.heap[b]?) (hS : ∀ b, S b → S' b) : CellsAt S' w' ks xs := by
  refine ⟨h.1, fun i hi => ?_⟩
  obtain ⟨d0, d1, d2, d3, e0, e1, e2, e3, ht⟩ := h.2 i hi
  exact ⟨d0, d1, d2, d3, e0, e1, e2, e3, (ht.keep hk).mono hS⟩
theorem CellsAt.append {S : Nat → Prop} {w : World} {n : Nat} {ks ls : List (Tm n)} {xs ys : List Value} (h : CellsAt S w ks xs) (h' : CellsAt S w ls ys) : CellsAt S w (ks ++ ls) (xs ++ ys) := by
  have hx := h.1
  refine ⟨by rw [List.length_append, List.length_append, h.1, h'.1]; omega, fun i hi => ?_⟩
  by_cases hlt : i < ks.length
  · obtain ⟨d0, d1, d2, d3, e0, e1, e2, e3, ht⟩ := h.2 i hlt
    refine ⟨d0, d1, d2, d3, ?_, ?_, ?_, ?_, by rw [List.getElem_append_left hlt]; exact ht⟩ <;> rw [List.getElem?_append_left (by omega)] <;> assumption
  · have hi' : i - ks.length < ls.length := by rw [List.length_append] at hi; omega
    obtain ⟨d0, d1, d2, d3, e0, e1, e2, e3, ht⟩ := h'.2 (i - ks.length) hi'
    refine ⟨d0, d1, d2, d3, ?_, ?_, ?_, ?_, by rw [List.getElem_append_right (by omega)]; exact ht⟩ <;> rw [List.getElem?_append_right (by omega), hx]
    · rw [show i * 4 - ks.length * 4 = (i - ks.length) * 4 by omega]; exact e0
    · rw [show i * 4 + 1 - ks.length * 4 = (i - ks.length) * 4 + 1 by omega]; exact e1
    · rw [show i * 4 + 2 - ks.length * 4 = (i - ks.length) * 4 + 2 by omega]; exact e2
    · rw [show i * 4 + 3 - ks.length * 4 = (i - ks.length) * 4 + 3 by omega]; exact e3
theorem CellsAt.one {S : Nat → Prop} {w : World} {n : Nat} {t : Tm n} {d0 d1 d2 d3 : Value} (h : TAt S w n t d0 d1 d2 d3) : CellsAt S w [t] [d0, d1, d2, d3] := by
  refine ⟨rfl, fun i hi => ?_⟩
  obtain rfl : i = 0 := by simp at hi; omega
  exact ⟨d0, d1, d2, d3, rfl, rfl, rfl, rfl, h⟩
theorem CellsAt.nil {S : Nat → Prop} {w : World} {n : Nat} : CellsAt S w ([] : List (Tm n)) [] := ⟨rfl, fun i hi => by simp at hi⟩

/-- What was an own row is one still where only block g, below it, was written. -/
theorem RowsX.kept {base g : Nat} {w w' : World} {n : Nat} {ks : List (Tm n)} {v : Value} {xs : List Value} (h : RowsX base w ks v xs) (hk : Kept g w w') (hg : g < base) : RowsX base w' ks v xs := by
  obtain ⟨h1, h2⟩ := h
  refine ⟨⟨h1.1, ?_⟩, h2.keep (fun b hb => hk.block b hb.2.1 (by have := hb.1; omega)) fun b hb => ⟨hb.1, Nat.lt_of_lt_of_le hb.2.1 hk.size, hb.2.2⟩⟩
  rcases h1.2 with h3 | ⟨R, cap, cur, rfl, h4, h5, h6⟩
  · exact .inl h3
  · exact .inr ⟨R, cap, cur, rfl, h4, (hk.block R (h1.lt R rfl).2 (by omega)).trans h5, h6⟩
theorem RowsX.up {base : Nat} {w w' : World} {n : Nat} {ks : List (Tm n)} {v : Value} {xs : List Value} (h : RowsX base w ks v xs) (hb : Below w.heap.size w w') : RowsX base w' ks v xs := by
  obtain ⟨h1, h2⟩ := h
  refine ⟨⟨h1.1, ?_⟩, h2.keep (fun b hb' => hb.block b hb'.2.1) fun b hb' => ⟨hb'.1, Nat.lt_of_lt_of_le hb'.2.1 hb.size, hb'.2.2⟩⟩
  rcases h1.2 with h3 | ⟨R, cap, cur, rfl, h4, h5, h6⟩
  · exact .inl h3
  · exact .inr ⟨R, cap, cur, rfl, h4, (hb.block R (h1.lt R rfl).2).trans h5, h6⟩
theorem RowsX.lower {base base' : Nat} {w : World} {n : Nat} {ks : List (Tm n)} {v : Value} {xs : List Value} (h : RowsX base w ks v xs) (hb : base' ≤ base) : RowsX base' w ks v xs := by
  obtain ⟨h1, h2⟩ := h
  refine ⟨⟨h1.1, ?_⟩, h2.keep (fun _ _ => rfl) fun b hb' => ⟨Nat.le_trans hb hb'.1, hb'.2⟩⟩
  rcases h1.2 with h3 | ⟨R, cap, cur, rfl, h4, h5, h6⟩
  · exact .inl h3
  · exact .inr ⟨R, cap, cur, rfl, by omega, h5, h6⟩
/-- Behind the append: the old terms and the new ones. -/
theorem RowsX.push {base : Nat} {w w' : World} {n : Nat} {ks ls : List (Tm n)} {v : Value} {xs ys : List Value} {R cap : Nat} (h : RowsX base w ks v xs) (hl : CellsAt (Off base v w) w ls ys)
    (ho : w'.ownsRow base 26 4 (.slice (some ⟨R, 0, none⟩) (ks.length + ls.length) cap) (ks.length + ls.length) (xs ++ ys)) (hg : w.grownBy w' v.ownBlock) (hR : v.ownBlock = some R ∨ R = w.heap.size) :
    RowsX base w' (ks ++ ls) (.slice (some ⟨R, 0, none⟩) (ks.length + ls.length) cap) (xs ++ ys) := by
  refine ⟨by rw [List.length_append]; exact ho, (h.2.append hl).keep (fun b hb => hg.block b hb.2.1 fun e => hb.2.2 e.symm) fun b hb => ⟨hb.1, Nat.lt_of_lt_of_le hb.2.1 hg.size, ?_⟩⟩
  show some R ≠ some b
  intro e
  injection e with e
  rcases hR with hR | hR
  · exact hb.2.2 (by rw [hR, e])
  · have := hb.2.1; omega

/-- A row of terms as a slice that is read. -/
theorem RowsX.sat {base : Nat} {w : World} {n : Nat} {ks : List (Tm n)} {v : Value} {xs : List Value} (h : RowsX base w ks v xs) (hl : ks.length ≤ 100000) : SAt (fun b => base ≤ b ∧ b < w.heap.size) w (TAt (fun b => base ≤ b ∧ b < w.heap.size) w n) ks v := by
  obtain ⟨h1, h2⟩ := h
  rcases own_place h1 with ⟨rfl, h3⟩ | ⟨g, cap, rfl, h3, h4, h5, h6⟩
  · exact ⟨none, 0, by rw [h3], by omega, by omega, fun i hi => by omega⟩
  · refine ⟨some ⟨g, 0, none⟩, cap, rfl, h5, by omega, fun i hi => ?_⟩
    obtain ⟨d0, d1, d2, d3, e0, e1, e2, e3, ht⟩ := h2.2 i hi
    refine ⟨g, 0, d0, d1, d2, d3, rfl, ⟨h3, h4⟩, ?_, ?_, ?_, ?_, ht.mono fun b hb => ⟨hb.1, hb.2.1⟩⟩ <;> rw [Nat.zero_add, h6 _ (by omega)] <;> assumption

theorem list_of' {α : Type} {R : Nat → α → Prop} : ∀ (len : Nat), (∀ i, i < len → ∃ t, R i t) → ∃ ks : List α, ks.length = len ∧ ∀ i (h : i < ks.length), R i ks[i]
  | 0, _ => ⟨[], rfl, fun i h => by simp at h⟩
  | len + 1, H => by
    obtain ⟨ks, h1, h2⟩ := list_of' len fun i h => H i (by omega)
    obtain ⟨t, ht⟩ := H len (by omega)
    refine ⟨ks ++ [t], by simp [h1], fun i h => ?_⟩
    by_cases hi : i < ks.length
    · rw [List.getElem_append_left hi]; exact h2 i hi
    · have : i = ks.length := by simp at h; omega
      subst this
      simp only [List.getElem_concat_length]
      rw [h1]; exact ht

/-- The same tree, held deeper. -/
theorem TAt.deeper {S : Nat → Prop} {w : World} : ∀ {n : Nat} {t : Tm n} {a b c d : Value}, TAt S w n t a b c d → ∃ t' : Tm (n + 1), TAt S w (n + 1) t' a b c d := by
  intro n
  induction n with
  | zero => intro t; exact t.elim
  | succ n ih =>
    rintro ⟨k, m, s, ks⟩ a b c d ⟨h0, h1, h2, hk1, hm, hs, a', cap, h3, h4, h5, h6⟩
    obtain ⟨ls, hll, hls⟩ := list_of' (α := Tm (n + 1)) (R := fun i t => ∃ b off d0 d1 d2 d3, a' = some ⟨b, off, none⟩ ∧ S b ∧ w.cell? ⟨b, off + i * 4, none⟩ = some d0 ∧ w.cell? ⟨b, off + i * 4 + 1, none⟩ = some d1 ∧
        w.cell? ⟨b, off + i * 4 + 2, none⟩ = some d2 ∧ w.cell? ⟨b, off + i * 4 + 3, none⟩ = some d3 ∧ TAt S w (n + 1) t d0 d1 d2 d3) ks.length fun i hi => by
      obtain ⟨b, off, d0, d1, d2, d3, g0, g1, g2, g3, g4, g5, ht⟩ := h6 i hi
      obtain ⟨t', ht'⟩ := ih ht
      exact ⟨t', b, off, d0, d1, d2, d3, g0, g1, g2, g3, g4, g5, ht'⟩
    exact ⟨(k, m, s, ls), h0, h1, h2, hk1, hm, hs, a', cap, by rw [hll]; exact h3, by omega, by omega, fun i hi => hls i hi⟩
theorem TAt.deep {S : Nat → Prop} {w : World} {n : Nat} {t : Tm n} {a b c d : Value} (h : TAt S w n t a b c d) (k : Nat) : ∃ t' : Tm (n + k), TAt S w (n + k) t' a b c d := by
  induction k with
  | zero => exact ⟨t, h⟩
  | succ k ih => obtain ⟨_, h'⟩ := ih; exact h'.deeper

end Go.Proofs.Ytjhdljmghhdhgaa
