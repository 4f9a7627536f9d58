/- The makers of terms; an atom's name drawn; a cursor made. -/
import Derived.Test.YtcgbonlffcpofaaGreatDoorQ3
import Derived.Deep.RegionWith
import Derived.Lib.AppendZeros
import Derived.Deep.RegionLaw
import Derived.Test.YtcgbonlffcpofaaGreatDoorQ4
namespace Go.Proofs.YtcgbonlffcpofaaGreatDoor
open Go.RowKit Go.Deep

theorem mk_int (n : Int) (w : World) : Calls Tryz.prog 28 #[.int .i64 n] w fun e w' => e = .returned (.agg #[.int .i64 1, .int .i64 n, .string ⟨#[]⟩, .slice none 0 0]) ∧ Below w.heap.size w w' := by
  go_enter Tryz.func28, Tryz.ntmps28
  go_wp2_with fail
  exact bodyPost_ret (v := .agg #[.int .i64 1, .int .i64 n, .string ⟨#[]⟩, .slice none 0 0]) (by simp [results, Tryz.results28, go_sem]) rfl ⟨rfl, (Below.refl _ _).alloc (Nat.le_refl _) _⟩
theorem mk_atom (s : ByteArray) (w : World) : Calls Tryz.prog 55 #[.string s] w fun e w' => e = .returned (.agg #[.int .i64 2, .int .i64 0, .string s, .slice none 0 0]) ∧ Below w.heap.size w w' := by
  go_enter Tryz.func55, Tryz.ntmps55
  go_wp2_with fail
  exact bodyPost_ret (v := .agg #[.int .i64 2, .int .i64 0, .string s, .slice none 0 0]) (by simp [results, Tryz.results55, go_sem]) rfl ⟨rfl, (Below.refl _ _).alloc (Nat.le_refl _) _⟩
theorem mk_bin (s : ByteArray) (w : World) : Calls Tryz.prog 43 #[.string s] w fun e w' => e = .returned (.agg #[.int .i64 9, .int .i64 0, .string s, .slice none 0 0]) ∧ Below w.heap.size w w' := by
  go_enter Tryz.func43, Tryz.ntmps43
  go_wp2_with fail
  exact bodyPost_ret (v := .agg #[.int .i64 9, .int .i64 0, .string s, .slice none 0 0]) (by simp [results, Tryz.results43, go_sem]) rfl ⟨rfl, (Below.refl _ _).alloc (Nat.le_refl _) _⟩
theorem mk_list (a : Option Addr) (l c : Nat) (w : World) : Calls Tryz.prog 59 #[.slice a l c] w fun e w' => e = .returned (.agg #[.int .i64 8, .int .i64 0, .string ⟨#[]⟩, .slice a l c]) ∧ Below w.heap.size w w' := by
  go_enter Tryz.func59, Tryz.ntmps59
  go_wp2_with fail
  exact bodyPost_ret (v := .agg #[.int .i64 8, .int .i64 0, .string ⟨#[]⟩, .slice a l c]) (by simp [results, Tryz.results59, go_sem]) rfl ⟨rfl, (Below.refl _ _).alloc (Nat.le_refl _) _⟩
theorem mk_tuple (a : Option Addr) (l c : Nat) (w : World) : Calls Tryz.prog 58 #[.slice a l c] w fun e w' => e = .returned (.agg #[.int .i64 6, .int .i64 0, .string ⟨#[]⟩, .slice a l c]) ∧ Below w.heap.size w w' := by
  go_enter Tryz.func58, Tryz.ntmps58
  go_wp2_with fail
  exact bodyPost_ret (v := .agg #[.int .i64 6, .int .i64 0, .string ⟨#[]⟩, .slice a l c]) (by simp [results, Tryz.results58, go_sem]) rfl ⟨rfl, (Below.refl _ _).alloc (Nat.le_refl _) _⟩

/-- Literals of small texts, of ints. -/
def isStr : Value → Bool | .string s => decide (s.size ≤ 100) | _ => false
def isI64 : Value → Bool | .int .i64 n => decide (-9223372036854775808 ≤ n) && decide (n ≤ 9223372036854775807) | _ => false
theorem lit_block {g : Nat} {w w1 : World} {arr : Array Value} {e : TypeId} (hg : g < w.heap.size) (hk : Kept g (w.alloc (.cells arr e)) w1) (r : Nat) : w1.cell? ⟨w.heap.size, r, none⟩ = arr[r]? := by
  have h := (hk.block w.heap.size (by simp) (by omega)).trans (heap_new w _)
  exact cell_of_heap h r
theorem lit_str {g : Nat} {w w1 : World} {arr : Array Value} {e : TypeId} (hg : g < w.heap.size) (hk : Kept g (w.alloc (.cells arr e)) w1) (h : arr.toList.all isStr = true) {r : Nat} (hr : r < arr.size) :
    ∃ s : ByteArray, w1.cell? ⟨w.heap.size, r, none⟩ = some (.string s) ∧ s.size ≤ 100 := by
  have h1 := List.all_eq_true.1 h arr[r] (by simp)
  rw [lit_block hg hk, Array.getElem?_eq_getElem hr]
  generalize arr[r] = x at h1
  cases x <;> simp [isStr] at h1
  exact ⟨_, rfl, h1⟩
theorem lit_int {g : Nat} {w w1 : World} {arr : Array Value} {e : TypeId} (hg : g < w.heap.size) (hk : Kept g (w.alloc (.cells arr e)) w1) (h : arr.toList.all isI64 = true) {r : Nat} (hr : r < arr.size) :
    ∃ n : Int, w1.cell? ⟨w.heap.size, r, none⟩ = some (.int .i64 n) ∧ In64 n := by
  have h1 := List.all_eq_true.1 h arr[r] (by simp)
  rw [lit_block hg hk, Array.getElem?_eq_getElem hr]
  generalize arr[r] = x at h1
  cases x with
  | int k n => cases k <;> simp [isI64] at h1; exact ⟨_, rfl, h1⟩
  | _ => simp [isI64] at h1

end Go.Proofs.YtcgbonlffcpofaaGreatDoor
/- Rows of drawn terms: what they are, what an append makes of them. -/
namespace Go.Proofs.YtcgbonlffcpofaaGreatDoor
open Go.RowKit Go.Deep

theorem infoT : (Tryz.prog.info? 32).map (fun i => (i.zero, i.size, i.bytes)) = some (some (.agg #[.int .i64 0, .int .i64 0, .string ⟨#[]⟩, .slice none 0 0]), 4, 56) := by kernel_rfl

/-- append of m terms onto an own row: where the new row lies, too. -/
theorem run_append_terms (base : Nat) (v : Value) (n : Nat) (xs : List Value) (w : World) (hown : w.ownsRow base 32 4 v n xs) (hn : n ≤ 100000)
    (a : Addr) (m c : Nat) (news : List Value) (hl : news.length = m * 4) (hm : 0 < m ∧ m ≤ 100000) (hnews : ∀ j u, news[j]? = some u → w.cell? (a.add j) = some u) (h1 : ∀ u ∈ news, u.oneCell' = true) (hbase : base ≤ w.heap.size) (ty : TypeId) :
    ∃ R cap w', (Builtin.append_ #[30, 30] ty #[v, .slice (some a) m c]).run Tryz.prog w = .ok (.slice (some ⟨R, 0, none⟩) (n + m) cap) w' ∧ w'.ownsRow base 32 4 (.slice (some ⟨R, 0, none⟩) (n + m) cap) (n + m) (xs ++ news) ∧
      w.grownBy w' v.ownBlock ∧ (v.ownBlock = some R ∨ R = w.heap.size) := by
  obtain ⟨i, hi, hz, hs, hb⟩ := info_parts infoT
  have h63 : n + m ≤ maxLen := by unfold maxLen; omega
  obtain ⟨v', w', hr, ho, hg, hnil⟩ := run_append_own (P := Tryz.prog) w base 30 ty 32 i _ 4 56 Tryz.underlying30 hi hz hs hb rfl (by decide) v n xs hown a m c news hl hnews h1 h63 (by omega) hbase
  have hne : v' ≠ .slice none 0 0 := fun h => by have := (hnil.1 h).2; omega
  obtain ⟨R, cap, cur, rfl, hR⟩ : ∃ R cap, ∃ cur : Array Value, v' = .slice (some ⟨R, 0, none⟩) (n + m) cap ∧ w'.heap[R]? = some (.cells cur 32 (0, 0)) := by
    rcases ho.2 with ⟨h, _⟩ | ⟨R, cap, cur, h, _, h2, _⟩
    · exact absurd h hne
    · exact ⟨R, cap, cur, h, h2⟩
  refine ⟨R, cap, w', hr, ho, hg, ?_⟩
  rcases hown.2 with ⟨rfl, rfl⟩ | ⟨g, cp, cr, rfl, hbg, hh, hnc, hcm, hcs, htake⟩
  · have hx : xs = [] := List.eq_nil_of_length_eq_zero (by simpa using hown.1)
    subst hx
    have h2 := run_append_nil (P := Tryz.prog) w 30 ty 32 i _ Tryz.underlying30 hi hz a m c news (by rw [hs]; exact hl) hnews hm.1 (by omega) (by rw [hb]; omega)
    rw [hr] at h2
    injection h2 with h2 _
    simp at h2
    exact .inr h2.1
  · by_cases hroom : n + m ≤ cp
    · have h2 := run_append_room (P := Tryz.prog) w 30 ty 32 i Tryz.underlying30 hi g n cp cr hh a m c news (by rw [hs]; exact hl) hnews h1 hroom (by rw [hs, hl, hcs]; omega)
      rw [hr] at h2
      injection h2 with h2 _
      simp at h2
      exact .inl (by rw [h2.1]; rfl)
    · have h2 := run_append_grow (P := Tryz.prog) w 30 ty 32 i _ Tryz.underlying30 hi hz ⟨g, 0, none⟩ n cp xs (by rw [hs]; exact hown.1) (hown.cells (g := g) rfl) a m c news (by rw [hs]; exact hl) hnews (by omega) (by omega)
        (by rw [hb]; exact growslice_fits (by omega) (by omega))
      rw [hr] at h2
      injection h2 with h2 _
      simp at h2
      exact .inr h2.1

/-- The blocks from base on that are there, the row's own left out. -/
abbrev Off (base : Nat) (v : Value) (w : World) : Nat → Prop := fun b => base ≤ b ∧ b < w.heap.size ∧ v.ownBlock ≠ some b

/-- A row's cells stand for terms. -/
def CellsAt (S : Nat → Prop) (w : World) {n : Nat} (ks : List (Tm n)) (xs : List Value) : Prop :=
  xs.length = ks.length * 4 ∧ ∀ i (h : i < ks.length), ∃ d0 d1 d2 d3, xs[i * 4]? = some d0 ∧ xs[i * 4 + 1]? = some d1 ∧ xs[i * 4 + 2]? = some d2 ∧ xs[i * 4 + 3]? = some d3 ∧ TAt S w n ks[i] d0 d1 d2 d3

/-- An own row of terms. -/
def RowsX (base : Nat) (w : World) {n : Nat} (ks : List (Tm n)) (v : Value) (xs : List Value) : Prop :=
  w.ownsRow base 32 4 v ks.length xs ∧ CellsAt (Off base v w) w ks xs

theorem own_place {base : Nat} {w : World} {v : Value} {n : Nat} {xs : List Value} (h : w.ownsRow base 32 4 v n xs) : (v = .slice none 0 0 ∧ n = 0) ∨ ∃ g cap, v = .slice (some ⟨g, 0, none⟩) n cap ∧ base ≤ g ∧ g < w.heap.size ∧ n ≤ cap ∧ ∀ j, j < n * 4 → w.cell? ⟨g, j, none⟩ = xs[j]? := by
  rcases h.2 with h1 | ⟨g, cap, cur, rfl, h2, h3, h4, h5⟩
  · exact .inl h1
  · exact .inr ⟨g, cap, rfl, h2, (h.lt g rfl).2, h4, fun j hj => h.cellAt j hj⟩

theorem CellsAt.keep {S S' : Nat → Prop} {w w' : World} {n : Nat} {ks : List (Tm n)} {xs : List Value} (h : CellsAt S w ks xs) (hk : ∀ b, S b → w'.heap[b]? = w.heap[b]?) (hS : ∀ b, S b → S' b) : CellsAt S' w' ks xs := by
  refine ⟨h.1, fun i hi => ?_⟩
  obtain ⟨d0, d1, d2, d3, e0, e1, e2, e3, ht⟩ := h.2 i hi
  exact ⟨d0, d1, d2, d3, e0, e1, e2, e3, (ht.keep hk).mono hS⟩
theorem CellsAt.append {S : Nat → Prop} {w : World} {n : Nat} {ks ls : List (Tm n)} {xs ys : List Value} (h : CellsAt S w ks xs) (h' : CellsAt S w ls ys) : CellsAt S w (ks ++ ls) (xs ++ ys) := by
  have hx := h.1
  refine ⟨by rw [List.length_append, List.length_append, h.1, h'.1]; omega, fun i hi => ?_⟩
  by_cases hlt : i < ks.length
  · obtain ⟨d0, d1, d2, d3, e0, e1, e2, e3, ht⟩ := h.2 i hlt
    refine ⟨d0, d1, d2, d3, ?_, ?_, ?_, ?_, by rw [List.getElem_append_left hlt]; exact ht⟩ <;> rw [List.getElem?_append_left (by omega)] <;> assumption
  · have hi' : i - ks.length < ls.length := by rw [List.length_append] at hi; omega
    obtain ⟨d0, d1, d2, d3, e0, e1, e2, e3, ht⟩ := h'.2 (i - ks.length) hi'
    refine ⟨d0, d1, d2, d3, ?_, ?_, ?_, ?_, by rw [List.getElem_append_right (by omega)]; exact ht⟩ <;> rw [List.getElem?_append_right (by omega), hx]
    · rw [show i * 4 - ks.length * 4 = (i - ks.length) * 4 by omega]; exact e0
    · rw [show i * 4 + 1 - ks.length * 4 = (i - ks.length) * 4 + 1 by omega]; exact e1
    · rw [show i * 4 + 2 - ks.length * 4 = (i - ks.length) * 4 + 2 by omega]; exact e2
    · rw [show i * 4 + 3 - ks.length * 4 = (i - ks.length) * 4 + 3 by omega]; exact e3
theorem CellsAt.one {S : Nat → Prop} {w : World} {n : Nat} {t : Tm n} {d0 d1 d2 d3 : Value} (h : TAt S w n t d0 d1 d2 d3) : CellsAt S w [t] [d0, d1, d2, d3] := by
  refine ⟨rfl, fun i hi => ?_⟩
  obtain rfl : i = 0 := by simp at hi; omega
  exact ⟨d0, d1, d2, d3, rfl, rfl, rfl, rfl, h⟩
theorem CellsAt.nil {S : Nat → Prop} {w : World} {n : Nat} : CellsAt S w ([] : List (Tm n)) [] := ⟨rfl, fun i hi => by simp at hi⟩

/-- What was an own row is one still where only block g, below it, was written. -/
theorem RowsX.kept {base g : Nat} {w w' : World} {n : Nat} {ks : List (Tm n)} {v : Value} {xs : List Value} (h : RowsX base w ks v xs) (hk : Kept g w w') (hg : g < base) : RowsX base w' ks v xs := by
  obtain ⟨h1, h2⟩ := h
  refine ⟨⟨h1.1, ?_⟩, h2.keep (fun b hb => hk.block b hb.2.1 (by have := hb.1; omega)) fun b hb => ⟨hb.1, Nat.lt_of_lt_of_le hb.2.1 hk.size, hb.2.2⟩⟩
  rcases h1.2 with h3 | ⟨R, cap, cur, rfl, h4, h5, h6⟩
  · exact .inl h3
  · exact .inr ⟨R, cap, cur, rfl, h4, (hk.block R (h1.lt R rfl).2 (by omega)).trans h5, h6⟩
theorem RowsX.up {base : Nat} {w w' : World} {n : Nat} {ks : List (Tm n)} {v : Value} {xs : List Value} (h : RowsX base w ks v xs) (hb : Below w.heap.size w w') : RowsX base w' ks v xs := by
  obtain ⟨h1, h2⟩ := h
  refine ⟨⟨h1.1, ?_⟩, h2.keep (fun b hb' => hb.block b hb'.2.1) fun b hb' => ⟨hb'.1, Nat.lt_of_lt_of_le hb'.2.1 hb.size, hb'.2.2⟩⟩
  rcases h1.2 with h3 | ⟨R, cap, cur, rfl, h4, h5, h6⟩
  · exact .inl h3
  · exact .inr ⟨R, cap, cur, rfl, h4, (hb.block R (h1.lt R rfl).2).trans h5, h6⟩
theorem RowsX.lower {base base' : Nat} {w : World} {n : Nat} {ks : List (Tm n)} {v : Value} {xs : List Value} (h : RowsX base w ks v xs) (hb : base' ≤ base) : RowsX base' w ks v xs := by
  obtain ⟨h1, h2⟩ := h
  refine ⟨⟨h1.1, ?_⟩, h2.keep (fun _ _ => rfl) fun b hb' => ⟨Nat.le_trans hb hb'.1, hb'.2⟩⟩
  rcases h1.2 with h3 | ⟨R, cap, cur, rfl, h4, h5, h6⟩
  · exact .inl h3
  · exact .inr ⟨R, cap, cur, rfl, by omega, h5, h6⟩
/-- Behind the append: the old terms and the new ones. -/
theorem RowsX.push {base : Nat} {w w' : World} {n : Nat} {ks ls : List (Tm n)} {v : Value} {xs ys : List Value} {R cap : Nat} (h : RowsX base w ks v xs) (hl : CellsAt (Off base v w) w ls ys)
    (ho : w'.ownsRow base 32 4 (.slice (some ⟨R, 0, none⟩) (ks.length + ls.length) cap) (ks.length + ls.length) (xs ++ ys)) (hg : w.grownBy w' v.ownBlock) (hR : v.ownBlock = some R ∨ R = w.heap.size) :
    RowsX base w' (ks ++ ls) (.slice (some ⟨R, 0, none⟩) (ks.length + ls.length) cap) (xs ++ ys) := by
  refine ⟨by rw [List.length_append]; exact ho, (h.2.append hl).keep (fun b hb => hg.block b hb.2.1 fun e => hb.2.2 e.symm) fun b hb => ⟨hb.1, Nat.lt_of_lt_of_le hb.2.1 hg.size, ?_⟩⟩
  show some R ≠ some b
  intro e
  injection e with e
  rcases hR with hR | hR
  · exact hb.2.2 (by rw [hR, e])
  · have := hb.2.1; omega

/-- A row of terms as a slice that is read. -/
theorem RowsX.sat {base : Nat} {w : World} {n : Nat} {ks : List (Tm n)} {v : Value} {xs : List Value} (h : RowsX base w ks v xs) (hl : ks.length ≤ 100000) : SAt (fun b => base ≤ b ∧ b < w.heap.size) w (TAt (fun b => base ≤ b ∧ b < w.heap.size) w n) ks v := by
  obtain ⟨h1, h2⟩ := h
  rcases own_place h1 with ⟨rfl, h3⟩ | ⟨g, cap, rfl, h3, h4, h5, h6⟩
  · exact ⟨none, 0, by rw [h3], by omega, by omega, fun i hi => by omega⟩
  · refine ⟨some ⟨g, 0, none⟩, cap, rfl, h5, by omega, fun i hi => ?_⟩
    obtain ⟨d0, d1, d2, d3, e0, e1, e2, e3, ht⟩ := h2.2 i hi
    refine ⟨g, 0, d0, d1, d2, d3, rfl, ⟨h3, h4⟩, ?_, ?_, ?_, ?_, ht.mono fun b hb => ⟨hb.1, hb.2.1⟩⟩ <;> rw [Nat.zero_add, h6 _ (by omega)] <;> assumption

theorem list_of' {α : Type} {R : Nat → α → Prop} : ∀ (len : Nat), (∀ i, i < len → ∃ t, R i t) → ∃ ks : List α, ks.length = len ∧ ∀ i (h : i < ks.length), R i ks[i]
  | 0, _ => ⟨[], rfl, fun i h => by simp at h⟩
  | len + 1, H => by
    obtain ⟨ks, h1, h2⟩ := list_of' len fun i h => H i (by omega)
    obtain ⟨t, ht⟩ := H len (by omega)
    refine ⟨ks ++ [t], by simp [h1], fun i h => ?_⟩
    by_cases hi : i < ks.length
    · rw [List.getElem_append_left hi]; exact h2 i hi
    · have : i = ks.length := by simp at h; omega
      subst this
      simp only [List.getElem_concat_length]
      rw [h1]; exact ht

/-- The same tree, held deeper. -/
theorem TAt.deeper {S : Nat → Prop} {w : World} : ∀ {n : Nat} {t : Tm n} {a b c d : Value}, TAt S w n t a b c d → ∃ t' : Tm (n + 1), TAt S w (n + 1) t' a b c d := by
  intro n
  induction n with
  | zero => intro t; exact t.elim
  | succ n ih =>
    rintro ⟨k, m, s, ks⟩ a b c d ⟨h0, h1, h2, hk1, hm, hs, a', cap, h3, h4, h5, h6⟩
    obtain ⟨ls, hll, hls⟩ := list_of' (α := Tm (n + 1)) (R := fun i t => ∃ b off d0 d1 d2 d3, a' = some ⟨b, off, none⟩ ∧ S b ∧ w.cell? ⟨b, off + i * 4, none⟩ = some d0 ∧ w.cell? ⟨b, off + i * 4 + 1, none⟩ = some d1 ∧
        w.cell? ⟨b, off + i * 4 + 2, none⟩ = some d2 ∧ w.cell? ⟨b, off + i * 4 + 3, none⟩ = some d3 ∧ TAt S w (n + 1) t d0 d1 d2 d3) ks.length fun i hi => by
      obtain ⟨b, off, d0, d1, d2, d3, g0, g1, g2, g3, g4, g5, ht⟩ := h6 i hi
      obtain ⟨t', ht'⟩ := ih ht
      exact ⟨t', b, off, d0, d1, d2, d3, g0, g1, g2, g3, g4, g5, ht'⟩
    exact ⟨(k, m, s, ls), h0, h1, h2, hk1, hm, hs, a', cap, by rw [hll]; exact h3, by omega, by omega, fun i hi => hls i hi⟩
theorem TAt.deep {S : Nat → Prop} {w : World} {n : Nat} {t : Tm n} {a b c d : Value} (h : TAt S w n t a b c d) (k : Nat) : ∃ t' : Tm (n + k), TAt S w (n + k) t' a b c d := by
  induction k with
  | zero => exact ⟨t, h⟩
  | succ k ih => obtain ⟨_, h'⟩ := ih; exact h'.deeper

end Go.Proofs.YtcgbonlffcpofaaGreatDoor
/- Rows of parts that grow: what they are, what an append makes of them. -/
namespace Go.Proofs.YtcgbonlffcpofaaGreatDoor
open Go.RowKit Go.Deep

theorem infoG : (Tryz.prog.info? 34).map (fun i => (i.zero, i.size, i.bytes)) = some (some (.agg zero9), 9, 88) := by kernel_rfl

/-- append of m parts onto an own row: where the new row lies, too. -/
theorem run_append_segs (base : Nat) (v : Value) (n : Nat) (xs : List Value) (w : World) (hown : w.ownsRow base 34 9 v n xs) (hn : n ≤ 100000)
    (a : Addr) (m c : Nat) (news : List Value) (hl : news.length = m * 9) (hm : 0 < m ∧ m ≤ 100000) (hnews : ∀ j u, news[j]? = some u → w.cell? (a.add j) = some u) (h1 : ∀ u ∈ news, u.oneCell' = true) (hbase : base ≤ w.heap.size) (ty : TypeId) :
    ∃ R cap w', (Builtin.append_ #[24, 24] ty #[v, .slice (some a) m c]).run Tryz.prog w = .ok (.slice (some ⟨R, 0, none⟩) (n + m) cap) w' ∧ w'.ownsRow base 34 9 (.slice (some ⟨R, 0, none⟩) (n + m) cap) (n + m) (xs ++ news) ∧
      w.grownBy w' v.ownBlock ∧ (v.ownBlock = some R ∨ R = w.heap.size) := by
  obtain ⟨i, hi, hz, hs, hb⟩ := info_parts infoG
  have h63 : n + m ≤ maxLen := by unfold maxLen; omega
  obtain ⟨v', w', hr, ho, hg, hnil⟩ := run_append_own (P := Tryz.prog) w base 24 ty 34 i _ 9 88 Tryz.underlying24 hi hz hs hb rfl (by decide) v n xs hown a m c news hl hnews h1 h63 (by omega) hbase
  have hne : v' ≠ .slice none 0 0 := fun h => by have := (hnil.1 h).2; omega
  obtain ⟨R, cap, cur, rfl, hR⟩ : ∃ R cap, ∃ cur : Array Value, v' = .slice (some ⟨R, 0, none⟩) (n + m) cap ∧ w'.heap[R]? = some (.cells cur 34 (0, 0)) := by
    rcases ho.2 with ⟨h, _⟩ | ⟨R, cap, cur, h, _, h2, _⟩
    · exact absurd h hne
    · exact ⟨R, cap, cur, h, h2⟩
  refine ⟨R, cap, w', hr, ho, hg, ?_⟩
  rcases hown.2 with ⟨rfl, rfl⟩ | ⟨g, cp, cr, rfl, hbg, hh, hnc, hcm, hcs, htake⟩
  · have hx : xs = [] := List.eq_nil_of_length_eq_zero (by simpa using hown.1)
    subst hx
    have h2 := run_append_nil (P := Tryz.prog) w 24 ty 34 i _ Tryz.underlying24 hi hz a m c news (by rw [hs]; exact hl) hnews hm.1 (by omega) (by rw [hb]; omega)
    rw [hr] at h2
    injection h2 with h2 _
    simp at h2
    exact .inr h2.1
  · by_cases hroom : n + m ≤ cp
    · have h2 := run_append_room (P := Tryz.prog) w 24 ty 34 i Tryz.underlying24 hi g n cp cr hh a m c news (by rw [hs]; exact hl) hnews h1 hroom (by rw [hs, hl, hcs]; omega)
      rw [hr] at h2
      injection h2 with h2 _
      simp at h2
      exact .inl (by rw [h2.1]; rfl)
    · have h2 := run_append_grow (P := Tryz.prog) w 24 ty 34 i _ Tryz.underlying24 hi hz ⟨g, 0, none⟩ n cp xs (by rw [hs]; exact hown.1) (hown.cells (g := g) rfl) a m c news (by rw [hs]; exact hl) hnews (by omega) (by omega)
        (by rw [hb]; exact growslice_fits (by omega) (by omega))
      rw [hr] at h2
      injection h2 with h2 _
      simp at h2
      exact .inr h2.1

/-- A row's cells stand for parts. -/
def GCells (S : Nat → Prop) (w : World) {n : Nat} (gs : List (SgT n)) (xs : List Value) : Prop :=
  xs.length = gs.length * 9 ∧ ∀ i (h : i < gs.length), ∃ ds, ds.length = 9 ∧ (∀ j, j < 9 → xs[i * 9 + j]? = ds[j]?) ∧ SgAt S w n gs[i] ds
theorem GCells.keep {S S' : Nat → Prop} {w w' : World} {n : Nat} {gs : List (SgT n)} {xs : List Value} (h : GCells S w gs xs) (hk : ∀ b, S b → w'.heap[b]? = w.heap[b]?) (hS : ∀ b, S b → S' b) : GCells S' w' gs xs := by
  refine ⟨h.1, fun i hi => ?_⟩
  obtain ⟨ds, e1, e2, ht⟩ := h.2 i hi
  exact ⟨ds, e1, e2, (ht.keep hk).mono hS⟩
theorem GCells.push {S : Nat → Prop} {w : World} {n : Nat} {gs : List (SgT n)} {g : SgT n} {xs ds : List Value} (h : GCells S w gs xs) (hd : ds.length = 9) (h' : SgAt S w n g ds) : GCells S w (gs ++ [g]) (xs ++ ds) := by
  have hx := h.1
  refine ⟨by rw [List.length_append, List.length_append, h.1, hd]; simp; omega, fun i hi => ?_⟩
  by_cases hlt : i < gs.length
  · obtain ⟨es, e1, e2, ht⟩ := h.2 i hlt
    refine ⟨es, e1, fun j hj => ?_, by rw [List.getElem_append_left hlt]; exact ht⟩
    rw [List.getElem?_append_left (by omega)]; exact e2 j hj
  · have hi' : i = gs.length := by simp at hi; omega
    subst hi'
    refine ⟨ds, hd, fun j hj => ?_, by simp only [List.getElem_concat_length]; exact h'⟩
    rw [List.getElem?_append_right (by omega), hx, Nat.add_sub_cancel_left]
theorem GCells.nil {S : Nat → Prop} {w : World} {n : Nat} : GCells S w ([] : List (SgT n)) [] := ⟨rfl, fun i hi => by simp at hi⟩

/-- An own row of parts. -/
def RowsG (base : Nat) (w : World) {n : Nat} (gs : List (SgT n)) (v : Value) (xs : List Value) : Prop :=
  w.ownsRow base 34 9 v gs.length xs ∧ GCells (Off base v w) w gs xs ∧ ∃ R cap, v = .slice (some ⟨R, 0, none⟩) gs.length cap
theorem RowsG.kept {base g : Nat} {w w' : World} {n : Nat} {gs : List (SgT n)} {v : Value} {xs : List Value} (h : RowsG base w gs v xs) (hk : Kept g w w') (hg : g < base) : RowsG base w' gs v xs := by
  obtain ⟨h1, h2, h0⟩ := h
  refine ⟨⟨h1.1, ?_⟩, h2.keep (fun b hb => hk.block b hb.2.1 (by have := hb.1; omega)) fun b hb => ⟨hb.1, Nat.lt_of_lt_of_le hb.2.1 hk.size, hb.2.2⟩, h0⟩
  rcases h1.2 with h3 | ⟨R, cap, cur, rfl, h4, h5, h6⟩
  · exact .inl h3
  · exact .inr ⟨R, cap, cur, rfl, h4, (hk.block R (h1.lt R rfl).2 (by omega)).trans h5, h6⟩
theorem RowsG.up {base : Nat} {w w' : World} {n : Nat} {gs : List (SgT n)} {v : Value} {xs : List Value} (h : RowsG base w gs v xs) (hb : Below w.heap.size w w') : RowsG base w' gs v xs := by
  obtain ⟨h1, h2, h0⟩ := h
  refine ⟨⟨h1.1, ?_⟩, h2.keep (fun b hb' => hb.block b hb'.2.1) fun b hb' => ⟨hb'.1, Nat.lt_of_lt_of_le hb'.2.1 hb.size, hb'.2.2⟩, h0⟩
  rcases h1.2 with h3 | ⟨R, cap, cur, rfl, h4, h5, h6⟩
  · exact .inl h3
  · exact .inr ⟨R, cap, cur, rfl, h4, (hb.block R (h1.lt R rfl).2).trans h5, h6⟩
theorem SgAt.shapes {S : Nat → Prop} {w : World} {n : Nat} {g : SgT n} {ds : List Value} (h : SgAt S w n g ds) : ds.length = 9 ∧ ∀ u ∈ ds, u.oneCell' = true := by
  obtain ⟨c0, c1, c2, c3, rfl, _, _, _, ht⟩ := h
  obtain ⟨k, m, s, a, l, c, rfl, rfl, rfl, rfl⟩ := ht.shape
  refine ⟨rfl, fun u hu => ?_⟩
  simp only [List.mem_cons, List.not_mem_nil, or_false] at hu
  rcases hu with rfl | rfl | rfl | rfl | rfl | rfl | rfl | rfl | rfl <;> rfl
/-- A part in a new block, put behind the row. -/
theorem RowsG.push {n base : Nat} {w1 wz : World} {gs : List (SgT n)} {xs : List Value} {kv : Value} (hX : RowsG base w1 gs kv xs) (hl : gs.length ≤ 5000) {g : SgT n} {ds : List Value} {S : Nat → Prop} (ht : SgAt S w1 n g ds) (hS : ∀ b, S b → Off base kv w1 b)
    (hz : wz.heap = (w1.alloc (.cells ds.toArray 34)).heap ∧ wz.os = w1.os ∧ wz.tape = w1.tape ∧ wz.output = w1.output) (hb : base ≤ w1.heap.size) (ty : TypeId) :
    ∃ R cap w', (Builtin.append_ #[24, 24] ty #[kv, .slice (some ⟨w1.heap.size, 0, none⟩) 1 1]).run Tryz.prog wz = .ok (.slice (some ⟨R, 0, none⟩) (gs.length + 1) cap) w' ∧
      RowsG base w' (gs ++ [g]) (.slice (some ⟨R, 0, none⟩) (gs.length + 1) cap) (xs ++ ds) ∧ Below base w1 w' := by
  have hbz : Below w1.heap.size w1 wz := ⟨hz.2.1, hz.2.2.1, hz.2.2.2, by rw [hz.1]; simp, fun k hk => by rw [hz.1]; exact Below.heap_alloc _ _ _ hk⟩
  have hXz := hX.up hbz
  have hblk : wz.heap[w1.heap.size]? = some (.cells ds.toArray 34 (0, 0)) := by rw [hz.1]; exact heap_new _ _
  have g1 : SgAt (Off base kv wz) wz n g ds := (ht.keep fun b hb => hbz.block b (hS b hb).2.1).mono fun b hb => ⟨(hS b hb).1, Nat.lt_of_lt_of_le (hS b hb).2.1 hbz.size, (hS b hb).2.2⟩
  obtain ⟨hd, hone⟩ := ht.shapes
  obtain ⟨R, cap, w', hr, ho, hg, hR⟩ := run_append_segs base kv gs.length xs wz hXz.1 (by omega) ⟨w1.heap.size, 0, none⟩ 1 1 ds (by omega) ⟨by omega, by omega⟩
    (fun j u hu => by rw [Go.WideShapes.add_plain, cell_of_heap hblk, Nat.zero_add]; simpa using hu) hone (Nat.le_trans hb hbz.size) ty
  refine ⟨R, cap, w', hr, ⟨by rw [List.length_append]; exact ho, ?_, R, cap, by rw [List.length_append]; rfl⟩, (hbz.mono hb).grown hg (Nat.le_trans hb hbz.size) fun k hk => (hXz.1.lt k hk).1⟩
  refine (hXz.2.1.push hd g1).keep (fun b hb => hg.block b hb.2.1 fun e => hb.2.2 e.symm) fun b hb => ⟨hb.1, Nat.lt_of_lt_of_le hb.2.1 hg.size, ?_⟩
  show some R ≠ some b
  intro e
  injection e with e
  rcases hR with h | h
  · exact hb.2.2 (by rw [h, e])
  · have := hb.2.1; omega

theorem RowsG.form {base n : Nat} {w : World} {gs : List (SgT n)} {v : Value} {xs : List Value} (h : RowsG base w gs v xs) : ∃ a cap, v = .slice (some ⟨a, 0, none⟩) gs.length cap := h.2.2

/-- A row of parts in one block, nothing of the parts in it. -/
def GRow (R : Nat) {n : Nat} (gs : List (SgT n)) (w : World) : Prop := (∃ N, gs.length * 9 ≤ N ∧ Row R 34 N w) ∧
  ∀ i (h : i < gs.length), ∃ ds, ds.length = 9 ∧ (∀ j, j < 9 → w.cell? ⟨R, i * 9 + j, none⟩ = ds[j]?) ∧ SgAt (fun b => b ≠ R ∧ b < w.heap.size) w n gs[i] ds
theorem RowsG.row {base n : Nat} {w : World} {gs : List (SgT n)} {v : Value} {xs : List Value} (h : RowsG base w gs v xs) : ∃ R cap, v = .slice (some ⟨R, 0, none⟩) gs.length cap ∧ gs.length ≤ cap ∧ base ≤ R ∧ GRow R gs w := by
  obtain ⟨h1, h2, R, cap, rfl⟩ := h
  rcases h1.2 with ⟨h3, _⟩ | ⟨R', cap', cur, e, h4, h5, h6, h7, h8, h9⟩
  · cases h3
  · cases e
    refine ⟨R, cap, rfl, h6, h4, ⟨_, Nat.mul_le_mul_right 9 h6, cur, h5, h8⟩, fun i hi => ?_⟩
    obtain ⟨ds, e1, e2, e3⟩ := h2.2 i hi
    refine ⟨ds, e1, fun j hj => ?_, e3.mono fun b hb => ⟨fun e => hb.2.2 (by rw [e]; rfl), hb.2.1⟩⟩
    have := h1.cells (g := R) rfl
    rw [h1.cellAt (i * 9 + j) (by have := Nat.mul_le_mul_right 9 (show i + 1 ≤ gs.length from hi); omega)]
    exact e2 j hj
theorem GRow.keep {R n : Nat} {w w' : World} {gs : List (SgT n)} (h : GRow R gs w) (hk : ∀ b, b < w.heap.size → w'.heap[b]? = w.heap[b]?) (hs : w.heap.size ≤ w'.heap.size) : GRow R gs w' := by
  obtain ⟨⟨N, h1, h2⟩, h3⟩ := h
  refine ⟨⟨N, h1, h2.keep (hk R h2.lt)⟩, fun i hi => ?_⟩
  obtain ⟨ds, e1, e2, e3⟩ := h3 i hi
  exact ⟨ds, e1, fun j hj => (World.cell?_of_block (w := w) (hk R h2.lt)).trans (e2 j hj), (e3.keep fun b hb => hk b hb.2).mono fun b hb => ⟨hb.1, Nat.lt_of_lt_of_le hb.2 hs⟩⟩
theorem GRow.up {R n : Nat} {w w' : World} {gs : List (SgT n)} (h : GRow R gs w) (hb : Below w.heap.size w w') : GRow R gs w' := h.keep hb.block hb.size
theorem GRow.sgs {R n : Nat} {w : World} {gs : List (SgT n)} {cap : Nat} (h : GRow R gs w) (hc : gs.length ≤ cap) (hl : gs.length ≤ 2 ^ 47) : SgsAt (Under w.heap.size) w n gs (.slice (some ⟨R, 0, none⟩) gs.length cap) := by
  obtain ⟨⟨N, h1, h2⟩, h3⟩ := h
  refine ⟨_, cap, rfl, hc, hl, fun i hi => ?_⟩
  obtain ⟨ds, e1, e2, e3⟩ := h3 i hi
  exact ⟨R, 0, ds, rfl, h2.lt, e1, fun j hj => by rw [Nat.zero_add]; exact e2 j hj, e3.mono fun b hb => hb.2⟩
/-- The cells of an element. -/
theorem GRow.at {R n : Nat} {w : World} {gs : List (SgT n)} (h : GRow R gs w) (i : Nat) (hi : i < gs.length) : ∃ k m s u,
    (w.cell? ⟨R, i * 9, none⟩ = some (.int .i64 gs[i].1) ∧ w.cell? ⟨R, i * 9 + 1, none⟩ = some (.int .i64 gs[i].2.1) ∧ w.cell? ⟨R, i * 9 + 2, none⟩ = some (.int .i64 gs[i].2.2.1) ∧
    w.cell? ⟨R, i * 9 + 3, none⟩ = some (.bool gs[i].2.2.2.1) ∧ w.cell? ⟨R, i * 9 + 4, none⟩ = some (.bool gs[i].2.2.2.2.1) ∧ w.cell? ⟨R, i * 9 + 5, none⟩ = some (.int .i64 k) ∧
    w.cell? ⟨R, i * 9 + 6, none⟩ = some (.int .i64 m) ∧ w.cell? ⟨R, i * 9 + 7, none⟩ = some (.string s) ∧ w.cell? ⟨R, i * 9 + 8, none⟩ = some u) ∧
    (In64 gs[i].1 ∧ In64 gs[i].2.1 ∧ In64 gs[i].2.2.1) ∧ TAt (fun b => b ≠ R ∧ b < w.heap.size) w n gs[i].2.2.2.2.2 (.int .i64 k) (.int .i64 m) (.string s) u ∧ ∀ o, w.frozen? ⟨R, o, none⟩ = false := by
  obtain ⟨⟨N, h1, h2⟩, h3⟩ := h
  obtain ⟨ds, e1, e2, c0, c1, c2, c3, rfl, i1, i2, i3, ht⟩ := h3 i hi
  obtain ⟨k, m, s, ua, ul, uc, rfl, rfl, rfl, rfl⟩ := ht.shape
  exact ⟨k, m, s, _, ⟨e2 0 (by omega), e2 1 (by omega), e2 2 (by omega), e2 3 (by omega), e2 4 (by omega), e2 5 (by omega), e2 6 (by omega), e2 7 (by omega), e2 8 (by omega)⟩, ⟨i1, i2, i3⟩, ht, fun o => h2.frozen o⟩
/-- Cells of an element stored. -/
theorem GRow.put {R n i o : Nat} {w : World} {gs : List (SgT n)} {es ds fs : List Value} {p : SgT n} (h : GRow R gs w) (hi : i < gs.length) (ho : o + es.length ≤ 9) (hd : ∀ j, j < 9 → w.cell? ⟨R, i * 9 + j, none⟩ = ds[j]?)
    (h1 : ∀ j, j < es.length → fs[o + j]? = es[j]?) (h2 : ∀ j, j < 9 → j < o ∨ o + es.length ≤ j → fs[j]? = ds[j]?) (hp : SgAt (fun b => b ≠ R ∧ b < w.heap.size) w n p fs) :
    GRow R (gs.set i p) (setL w R (i * 9 + o) es) ∧ (∀ b, b ≠ R → (setL w R (i * 9 + o) es).heap[b]? = w.heap[b]?) ∧ (setL w R (i * 9 + o) es).heap.size = w.heap.size ∧ (setL w R (i * 9 + o) es).os = w.os ∧ (setL w R (i * 9 + o) es).tape = w.tape ∧ (setL w R (i * 9 + o) es).output = w.output := by
  obtain ⟨⟨N, h3, h4⟩, h5⟩ := h
  have hm := Nat.mul_le_mul_right 9 (show i + 1 ≤ gs.length from hi)
  obtain ⟨r1, r2, r3, r4, r5⟩ := setL_facts es h4 (o := i * 9 + o) (by omega)
  have hout := fun o' h => setL_far es (w := w) (B := R) (o := i * 9 + o) (o' := o') h
  refine ⟨⟨⟨N, by rw [List.length_set]; exact h3, r1⟩, fun k hk => ?_⟩, r4, r5, r3.os, r3.tape, r3.output⟩
  rw [List.length_set] at hk
  by_cases hki : k = i
  · subst hki
    refine ⟨fs, hp.choose_spec.choose_spec.choose_spec.choose_spec.1 ▸ rfl, fun j hj => ?_, ?_⟩
    · by_cases hin : o ≤ j ∧ j < o + es.length
      · have e1 := r2 (j - o) (by omega)
        have e2 := h1 (j - o) (by omega)
        rw [show k * 9 + o + (j - o) = k * 9 + j by omega] at e1
        rw [show o + (j - o) = j by omega] at e2
        rw [e1, e2]
      · rw [hout _ (by omega), h2 j hj (by omega)]
        exact hd j hj
    · rw [List.getElem_set_self]
      exact (hp.keep fun b hb => r4 b hb.1).mono fun b hb => ⟨hb.1, by rw [r5]; exact hb.2⟩
  · obtain ⟨es', e1, e2, e3⟩ := h5 k hk
    refine ⟨es', e1, fun j hj => ?_, ?_⟩
    · rw [hout _ ?_]
      · exact e2 j hj
      · rcases Nat.lt_or_ge k i with h | h
        · have := Nat.mul_le_mul_right 9 (show k + 1 ≤ i from h); omega
        · have := Nat.mul_le_mul_right 9 (show i + 1 ≤ k by omega); omega
    · rw [List.getElem_set_ne (by omega)]
      exact (e3.keep fun b hb => r4 b hb.1).mono fun b hb => ⟨hb.1, by rw [r5]; exact hb.2⟩
  where setL_far {B o' : Nat} : ∀ (ds : List Value) {w : World} {o : Nat}, o' < o ∨ o + ds.length ≤ o' → (setL w B o ds).cell? ⟨B, o', none⟩ = w.cell? ⟨B, o', none⟩
    | [], _, _, _ => rfl
    | d :: ds, w, o, h => by
      rw [List.length_cons] at h
      exact (setL_far ds (w := w.setCell ⟨B, o, none⟩ d) (by omega)).trans (World.cell?_setCell_other _ _ _ _ (by intro e; cases e; omega))

end Go.Proofs.YtcgbonlffcpofaaGreatDoor
