/- A code that came in; big. -/
import Derived.Test.YthfjgffhncogaaaGreatQ2
import Derived.Test.YthfjgffhncogaaaGreatQ1
import Derived.Deep.RegionWith
import Derived.Lib.AppendZeros
import Derived.Deep.RegionLaw
namespace Go.Proofs.YthfjgffhncogaaaGreat
open Go.RowKit Go.Deep

/-- A code's bytes that came in. -/
def CodeIn (w : World) (L : Nat) (v : Value) : Prop :=
  ∃ a cap, v = .slice a L cap ∧ L ≤ cap ∧ cap ≤ 2 ^ 47 ∧ ∀ i, i < L → ∃ b off x, a = some ⟨b, off, none⟩ ∧ b < w.heap.size ∧ w.cell? ⟨b, off + i, none⟩ = some (.int .u8 x) ∧ 0 ≤ x ∧ x < 256
theorem CodeIn.at {w : World} {L : Nat} {v : Value} (h : CodeIn w L v) (hL : L ≤ 1048576) : CodeAt w.heap.size L v w := by
  obtain ⟨a, cap, h1, h2, h3, h4⟩ := h
  exact ⟨a, cap, h1, h2, h3, hL, h4⟩
theorem CodeIn.up {w w' : World} {L : Nat} {v : Value} (h : CodeIn w L v) (hb : Below w.heap.size w w') : CodeIn w' L v := by
  obtain ⟨a, cap, h1, h2, h3, h4⟩ := h
  refine ⟨a, cap, h1, h2, h3, fun i hi => ?_⟩
  obtain ⟨b, off, x, g1, g2, g3, g4⟩ := h4 i hi
  exact ⟨b, off, x, g1, Nat.lt_of_lt_of_le g2 hb.size, ((bcell hb) b _ g2).trans g3, g4⟩

theorem big_any (a : Option Addr) (L cap : Nat) (w : World) : Calls Tryz.prog 8 #[.slice a L cap] w fun e w' => e = .returned (.bool (decide (1048576 < L))) ∧ w' = w := by
  by_cases h : 1048576 < L
  all_goals
    go_enter Tryz.func8, Tryz.ntmps8
    go_wp2_with fail
    go_ret
    exact ⟨by simp [h]; omega, rfl⟩

end Go.Proofs.YthfjgffhncogaaaGreat
/- A code that came in, opened. -/
namespace Go.Proofs.YthfjgffhncogaaaGreat
open Go.ChangeShapes Go.WideShapes Go.ChangeAt Go.RowKit Go.Joins

theorem cellsByte : Tryz.prog.cellsOf 5 = 1 := by kernel_rfl
theorem bytesByte : Tryz.prog.bytesOf 5 = 1 := by kernel_rfl

section
variable {H : Type} {enc : TypeId × Value → H}
set_option maxRecDepth 40000 in
/-- Bytes that came in. -/
theorem open_code (W : World) (fuel : Nat) (cs : List Value) (x : DataW H × List MemPlace) (h : DataW.trod enc Tryz.prog W 0 (fun _ => true) true fuel 22 cs = some x) (hw : ∀ y ∈ x.1.weights Tryz.prog 22, y ≤ reachBytes) :
    ∃ (L : Nat) (v : Value), cs = [v] ∧ CodeIn W L v := by
  rcases DataW.trod_slice Tryz.underlying22 h with ⟨hc, _⟩ | ⟨a, len, cap, elems, rest, g, hg, hc, rfl, hb, hl, hcm, hlen, hel, hsp, _⟩
  · exact ⟨0, _, hc, none, 0, rfl, Nat.le_refl _, by omega, fun i hi => by omega⟩
  · have hrl := (hsp rfl).1
    have hwc : (elems.length + rest.length) * 1 ≤ reachBytes := by
      have := hw ((elems.length + rest.length) * 1) (by simp [DataW.weights, Tryz.underlying22, bytesByte])
      exact this
    have hR := reachBytes_lt
    have hspot : 0 < len → a.spot = none := fun h => by
      have he := hel 0 h
      rw [List.getElem?_eq_getElem (by omega)] at he
      obtain ⟨cs', hcs', _⟩ := Option.bind_eq_some_iff.1 he
      rw [cellsByte] at hcs'
      obtain ⟨_, hl4, hcell⟩ := World.cells?_some hcs'
      have hc0 := hcell 0 (by decide)
      rw [List.getElem?_eq_getElem (by omega)] at hc0
      simpa [Addr.add] using World.cell?_spot hc0
    refine ⟨len, _, hc, some a, cap, rfl, hl, by omega, fun i hi => ?_⟩
    have he := hel i hi
    rw [List.getElem?_eq_getElem (by omega)] at he
    obtain ⟨cs', hcs', htr⟩ := Option.bind_eq_some_iff.1 he
    obtain ⟨n, rfl, _, hn⟩ := DataW.trod_int Tryz.underlying5 htr
    rw [cellsByte] at hcs'
    obtain ⟨_, _, hcell⟩ := World.cells?_some hcs'
    have hblk := World.cells?_block hcs' (by decide)
    have hsn := hspot (by omega)
    obtain ⟨b, off, sp⟩ := a
    obtain rfl : sp = none := hsn
    have hc0 := hcell 0 (by decide)
    rw [add_plain, add_plain] at hc0
    rw [add_plain] at hblk
    refine ⟨b, off, n, rfl, hblk, by simpa using hc0, ?_⟩
    have := bounds_u8 hn
    omega
end

end Go.Proofs.YthfjgffhncogaaaGreat
/- The makers of terms; an atom's name drawn; a cursor made. -/
namespace Go.Proofs.YthfjgffhncogaaaGreat
open Go.RowKit Go.Deep

theorem mk_int (n : Int) (w : World) : Calls Tryz.prog 55 #[.int .i64 n] w fun e w' => e = .returned (.agg #[.int .i64 1, .int .i64 n, .string ⟨#[]⟩, .slice none 0 0]) ∧ Below w.heap.size w w' := by
  go_enter Tryz.func55, Tryz.ntmps55
  go_wp2_with fail
  exact bodyPost_ret (v := .agg #[.int .i64 1, .int .i64 n, .string ⟨#[]⟩, .slice none 0 0]) (by simp [results, Tryz.results55, go_sem]) rfl ⟨rfl, (Below.refl _ _).alloc (Nat.le_refl _) _⟩
theorem mk_atom (s : ByteArray) (w : World) : Calls Tryz.prog 75 #[.string s] w fun e w' => e = .returned (.agg #[.int .i64 2, .int .i64 0, .string s, .slice none 0 0]) ∧ Below w.heap.size w w' := by
  go_enter Tryz.func75, Tryz.ntmps75
  go_wp2_with fail
  exact bodyPost_ret (v := .agg #[.int .i64 2, .int .i64 0, .string s, .slice none 0 0]) (by simp [results, Tryz.results75, go_sem]) rfl ⟨rfl, (Below.refl _ _).alloc (Nat.le_refl _) _⟩
theorem mk_bin (s : ByteArray) (w : World) : Calls Tryz.prog 58 #[.string s] w fun e w' => e = .returned (.agg #[.int .i64 9, .int .i64 0, .string s, .slice none 0 0]) ∧ Below w.heap.size w w' := by
  go_enter Tryz.func58, Tryz.ntmps58
  go_wp2_with fail
  exact bodyPost_ret (v := .agg #[.int .i64 9, .int .i64 0, .string s, .slice none 0 0]) (by simp [results, Tryz.results58, go_sem]) rfl ⟨rfl, (Below.refl _ _).alloc (Nat.le_refl _) _⟩
theorem mk_list (a : Option Addr) (l c : Nat) (w : World) : Calls Tryz.prog 56 #[.slice a l c] w fun e w' => e = .returned (.agg #[.int .i64 8, .int .i64 0, .string ⟨#[]⟩, .slice a l c]) ∧ Below w.heap.size w w' := by
  go_enter Tryz.func56, Tryz.ntmps56
  go_wp2_with fail
  exact bodyPost_ret (v := .agg #[.int .i64 8, .int .i64 0, .string ⟨#[]⟩, .slice a l c]) (by simp [results, Tryz.results56, go_sem]) rfl ⟨rfl, (Below.refl _ _).alloc (Nat.le_refl _) _⟩
theorem mk_tuple (a : Option Addr) (l c : Nat) (w : World) : Calls Tryz.prog 57 #[.slice a l c] w fun e w' => e = .returned (.agg #[.int .i64 6, .int .i64 0, .string ⟨#[]⟩, .slice a l c]) ∧ Below w.heap.size w w' := by
  go_enter Tryz.func57, Tryz.ntmps57
  go_wp2_with fail
  exact bodyPost_ret (v := .agg #[.int .i64 6, .int .i64 0, .string ⟨#[]⟩, .slice a l c]) (by simp [results, Tryz.results57, go_sem]) rfl ⟨rfl, (Below.refl _ _).alloc (Nat.le_refl _) _⟩

/-- Literals of small texts, of ints. -/
def isStr : Value → Bool | .string s => decide (s.size ≤ 100) | _ => false
def isI64 : Value → Bool | .int .i64 n => decide (-9223372036854775808 ≤ n) && decide (n ≤ 9223372036854775807) | _ => false
theorem lit_block {g : Nat} {w w1 : World} {arr : Array Value} {e : TypeId} (hg : g < w.heap.size) (hk : Kept g (w.alloc (.cells arr e)) w1) (r : Nat) : w1.cell? ⟨w.heap.size, r, none⟩ = arr[r]? := by
  have h := (hk.block w.heap.size (by simp) (by omega)).trans (heap_new w _)
  exact cell_of_heap h r
theorem lit_str {g : Nat} {w w1 : World} {arr : Array Value} {e : TypeId} (hg : g < w.heap.size) (hk : Kept g (w.alloc (.cells arr e)) w1) (h : arr.toList.all isStr = true) {r : Nat} (hr : r < arr.size) :
    ∃ s : ByteArray, w1.cell? ⟨w.heap.size, r, none⟩ = some (.string s) ∧ s.size ≤ 100 := by
  have h1 := List.all_eq_true.1 h arr[r] (by simp)
  rw [lit_block hg hk, Array.getElem?_eq_getElem hr]
  generalize arr[r] = x at h1
  cases x <;> simp [isStr] at h1
  exact ⟨_, rfl, h1⟩
theorem lit_int {g : Nat} {w w1 : World} {arr : Array Value} {e : TypeId} (hg : g < w.heap.size) (hk : Kept g (w.alloc (.cells arr e)) w1) (h : arr.toList.all isI64 = true) {r : Nat} (hr : r < arr.size) :
    ∃ n : Int, w1.cell? ⟨w.heap.size, r, none⟩ = some (.int .i64 n) ∧ In64 n := by
  have h1 := List.all_eq_true.1 h arr[r] (by simp)
  rw [lit_block hg hk, Array.getElem?_eq_getElem hr]
  generalize arr[r] = x at h1
  cases x with
  | int k n => cases k <;> simp [isI64] at h1; exact ⟨_, rfl, h1⟩
  | _ => simp [isI64] at h1

set_option maxRecDepth 40000 in
theorem datom_any (g L N : Nat) (v : Value) (w : World) (hc : Cur g L v N w) (hN : N ≤ 1000000000000) :
    Calls Tryz.prog 90 #[.pointer (some ⟨g, 0, none⟩)] w fun e w' => (∃ s : ByteArray, e = .returned (.string s) ∧ s.size ≤ 100) ∧ Cur g L v (N + 2) w' ∧ Kept g w w' := by
  have hp := hide (fun o => dpick_any g L N v 10 (w.alloc o) (hc.alloc o) hN (by omega) (by omega))
  have hg := hc.lt
  clear hc
  go_enter Tryz.func90, Tryz.ntmps90
  go_wp2_with fail
  refine ((unhide hp) _).mono ?_
  rintro e w1 ⟨⟨r, rfl, hr⟩, hc1, hk1⟩
  have hr' : (r : Int) < 10 := by omega
  obtain ⟨s, hs, hs2⟩ := lit_str (r := r) hg hk1 rfl (by show r < 10; omega)
  have HC := hide hc1
  have HK := hide (((Kept.refl g w).alloc _).trans hk1)
  clear hc1 hk1 hr
  go_wp2_with fail
  go_ret
  exact ⟨⟨s, rfl, hs2⟩, unhide HC, unhide HK⟩

set_option maxRecDepth 40000 in
theorem dcur_any (L : Nat) (v : Value) (w : World) (hc : CodeAt w.heap.size L v w) :
    Calls Tryz.prog 27 #[v] w fun e w' => e = .returned (.pointer (some ⟨w.heap.size, 0, none⟩)) ∧ Cur w.heap.size L v 0 w' ∧ Kept w.heap.size w w' := by
  have HC := hide hc
  obtain ⟨a, cap, rfl, hLc, hcap, hL, hel⟩ := hc
  clear hel
  go_enter Tryz.func27, Tryz.ntmps27
  go_wp2_with fail
  go_ret
  have hk : Kept w.heap.size w (w.alloc (.cells #[.slice a L cap, .int .i64 0, .int .i64 (17 + L)] 91)) := (Kept.refl _ w).alloc _
  exact ⟨rfl, ⟨(unhide HC).low fun b hb => hk.block b hb (by omega), 0, 17 + L, heap_new w _, by omega, by omega, by omega, by omega⟩, hk⟩

end Go.Proofs.YthfjgffhncogaaaGreat
/- Rows of drawn terms: what they are, what an append makes of them. -/
namespace Go.Proofs.YthfjgffhncogaaaGreat
open Go.RowKit Go.Deep

theorem infoT : (Tryz.prog.info? 26).map (fun i => (i.zero, i.size, i.bytes)) = some (some (.agg #[.int .i64 0, .int .i64 0, .string ⟨#[]⟩, .slice none 0 0]), 4, 56) := by kernel_rfl

/-- append of m terms onto an own row: where the new row lies, too. -/
theorem run_append_terms (base : Nat) (v : Value) (n : Nat) (xs : List Value) (w : World) (hown : w.ownsRow base 26 4 v n xs) (hn : n ≤ 100000)
    (a : Addr) (m c : Nat) (news : List Value) (hl : news.length = m * 4) (hm : 0 < m ∧ m ≤ 100000) (hnews : ∀ j u, news[j]? = some u → w.cell? (a.add j) = some u) (h1 : ∀ u ∈ news, u.oneCell' = true) (hbase : base ≤ w.heap.size) (ty : TypeId) :
    ∃ R cap w', (Builtin.append_ #[24, 24] ty #[v, .slice (some a) m c]).run Tryz.prog w = .ok (.slice (some ⟨R, 0, none⟩) (n + m) cap) w' ∧ w'.ownsRow base 26 4 (.slice (some ⟨R, 0, none⟩) (n + m) cap) (n + m) (xs ++ news) ∧
      w.grownBy w' v.ownBlock ∧ (v.ownBlock = some R ∨ R = w.heap.size) := by
  obtain ⟨i, hi, hz, hs, hb⟩ := info_parts infoT
  have h63 : n + m ≤ maxLen := by unfold maxLen; omega
  obtain ⟨v', w', hr, ho, hg, hnil⟩ := run_append_own (P := Tryz.prog) w base 24 ty 26 i _ 4 56 Tryz.underlying24 hi hz hs hb rfl (by decide) v n xs hown a m c news hl hnews h1 h63 (by omega) hbase
  have hne : v' ≠ .slice none 0 0 := fun h => by have := (hnil.1 h).2; omega
  obtain ⟨R, cap, cur, rfl, hR⟩ : ∃ R cap, ∃ cur : Array Value, v' = .slice (some ⟨R, 0, none⟩) (n + m) cap ∧ w'.heap[R]? = some (.cells cur 26 (0, 0)) := by
    rcases ho.2 with ⟨h, _⟩ | ⟨R, cap, cur, h, _, h2, _⟩
    · exact absurd h hne
    · exact ⟨R, cap, cur, h, h2⟩
  refine ⟨R, cap, w', hr, ho, hg, ?_⟩
  rcases hown.2 with ⟨rfl, rfl⟩ | ⟨g, cp, cr, rfl, hbg, hh, hnc, hcm, hcs, htake⟩
  · have hx : xs = [] := List.eq_nil_of_length_eq_zero (by simpa using hown.1)
    subst hx
    have h2 := run_append_nil (P := Tryz.prog) w 24 ty 26 i _ Tryz.underlying24 hi hz a m c news (by rw [hs]; exact hl) hnews hm.1 (by omega) (by rw [hb]; omega)
    rw [hr] at h2
    injection h2 with h2 _
    simp at h2
    exact .inr h2.1
  · by_cases hroom : n + m ≤ cp
    · have h2 := run_append_room (P := Tryz.prog) w 24 ty 26 i Tryz.underlying24 hi g n cp cr hh a m c news (by rw [hs]; exact hl) hnews h1 hroom (by rw [hs, hl, hcs]; omega)
      rw [hr] at h2
      injection h2 with h2 _
      simp at h2
      exact .inl (by rw [h2.1]; rfl)
    · have h2 := run_append_grow (P := Tryz.prog) w 24 ty 26 i _ Tryz.underlying24 hi hz ⟨g, 0, none⟩ n cp xs (by rw [hs]; exact hown.1) (hown.cells (g := g) rfl) a m c news (by rw [hs]; exact hl) hnews (by omega) (by omega)
        (by rw [hb]; exact growslice_fits (by omega) (by omega))
      rw [hr] at h2
      injection h2 with h2 _
      simp at h2
      exact .inr h2.1

/-- The blocks from base on that are there, the row's own left out. -/
abbrev Off (base : Nat) (v : Value) (w : World) : Nat → Prop := fun b => base ≤ b ∧ b < w.heap.size ∧ v.ownBlock ≠ some b

/-- A row's cells stand for terms. -/
def CellsAt (S : Nat → Prop) (w : World) {n : Nat} (ks : List (Tm n)) (xs : List Value) : Prop :=
  xs.length = ks.length * 4 ∧ ∀ i (h : i < ks.length), ∃ d0 d1 d2 d3, xs[i * 4]? = some d0 ∧ xs[i * 4 + 1]? = some d1 ∧ xs[i * 4 + 2]? = some d2 ∧ xs[i * 4 + 3]? = some d3 ∧ TAt S w n ks[i] d0 d1 d2 d3

/-- An own row of terms. -/
def RowsX (base : Nat) (w : World) {n : Nat} (ks : List (Tm n)) (v : Value) (xs : List Value) : Prop :=
  w.ownsRow base 26 4 v ks.length xs ∧ CellsAt (Off base v w) w ks xs

theorem own_place {base : Nat} {w : World} {v : Value} {n : Nat} {xs : List Value} (h : w.ownsRow base 26 4 v n xs) : (v = .slice none 0 0 ∧ n = 0) ∨ ∃ g cap, v = .slice (some ⟨g, 0, none⟩) n cap ∧ base ≤ g ∧ g < w.heap.size ∧ n ≤ cap ∧ ∀ j, j < n * 4 → w.cell? ⟨g, j, none⟩ = xs[j]? := by
  rcases h.2 with h1 | ⟨g, cap, cur, rfl, h2, h3, h4, h5⟩
  · exact .inl h1
  · exact .inr ⟨g, cap, rfl, h2, (h.lt g rfl).2, h4, fun j hj => h.cellAt j hj⟩

theorem CellsAt.keep {S S' : Nat → Prop} {w w' : World} {n : Nat} {ks : List (Tm n)} {xs : List Value} (h : CellsAt S w ks xs) (hk : ∀ b, S b → w'.heap[b]? = w.heap[b]?) (hS : ∀ b, S b → S' b) : CellsAt S' w' ks xs := by
  refine ⟨h.1, fun i hi => ?_⟩
  obtain ⟨d0, d1, d2, d3, e0, e1, e2, e3, ht⟩ := h.2 i hi
  exact ⟨d0, d1, d2, d3, e0, e1, e2, e3, (ht.keep hk).mono hS⟩
theorem CellsAt.append {S : Nat → Prop} {w : World} {n : Nat} {ks ls : List (Tm n)} {xs ys : List Value} (h : CellsAt S w ks xs) (h' : CellsAt S w ls ys) : CellsAt S w (ks ++ ls) (xs ++ ys) := by
  have hx := h.1
  refine ⟨by rw [List.length_append, List.length_append, h.1, h'.1]; omega, fun i hi => ?_⟩
  by_cases hlt : i < ks.length
  · obtain ⟨d0, d1, d2, d3, e0, e1, e2, e3, ht⟩ := h.2 i hlt
    refine ⟨d0, d1, d2, d3, ?_, ?_, ?_, ?_, by rw [List.getElem_append_left hlt]; exact ht⟩ <;> rw [List.getElem?_append_left (by omega)] <;> assumption
  · have hi' : i - ks.length < ls.length := by rw [List.length_append] at hi; omega
    obtain ⟨d0, d1, d2, d3, e0, e1, e2, e3, ht⟩ := h'.2 (i - ks.length) hi'
    refine ⟨d0, d1, d2, d3, ?_, ?_, ?_, ?_, by rw [List.getElem_append_right (by omega)]; exact ht⟩ <;> rw [List.getElem?_append_right (by omega), hx]
    · rw [show i * 4 - ks.length * 4 = (i - ks.length) * 4 by omega]; exact e0
    · rw [show i * 4 + 1 - ks.length * 4 = (i - ks.length) * 4 + 1 by omega]; exact e1
    · rw [show i * 4 + 2 - ks.length * 4 = (i - ks.length) * 4 + 2 by omega]; exact e2
    · rw [show i * 4 + 3 - ks.length * 4 = (i - ks.length) * 4 + 3 by omega]; exact e3
theorem CellsAt.one {S : Nat → Prop} {w : World} {n : Nat} {t : Tm n} {d0 d1 d2 d3 : Value} (h : TAt S w n t d0 d1 d2 d3) : CellsAt S w [t] [d0, d1, d2, d3] := by
  refine ⟨rfl, fun i hi => ?_⟩
  obtain rfl : i = 0 := by simp at hi; omega
  exact ⟨d0, d1, d2, d3, rfl, rfl, rfl, rfl, h⟩
theorem CellsAt.nil {S : Nat → Prop} {w : World} {n : Nat} : CellsAt S w ([] : List (Tm n)) [] := ⟨rfl, fun i hi => by simp at hi⟩

/-- What was an own row is one still where only block g, below it, was written. -/
theorem RowsX.kept {base g : Nat} {w w' : World} {n : Nat} {ks : List (Tm n)} {v : Value} {xs : List Value} (h : RowsX base w ks v xs) (hk : Kept g w w') (hg : g < base) : RowsX base w' ks v xs := by
  obtain ⟨h1, h2⟩ := h
  refine ⟨⟨h1.1, ?_⟩, h2.keep (fun b hb => hk.block b hb.2.1 (by have := hb.1; omega)) fun b hb => ⟨hb.1, Nat.lt_of_lt_of_le hb.2.1 hk.size, hb.2.2⟩⟩
  rcases h1.2 with h3 | ⟨R, cap, cur, rfl, h4, h5, h6⟩
  · exact .inl h3
  · exact .inr ⟨R, cap, cur, rfl, h4, (hk.block R (h1.lt R rfl).2 (by omega)).trans h5, h6⟩
theorem RowsX.up {base : Nat} {w w' : World} {n : Nat} {ks : List (Tm n)} {v : Value} {xs : List Value} (h : RowsX base w ks v xs) (hb : Below w.heap.size w w') : RowsX base w' ks v xs := by
  obtain ⟨h1, h2⟩ := h
  refine ⟨⟨h1.1, ?_⟩, h2.keep (fun b hb' => hb.block b hb'.2.1) fun b hb' => ⟨hb'.1, Nat.lt_of_lt_of_le hb'.2.1 hb.size, hb'.2.2⟩⟩
  rcases h1.2 with h3 | ⟨R, cap, cur, rfl, h4, h5, h6⟩
  · exact .inl h3
  · exact .inr ⟨R, cap, cur, rfl, h4, (hb.block R (h1.lt R rfl).2).trans h5, h6⟩
theorem RowsX.lower {base base' : Nat} {w : World} {n : Nat} {ks : List (Tm n)} {v : Value} {xs : List Value} (h : RowsX base w ks v xs) (hb : base' ≤ base) : RowsX base' w ks v xs := by
  obtain ⟨h1, h2⟩ := h
  refine ⟨⟨h1.1, ?_⟩, h2.keep (fun _ _ => rfl) fun b hb' => ⟨Nat.le_trans hb hb'.1, hb'.2⟩⟩
  rcases h1.2 with h3 | ⟨R, cap, cur, rfl, h4, h5, h6⟩
  · exact .inl h3
  · exact .inr ⟨R, cap, cur, rfl, by omega, h5, h6⟩
/-- Behind the append: the old terms and the new ones. -/
theorem RowsX.push {base : Nat} {w w' : World} {n : Nat} {ks ls : List (Tm n)} {v : Value} {xs ys : List Value} {R cap : Nat} (h : RowsX base w ks v xs) (hl : CellsAt (Off base v w) w ls ys)
    (ho : w'.ownsRow base 26 4 (.slice (some ⟨R, 0, none⟩) (ks.length + ls.length) cap) (ks.length + ls.length) (xs ++ ys)) (hg : w.grownBy w' v.ownBlock) (hR : v.ownBlock = some R ∨ R = w.heap.size) :
    RowsX base w' (ks ++ ls) (.slice (some ⟨R, 0, none⟩) (ks.length + ls.length) cap) (xs ++ ys) := by
  refine ⟨by rw [List.length_append]; exact ho, (h.2.append hl).keep (fun b hb => hg.block b hb.2.1 fun e => hb.2.2 e.symm) fun b hb => ⟨hb.1, Nat.lt_of_lt_of_le hb.2.1 hg.size, ?_⟩⟩
  show some R ≠ some b
  intro e
  injection e with e
  rcases hR with hR | hR
  · exact hb.2.2 (by rw [hR, e])
  · have := hb.2.1; omega

/-- A row of terms as a slice that is read. -/
theorem RowsX.sat {base : Nat} {w : World} {n : Nat} {ks : List (Tm n)} {v : Value} {xs : List Value} (h : RowsX base w ks v xs) (hl : ks.length ≤ 100000) : SAt (fun b => base ≤ b ∧ b < w.heap.size) w (TAt (fun b => base ≤ b ∧ b < w.heap.size) w n) ks v := by
  obtain ⟨h1, h2⟩ := h
  rcases own_place h1 with ⟨rfl, h3⟩ | ⟨g, cap, rfl, h3, h4, h5, h6⟩
  · exact ⟨none, 0, by rw [h3], by omega, by omega, fun i hi => by omega⟩
  · refine ⟨some ⟨g, 0, none⟩, cap, rfl, h5, by omega, fun i hi => ?_⟩
    obtain ⟨d0, d1, d2, d3, e0, e1, e2, e3, ht⟩ := h2.2 i hi
    refine ⟨g, 0, d0, d1, d2, d3, rfl, ⟨h3, h4⟩, ?_, ?_, ?_, ?_, ht.mono fun b hb => ⟨hb.1, hb.2.1⟩⟩ <;> rw [Nat.zero_add, h6 _ (by omega)] <;> assumption

theorem list_of' {α : Type} {R : Nat → α → Prop} : ∀ (len : Nat), (∀ i, i < len → ∃ t, R i t) → ∃ ks : List α, ks.length = len ∧ ∀ i (h : i < ks.length), R i ks[i]
  | 0, _ => ⟨[], rfl, fun i h => by simp at h⟩
  | len + 1, H => by
    obtain ⟨ks, h1, h2⟩ := list_of' len fun i h => H i (by omega)
    obtain ⟨t, ht⟩ := H len (by omega)
    refine ⟨ks ++ [t], by simp [h1], fun i h => ?_⟩
    by_cases hi : i < ks.length
    · rw [List.getElem_append_left hi]; exact h2 i hi
    · have : i = ks.length := by simp at h; omega
      subst this
      simp only [List.getElem_concat_length]
      rw [h1]; exact ht

/-- The same tree, held deeper. -/
theorem TAt.deeper {S : Nat → Prop} {w : World} : ∀ {n : Nat} {t : Tm n} {a b c d : Value}, TAt S w n t a b c d → ∃ t' : Tm (n + 1), TAt S w (n + 1) t' a b c d := by
  intro n
  induction n with
  | zero => intro t; exact t.elim
  | succ n ih =>
    rintro ⟨k, m, s, ks⟩ a b c d ⟨h0, h1, h2, hk1, hm, hs, a', cap, h3, h4, h5, h6⟩
    obtain ⟨ls, hll, hls⟩ := list_of' (α := Tm (n + 1)) (R := fun i t => ∃ b off d0 d1 d2 d3, a' = some ⟨b, off, none⟩ ∧ S b ∧ w.cell? ⟨b, off + i * 4, none⟩ = some d0 ∧ w.cell? ⟨b, off + i * 4 + 1, none⟩ = some d1 ∧
        w.cell? ⟨b, off + i * 4 + 2, none⟩ = some d2 ∧ w.cell? ⟨b, off + i * 4 + 3, none⟩ = some d3 ∧ TAt S w (n + 1) t d0 d1 d2 d3) ks.length fun i hi => by
      obtain ⟨b, off, d0, d1, d2, d3, g0, g1, g2, g3, g4, g5, ht⟩ := h6 i hi
      obtain ⟨t', ht'⟩ := ih ht
      exact ⟨t', b, off, d0, d1, d2, d3, g0, g1, g2, g3, g4, g5, ht'⟩
    exact ⟨(k, m, s, ls), h0, h1, h2, hk1, hm, hs, a', cap, by rw [hll]; exact h3, by omega, by omega, fun i hi => hls i hi⟩
theorem TAt.deep {S : Nat → Prop} {w : World} {n : Nat} {t : Tm n} {a b c d : Value} (h : TAt S w n t a b c d) (k : Nat) : ∃ t' : Tm (n + k), TAt S w (n + k) t' a b c d := by
  induction k with
  | zero => exact ⟨t, h⟩
  | succ k ih => obtain ⟨_, h'⟩ := ih; exact h'.deeper

end Go.Proofs.YthfjgffhncogaaaGreat
