/- Rows of drawn terms: what they are, what an append makes of them. -/
import Derived.Test.YtgkckkaegkdioaaDoorQ3
import Derived.Lib.AppendZeros
import Derived.Deep.RegionLaw
import Derived.Test.YtgkckkaegkdioaaDoorQ1
import Derived.WalkKit
import Derived.Deep.OwnRows
import Derived.Test.YtgkckkaegkdioaaDoorQ2
import Derived.Lib.SmallJoins
import Derived.WalkSpells
import Derived.WalkLawsBesides
import Derived.BigQuiet
import Derived.Deep.DeepCutAuto
import Derived.Deep.RegionWith
namespace Go.Proofs.YtgkckkaegkdioaaDoor
open Go.RowKit Go.Deep

theorem infoT : (Tryd.prog.info? 48).map (fun i => (i.zero, i.size, i.bytes)) = some (some (.agg #[.int .i64 0, .int .i64 0, .string ⟨#[]⟩, .slice none 0 0]), 4, 56) := by kernel_rfl

/-- append of m terms onto an own row: where the new row lies, too. -/
theorem run_append_terms (base : Nat) (v : Value) (n : Nat) (xs : List Value) (w : World) (hown : w.ownsRow base 48 4 v n xs) (hn : n ≤ 100000)
    (a : Addr) (m c : Nat) (news : List Value) (hl : news.length = m * 4) (hm : 0 < m ∧ m ≤ 100000) (hnews : ∀ j u, news[j]? = some u → w.cell? (a.add j) = some u) (h1 : ∀ u ∈ news, u.oneCell' = true) (hbase : base ≤ w.heap.size) (ty : TypeId) :
    ∃ R cap w', (Builtin.append_ #[27, 27] ty #[v, .slice (some a) m c]).run Tryd.prog w = .ok (.slice (some ⟨R, 0, none⟩) (n + m) cap) w' ∧ w'.ownsRow base 48 4 (.slice (some ⟨R, 0, none⟩) (n + m) cap) (n + m) (xs ++ news) ∧
      w.grownBy w' v.ownBlock ∧ (v.ownBlock = some R ∨ R = w.heap.size) := by
  obtain ⟨i, hi, hz, hs, hb⟩ := info_parts infoT
  have h63 : n + m ≤ maxLen := by unfold maxLen; omega
  obtain ⟨v', w', hr, ho, hg, hnil⟩ := run_append_own (P := Tryd.prog) w base 27 ty 48 i _ 4 56 Tryd.underlying27 hi hz hs hb rfl (by decide) v n xs hown a m c news hl hnews h1 h63 (by omega) hbase
  have hne : v' ≠ .slice none 0 0 := fun h => by have := (hnil.1 h).2; omega
  obtain ⟨R, cap, cur, rfl, hR⟩ : ∃ R cap, ∃ cur : Array Value, v' = .slice (some ⟨R, 0, none⟩) (n + m) cap ∧ w'.heap[R]? = some (.cells cur 48 (0, 0)) := by
    rcases ho.2 with ⟨h, _⟩ | ⟨R, cap, cur, h, _, h2, _⟩
    · exact absurd h hne
    · exact ⟨R, cap, cur, h, h2⟩
  refine ⟨R, cap, w', hr, ho, hg, ?_⟩
  rcases hown.2 with ⟨rfl, rfl⟩ | ⟨g, cp, cr, rfl, hbg, hh, hnc, hcm, hcs, htake⟩
  · have hx : xs = [] := List.eq_nil_of_length_eq_zero (by simpa using hown.1)
    subst hx
    have h2 := run_append_nil (P := Tryd.prog) w 27 ty 48 i _ Tryd.underlying27 hi hz a m c news (by rw [hs]; exact hl) hnews hm.1 (by omega) (by rw [hb]; omega)
    rw [hr] at h2
    injection h2 with h2 _
    simp at h2
    exact .inr h2.1
  · by_cases hroom : n + m ≤ cp
    · have h2 := run_append_room (P := Tryd.prog) w 27 ty 48 i Tryd.underlying27 hi g n cp cr hh a m c news (by rw [hs]; exact hl) hnews h1 hroom (by rw [hs, hl, hcs]; omega)
      rw [hr] at h2
      injection h2 with h2 _
      simp at h2
      exact .inl (by rw [h2.1]; rfl)
    · have h2 := run_append_grow (P := Tryd.prog) w 27 ty 48 i _ Tryd.underlying27 hi hz ⟨g, 0, none⟩ n cp xs (by rw [hs]; exact hown.1) (hown.cells (g := g) rfl) a m c news (by rw [hs]; exact hl) hnews (by omega) (by omega)
        (by rw [hb]; exact growslice_fits (by omega) (by omega))
      rw [hr] at h2
      injection h2 with h2 _
      simp at h2
      exact .inr h2.1

/-- The blocks from base on that are there, the row's own left out. -/
abbrev Off (base : Nat) (v : Value) (w : World) : Nat → Prop := fun b => base ≤ b ∧ b < w.heap.size ∧ v.ownBlock ≠ some b

/-- A row's cells stand for terms. -/
def CellsAt (S : Nat → Prop) (w : World) {n : Nat} (ks : List (Tm n)) (xs : List Value) : Prop :=
  xs.length = ks.length * 4 ∧ ∀ i (h : i < ks.length), ∃ d0 d1 d2 d3, xs[i * 4]? = some d0 ∧ xs[i * 4 + 1]? = some d1 ∧ xs[i * 4 + 2]? = some d2 ∧ xs[i * 4 + 3]? = some d3 ∧ TAt S w n ks[i] d0 d1 d2 d3

/-- An own row of terms. -/
def RowsX (base : Nat) (w : World) {n : Nat} (ks : List (Tm n)) (v : Value) (xs : List Value) : Prop :=
  w.ownsRow base 48 4 v ks.length xs ∧ CellsAt (Off base v w) w ks xs

theorem own_place {base : Nat} {w : World} {v : Value} {n : Nat} {xs : List Value} (h : w.ownsRow base 48 4 v n xs) : (v = .slice none 0 0 ∧ n = 0) ∨ ∃ g cap, v = .slice (some ⟨g, 0, none⟩) n cap ∧ base ≤ g ∧ g < w.heap.size ∧ n ≤ cap ∧ ∀ j, j < n * 4 → w.cell? ⟨g, j, none⟩ = xs[j]? := by
  rcases h.2 with h1 | ⟨g, cap, cur, rfl, h2, h3, h4, h5⟩
  · exact .inl h1
  · exact .inr ⟨g, cap, rfl, h2, (h.lt g rfl).2, h4, fun j hj => h.cellAt j hj⟩

theorem CellsAt.keep {S S' : Nat → Prop} {w w' : World} {n : Nat} {ks : List (Tm n)} {xs : List Value} (h : CellsAt S w ks xs) (hk : ∀ b, S b → w'.heap[b]? = w.heap[b]?) (hS : ∀ b, S b → S' b) : CellsAt S' w' ks xs := by
  refine ⟨h.1, fun i hi => ?_⟩
  obtain ⟨d0, d1, d2, d3, e0, e1, e2, e3, ht⟩ := h.2 i hi
  exact ⟨d0, d1, d2, d3, e0, e1, e2, e3, (ht.keep hk).mono hS⟩
theorem CellsAt.append {S : Nat → Prop} {w : World} {n : Nat} {ks ls : List (Tm n)} {xs ys : List Value} (h : CellsAt S w ks xs) (h' : CellsAt S w ls ys) : CellsAt S w (ks ++ ls) (xs ++ ys) := by
  have hx := h.1
  refine ⟨by rw [List.length_append, List.length_append, h.1, h'.1]; omega, fun i hi => ?_⟩
  by_cases hlt : i < ks.length
  · obtain ⟨d0, d1, d2, d3, e0, e1, e2, e3, ht⟩ := h.2 i hlt
    refine ⟨d0, d1, d2, d3, ?_, ?_, ?_, ?_, by rw [List.getElem_append_left hlt]; exact ht⟩ <;> rw [List.getElem?_append_left (by omega)] <;> assumption
  · have hi' : i - ks.length < ls.length := by rw [List.length_append] at hi; omega
    obtain ⟨d0, d1, d2, d3, e0, e1, e2, e3, ht⟩ := h'.2 (i - ks.length) hi'
    refine ⟨d0, d1, d2, d3, ?_, ?_, ?_, ?_, by rw [List.getElem_append_right (by omega)]; exact ht⟩ <;> rw [List.getElem?_append_right (by omega), hx]
    · rw [show i * 4 - ks.length * 4 = (i - ks.length) * 4 by omega]; exact e0
    · rw [show i * 4 + 1 - ks.length * 4 = (i - ks.length) * 4 + 1 by omega]; exact e1
    · rw [show i * 4 + 2 - ks.length * 4 = (i - ks.length) * 4 + 2 by omega]; exact e2
    · rw [show i * 4 + 3 - ks.length * 4 = (i - ks.length) * 4 + 3 by omega]; exact e3
theorem CellsAt.one {S : Nat → Prop} {w : World} {n : Nat} {t : Tm n} {d0 d1 d2 d3 : Value} (h : TAt S w n t d0 d1 d2 d3) : CellsAt S w [t] [d0, d1, d2, d3] := by
  refine ⟨rfl, fun i hi => ?_⟩
  obtain rfl : i = 0 := by simp at hi; omega
  exact ⟨d0, d1, d2, d3, rfl, rfl, rfl, rfl, h⟩
theorem CellsAt.nil {S : Nat → Prop} {w : World} {n : Nat} : CellsAt S w ([] : List (Tm n)) [] := ⟨rfl, fun i hi => by simp at hi⟩

theorem RowsX.up {base : Nat} {w w' : World} {n : Nat} {ks : List (Tm n)} {v : Value} {xs : List Value} (h : RowsX base w ks v xs) (hb : Below w.heap.size w w') : RowsX base w' ks v xs := by
  obtain ⟨h1, h2⟩ := h
  refine ⟨⟨h1.1, ?_⟩, h2.keep (fun b hb' => hb.block b hb'.2.1) fun b hb' => ⟨hb'.1, Nat.lt_of_lt_of_le hb'.2.1 hb.size, hb'.2.2⟩⟩
  rcases h1.2 with h3 | ⟨R, cap, cur, rfl, h4, h5, h6⟩
  · exact .inl h3
  · exact .inr ⟨R, cap, cur, rfl, h4, (hb.block R (h1.lt R rfl).2).trans h5, h6⟩
/-- Behind the append: the old terms and the new ones. -/
theorem RowsX.push {base : Nat} {w w' : World} {n : Nat} {ks ls : List (Tm n)} {v : Value} {xs ys : List Value} {R cap : Nat} (h : RowsX base w ks v xs) (hl : CellsAt (Off base v w) w ls ys)
    (ho : w'.ownsRow base 48 4 (.slice (some ⟨R, 0, none⟩) (ks.length + ls.length) cap) (ks.length + ls.length) (xs ++ ys)) (hg : w.grownBy w' v.ownBlock) (hR : v.ownBlock = some R ∨ R = w.heap.size) :
    RowsX base w' (ks ++ ls) (.slice (some ⟨R, 0, none⟩) (ks.length + ls.length) cap) (xs ++ ys) := by
  refine ⟨by rw [List.length_append]; exact ho, (h.2.append hl).keep (fun b hb => hg.block b hb.2.1 fun e => hb.2.2 e.symm) fun b hb => ⟨hb.1, Nat.lt_of_lt_of_le hb.2.1 hg.size, ?_⟩⟩
  show some R ≠ some b
  intro e
  injection e with e
  rcases hR with hR | hR
  · exact hb.2.2 (by rw [hR, e])
  · have := hb.2.1; omega

/-- A row of terms as a slice that is read. -/
theorem RowsX.sat {base : Nat} {w : World} {n : Nat} {ks : List (Tm n)} {v : Value} {xs : List Value} (h : RowsX base w ks v xs) (hl : ks.length ≤ 100000) : SAt (fun b => base ≤ b ∧ b < w.heap.size) w (TAt (fun b => base ≤ b ∧ b < w.heap.size) w n) ks v := by
  obtain ⟨h1, h2⟩ := h
  rcases own_place h1 with ⟨rfl, h3⟩ | ⟨g, cap, rfl, h3, h4, h5, h6⟩
  · exact ⟨none, 0, by rw [h3], by omega, by omega, fun i hi => by omega⟩
  · refine ⟨some ⟨g, 0, none⟩, cap, rfl, h5, by omega, fun i hi => ?_⟩
    obtain ⟨d0, d1, d2, d3, e0, e1, e2, e3, ht⟩ := h2.2 i hi
    refine ⟨g, 0, d0, d1, d2, d3, rfl, ⟨h3, h4⟩, ?_, ?_, ?_, ?_, ht.mono fun b hb => ⟨hb.1, hb.2.1⟩⟩ <;> rw [Nat.zero_add, h6 _ (by omega)] <;> assumption

end Go.Proofs.YtgkckkaegkdioaaDoor
/- The laws' markText: a function of its number. -/
namespace Go.Proofs.YtgkckkaegkdioaaDoor
open Go.RowKit Go.Deep

/-- The digits ahead of a text. -/
def digF : Nat → Nat → ByteArray → ByteArray
  | 0, _, o => o
  | f + 1, k, o => if k = 0 then o else digF f (k / 10) (strOfNums [((48 + k % 10 : Nat) : Int)] ++ o)
theorem digF_zero (f : Nat) (o : ByteArray) : digF f 0 o = o := by
  cases f with
  | zero => rfl
  | succ f => simp [digF]
/-- The mark of a number. -/
def mtext (k : Nat) : ByteArray := if k = 0 then ⟨#[109, 48]⟩ else ⟨#[109]⟩ ++ digF k k ⟨#[]⟩

theorem one_size (b : Int) : (strOfNums [b]).size = 1 := by simp [strOfNums, ByteArray.size]

set_option maxRecDepth 40000 in
set_option maxHeartbeats 1000000 in
theorem mtext_any (k : Nat) (w : World) (hk : k ≤ 1000000000) :
    Calls Tryd.prog 31 #[.int .i64 k] w fun e w' => e = .returned (.string (mtext k)) ∧ Below w.heap.size w w' := by
  by_cases h0 : k = 0
  · subst h0
    go_enter Tryd.func31, Tryd.ntmps31
    go_wp2_with fail
    go_ret
    exact ⟨rfl, Below.refl _ _⟩
  · have h1 : ¬ (k : Int) ≤ 0 := by omega
    have hm : mtext k = ⟨#[109]⟩ ++ digF k k ⟨#[]⟩ := if_neg h0
    have HM := hide hm
    clear hm
    go_enter Tryd.func31, Tryd.ntmps31
    go_wp2_with fail
    go_loopw [0, 3] (fun kv ov wr => ∃ (q f : Nat) (o : ByteArray), kv = .int .i64 q ∧ ov = .string o ∧ q ≤ f ∧ digF f q o = digF k k ⟨#[]⟩ ∧ o.size + q ≤ k ∧ Below w.heap.size w wr) (fun kv _ _ => (intOf kv).toNat)
    case atStart => exact ⟨k, k, ⟨#[]⟩, rfl, rfl, Nat.le_refl _, rfl, by show 0 + k ≤ k; omega, Below.refl _ _⟩
    case round =>
      obtain ⟨q, f, o, rfl, rfl, hqf, hdig, hsz, hb⟩ := hrel
      by_cases hq : q = 0
      · subst hq
        rw [digF_zero] at hdig
        have HD := hide hdig
        have HB := hide hb
        have hlim : ¬ 9223372036854775807 < (⟨#[109]⟩ : ByteArray).size + o.size := by show ¬ 9223372036854775807 < 1 + o.size; omega
        clear hdig hb
        go_wp2_with fail
        go_ret
        exact ⟨by rw [unhide HM, ← unhide HD]; rfl, unhide HB⟩
      · have hq2 : (0 : Int) < (q : Int) := by omega
        obtain ⟨f', rfl⟩ : ∃ f', f = f' + 1 := ⟨f - 1, by omega⟩
        have hd2 : digF f' (q / 10) (strOfNums [((48 + q % 10 : Nat) : Int)] ++ o) = digF k k ⟨#[]⟩ := by
          rw [← hdig, digF, if_neg hq]
        obtain ⟨b, hbd⟩ : ∃ b : Int, b = ((48 + q % 10 : Nat) : Int) := ⟨_, rfl⟩
        have hbe : 48 + (q : Int) % 10 = b := by omega
        have hb8 : IntKind.u8.wrap b = b := by rw [IntKind.wrap_u8]; omega
        have hcv := run_convert_bytes_arg (P := Tryd.prog) (wr.alloc (.cells #[.int .u8 b] 5)) 51 5 Tryd.underlying51 Tryd.underlying5 wr.heap.size 0 1 1 [b] rfl (fun i hi => by
          have : i = 0 := by omega
          subst this
          exact cell_of_heap (heap_new _ _) 0) 9 Tryd.underlying9
        have hs1 := one_size b
        rw [← hbd] at hd2
        obtain ⟨S, hS⟩ : ∃ S, S = strOfNums [b] := ⟨_, rfl⟩
        rw [← hS] at hcv hd2 hs1
        have hlim : ¬ 9223372036854775807 < S.size + o.size := by omega
        have HD := hide hd2
        have HB := hide (hb.alloc hb.size (.cells #[.int .u8 b] 5))
        have HBD := hide hbd
        clear hdig hd2 hb hbd hS
        go_wp2_with fail

        go_roundw
        case rel => exact ⟨q / 10, f', S ++ o, by go_num, rfl, by omega, unhide HD, by rw [ByteArray.size_append]; omega, unhide HB⟩
        case measure => simp [intOf]; omega

end Go.Proofs.YtgkckkaegkdioaaDoor
/- The laws' markTermS: what it marks. -/
namespace Go.Proofs.YtgkckkaegkdioaaDoor
open Go.RowKit Go.Deep

def kidsOf {n : Nat} (t : Tm (n + 1)) : List (Tm n) := t.2.2.2
theorem siz_kids {n : Nat} (t : Tm (n + 1)) : siz (n + 1) t = 1 + sizS (kidsOf t) := by
  obtain ⟨_, _, _, _⟩ := t
  rfl
theorem len_siz : ∀ {n : Nat} (ks : List (Tm n)), ks.length ≤ sizS ks
  | 0, ks => by
    cases ks with
    | nil => exact Nat.le_refl _
    | cons t _ => exact t.elim
  | n + 1, ks => by
    induction ks with
    | nil => exact Nat.le_refl _
    | cons t ts ih =>
      have : sizS (t :: ts) = siz (n + 1) t + sizS ts := by simp [sizS]
      rw [this, siz_kids, List.length_cons]
      omega

/-- A row of terms, and the rows below it, each in blocks of its own between lo and hi. -/
def OwnS (w : World) : (n : Nat) → Nat → Nat → List (Tm n) → Value → Prop
  | 0, _, _, ks, v => ∃ a cap, v = .slice a ks.length cap
  | n + 1, lo, hi, ks, v => ∃ a cap, v = .slice a ks.length cap ∧ (ks = [] ∨ ∃ R cs, ∃ bs : Nat → Nat, a = some ⟨R, 0, none⟩ ∧ w.heap[R]? = some (.cells cs 48 (0, 0)) ∧ lo ≤ R ∧ R < bs 0 ∧ (∀ i j, i ≤ j → bs i ≤ bs j) ∧ bs ks.length ≤ hi ∧
      ks.length * 4 ≤ cs.size ∧ ∀ i (h : i < ks.length), ∃ v3, cs[i * 4 + 3]? = some v3 ∧ OwnS w n (bs i) (bs (i + 1)) (kidsOf ks[i]) v3)

theorem OwnS.keep {w w' : World} : ∀ {n lo hi : Nat} {ks : List (Tm n)} {v : Value}, OwnS w n lo hi ks v → (∀ b, lo ≤ b → b < hi → w'.heap[b]? = w.heap[b]?) → OwnS w' n lo hi ks v
  | 0, _, _, _, _, h, _ => h
  | n + 1, lo, hi, ks, v, ⟨a, cap, hv, h⟩, hk => by
    refine ⟨a, cap, hv, ?_⟩
    rcases h with h | ⟨R, cs, bs, h1, h2, h3, h4, h5, h6, h7, h8⟩
    · exact .inl h
    · by_cases hn : ks = []
      · exact .inl hn
      refine .inr ⟨R, cs, bs, h1, ?_, h3, h4, h5, h6, h7, fun i hi' => ?_⟩
      · rw [hk R h3 (by have := h5 0 ks.length (Nat.zero_le _); omega), h2]
      · obtain ⟨v3, e3, ho⟩ := h8 i hi'
        exact ⟨v3, e3, ho.keep fun b hb1 hb2 => hk b (by have := h5 0 i (Nat.zero_le _); omega) (by have := h5 (i + 1) ks.length (by omega); omega)⟩
theorem OwnS.form {w : World} : ∀ {n lo hi : Nat} {ks : List (Tm n)} {v : Value}, OwnS w n lo hi ks v → ∃ a cap, v = .slice a ks.length cap
  | 0, _, _, _, _, h => h
  | _ + 1, _, _, _, _, ⟨a, cap, h, _⟩ => ⟨a, cap, h⟩

/-- Marked from k on. -/
def MkdS (w : World) : (n : Nat) → Nat → Nat → List (Tm n) → Value → Nat → Prop
  | 0, _, _, ks, v, _ => ∃ a cap, v = .slice a ks.length cap
  | n + 1, lo, hi, ks, v, k => ∃ a cap, v = .slice a ks.length cap ∧ (ks = [] ∨ ∃ R, a = some ⟨R, 0, none⟩ ∧ lo ≤ R ∧ R < hi ∧ ∀ i (h : i < ks.length), ∃ v3 : Value, w.cell? ⟨R, i * 4, none⟩ = some (.int .i64 ((k + 3 * sizS (ks.take i) : Nat) : Int)) ∧
      w.cell? ⟨R, i * 4 + 1, none⟩ = some (.int .i64 ((k + 3 * sizS (ks.take i) + 1 : Nat) : Int)) ∧ w.cell? ⟨R, i * 4 + 2, none⟩ = some (.string (mtext (k + 3 * sizS (ks.take i) + 2))) ∧ w.cell? ⟨R, i * 4 + 3, none⟩ = some v3 ∧
      MkdS w n lo hi (kidsOf ks[i]) v3 (k + 3 * sizS (ks.take i) + 3))
theorem MkdS.keep {w w' : World} : ∀ {n lo hi lo' hi' : Nat} {ks : List (Tm n)} {v : Value} {k : Nat}, MkdS w n lo hi ks v k → (∀ b, lo ≤ b → b < hi → w'.heap[b]? = w.heap[b]?) → lo' ≤ lo → hi ≤ hi' → MkdS w' n lo' hi' ks v k
  | 0, _, _, _, _, _, _, _, h, _, _, _ => h
  | n + 1, lo, hi, lo', hi', ks, v, k, ⟨a, cap, hv, h⟩, hk, hl, hh => by
    refine ⟨a, cap, hv, ?_⟩
    rcases h with h | ⟨R, h1, h2, h3, h4⟩
    · exact .inl h
    · refine .inr ⟨R, h1, by omega, by omega, fun i hi' => ?_⟩
      obtain ⟨v3, e0, e1, e2, e3, hm⟩ := h4 i hi'
      have hc : ∀ o, w'.cell? ⟨R, o, none⟩ = w.cell? ⟨R, o, none⟩ := fun o => World.cell?_of_block (w := w) (hk R h2 h3)
      exact ⟨v3, (hc _).trans e0, (hc _).trans e1, (hc _).trans e2, (hc _).trans e3, hm.keep hk hl hh⟩

/-- Only blocks between lo and hi, and new ones, were written. -/
structure Out (lo hi : Nat) (w w' : World) : Prop where
  os : w'.os = w.os
  tape : w'.tape = w.tape
  output : w'.output = w.output
  size : w.heap.size ≤ w'.heap.size
  block : ∀ b, b < w.heap.size → b < lo ∨ hi ≤ b → w'.heap[b]? = w.heap[b]?
theorem Out.refl (lo hi : Nat) (w : World) : Out lo hi w w := ⟨rfl, rfl, rfl, Nat.le_refl _, fun _ _ _ => rfl⟩
theorem Out.trans {lo hi : Nat} {a b c : World} (h : Out lo hi a b) (k : Out lo hi b c) : Out lo hi a c :=
  ⟨k.os.trans h.os, k.tape.trans h.tape, k.output.trans h.output, Nat.le_trans h.size k.size, fun i hi hg => (k.block i (Nat.lt_of_lt_of_le hi h.size) hg).trans (h.block i hi hg)⟩
theorem Out.below {lo hi : Nat} {w w' : World} (h : Below w.heap.size w w') : Out lo hi w w' := ⟨h.os, h.tape, h.output, h.size, fun b hb _ => h.block b hb⟩
theorem Out.set {lo hi R : Nat} {a w : World} (h : Out lo hi a w) (h1 : lo ≤ R) (h2 : R < hi) (o : Nat) (v : Value) : Out lo hi a (w.setCell ⟨R, o, none⟩ v) :=
  h.trans ⟨rfl, rfl, rfl, by simp, fun k _ hg => Below.heap_setCell _ _ _ _ (by show k ≠ R; omega)⟩
theorem Out.wide {lo hi lo' hi' : Nat} {w w' : World} (h : Out lo hi w w') (h1 : lo' ≤ lo) (h2 : hi ≤ hi') : Out lo' hi' w w' := ⟨h.os, h.tape, h.output, h.size, fun b hb hg => h.block b hb (by omega)⟩

def MarkSaid (n : Nat) : Prop := ∀ (ks : List (Tm n)) (v : Value) (lo hi k : Nat) (w : World), OwnS w n lo hi ks v → hi ≤ w.heap.size → k + 3 * sizS ks ≤ 100000000 →
  Calls Tryd.prog 13 #[v, .int .i64 k] w fun e w' => e = .returned (.int .i64 ((k + 3 * sizS ks : Nat) : Int)) ∧ Out lo hi w w' ∧ MkdS w' n lo hi ks v k

set_option maxRecDepth 40000 in
set_option maxHeartbeats 1000000 in
theorem mark_nil (a : Option Addr) (cap k : Nat) (w : World) : Calls Tryd.prog 13 #[.slice a 0 cap, .int .i64 k] w fun e w' => e = .returned (.int .i64 k) ∧ w' = w := by
  go_enter Tryd.func13, Tryd.ntmps13
  go_wp2_with fail
  go_loopw [1, 5] (fun kv iv wr => kv = .int .i64 k ∧ iv = .int .i64 0 ∧ wr = w) (fun _ _ _ => 0)
  case atStart => exact ⟨rfl, rfl, rfl⟩
  case round =>
    obtain ⟨rfl, rfl, rfl⟩ := hrel
    go_wp2_with fail
    go_ret
    exact ⟨rfl, rfl⟩

set_option maxRecDepth 40000 in
set_option maxHeartbeats 2000000 in
theorem mark_of {n : Nat} (ih : MarkSaid n) : MarkSaid (n + 1) := by
  rintro ks v lo hi k w ⟨a, cap, rfl, h⟩ hhi hk
  by_cases hn : ks = []
  · subst hn
    refine (mark_nil a cap k w).mono ?_
    rintro e w' ⟨rfl, rfl⟩
    exact ⟨by simp [sizS], Out.refl _ _ _, a, cap, rfl, .inl rfl⟩
  rcases h with h | ⟨R, cs, bs, rfl, hR, hlo, hb0, hmono, hbh, hcs, hkid⟩
  · exact absurd h hn
  have hlen := len_siz ks
  have HK := hide hkid
  have HM := hide hmono
  have hRw : R < w.heap.size := (Array.getElem?_eq_some_iff.1 hR).1
  clear hkid hmono
  go_enter Tryd.func13, Tryd.ntmps13
  go_wp2_with fail
  go_loopw [1, 5] (fun kv iv wr => ∃ (i : Nat) (cr : Array Value), i ≤ ks.length ∧ iv = .int .i64 i ∧ kv = .int .i64 ((k + 3 * sizS (ks.take i) : Nat) : Int) ∧ wr.heap[R]? = some (.cells cr 48 (0, 0)) ∧ cr.size = cs.size ∧ (∀ j, cr[j * 4 + 3]? = cs[j * 4 + 3]?) ∧
      Out R (bs i) w wr ∧ (∀ b, b < w.heap.size → b ≠ R → b < bs 0 ∨ bs i ≤ b → wr.heap[b]? = w.heap[b]?) ∧ ∀ j (h : j < ks.length), j < i → ∃ v3 : Value, cr[j * 4]? = some (.int .i64 ((k + 3 * sizS (ks.take j) : Nat) : Int)) ∧ cr[j * 4 + 1]? = some (.int .i64 ((k + 3 * sizS (ks.take j) + 1 : Nat) : Int)) ∧
        cr[j * 4 + 2]? = some (.string (mtext (k + 3 * sizS (ks.take j) + 2))) ∧ cr[j * 4 + 3]? = some v3 ∧ MkdS wr n (bs j) (bs (j + 1)) (kidsOf ks[j]) v3 (k + 3 * sizS (ks.take j) + 3)) (fun _ iv _ => ks.length - (intOf iv).toNat)
  case atStart => exact ⟨0, cs, Nat.zero_le _, rfl, by simp [sizS], hR, rfl, fun _ => rfl, Out.refl _ _ _, fun _ _ _ _ => rfl, fun j _ hj => by omega⟩
  case round =>
    obtain ⟨i, cr, hil, rfl, rfl, hRr, hcr, hc3, hout, hblk, hdone⟩ := hrel
    by_cases hlt : i < ks.length
    · obtain ⟨v3, e3, ho3⟩ := unhide HK i hlt
      obtain ⟨a3, cap3, hv3⟩ := ho3.form
      have hsz := sizS_take ks i hlt
      rw [siz_kids] at hsz
      have hsl := sizS_le ks (i + 1)
      obtain ⟨K, hKd⟩ : ∃ K, K = k + 3 * sizS (ks.take i) := ⟨_, rfl⟩
      rw [← hKd]
      have p0 := cell_of_heap hRr (i * 4)
      have p1 := cell_of_heap hRr (i * 4 + 1)
      rw [Array.getElem?_eq_getElem (by omega)] at p0 p1
      have q0 := frozen_of_heap hRr (i * 4)
      have q1 := frozen_of_heap hRr (i * 4 + 1)
      have hRs := (Array.getElem?_eq_some_iff.1 hRr).1
      have hb0i := unhide HM 0 i (Nat.zero_le _)
      have hbi1 := unhide HM i (i + 1) (by omega)
      have hbil := unhide HM (i + 1) ks.length hlt
      have hK : K + 3 + 3 * sizS (kidsOf ks[i]) ≤ 100000000 := by omega
      have HVAL := hide (show ((K + 3 + 3 * sizS (kidsOf ks[i]) : Nat) : Int) = ((k + 3 * sizS (ks.take (i + 1)) : Nat) : Int) by rw [hsz, hKd]; omega)
      have HKD := hide hKd
      have HR := hide hRr
      have HDN := hide hdone
      have HOUT := hide hout
      have HBLK := hide hblk
      have HC3 := hide hc3
      have HO3 := hide ho3
      have HV3 := hide hv3
      have HE3 := hide e3
      clear hRr hdone hout hblk hc3 hKd hsz hsl ho3 hv3 e3
      go_wp2_with fail
      rw [show (K : Int) + 1 + 1 = ((K + 2 : Nat) : Int) by omega]
      obtain ⟨w2, hw2⟩ : ∃ w2, w2 = (wr.setCell ⟨R, i * 4, none⟩ (.int .i64 (K : Int))).setCell ⟨R, i * 4 + 1, none⟩ (.int .i64 ((K : Int) + 1)) := ⟨_, rfl⟩
      rw [← hw2]
      have hR2 : w2.heap[R]? = some (.cells ((cr.setIfInBounds (i * 4) (.int .i64 (K : Int))).setIfInBounds (i * 4 + 1) (.int .i64 ((K : Int) + 1))) 48 (0, 0)) := by rw [hw2]; exact Row.setHeap (Row.setHeap (unhide HR) _ _) _ _
      have hs2 : w2.heap.size = wr.heap.size := by rw [hw2]; simp
      have hn2 : ∀ b, b ≠ R → w2.heap[b]? = wr.heap[b]? := fun b hb => by rw [hw2]; exact (Below.heap_setCell _ _ _ _ hb).trans (Below.heap_setCell _ _ _ _ hb)
      have ho2 : Out R (bs (i + 1)) w w2 := by rw [hw2]; exact (((unhide HOUT).wide (Nat.le_refl _) hbi1).set (Nat.le_refl _) (by omega) _ _).set (Nat.le_refl _) (by omega) _ _
      clear hw2 p0 p1 q0 q1
      refine (mtext_any (K + 2) w2 (by omega)).mono ?_
      rintro e w3 ⟨rfl, hb3⟩
      have hR3 := (hb3.block R (by omega)).trans hR2
      obtain ⟨c3, hc3d⟩ : ∃ c3, c3 = (cr.setIfInBounds (i * 4) (.int .i64 (K : Int))).setIfInBounds (i * 4 + 1) (.int .i64 ((K : Int) + 1)) := ⟨_, rfl⟩
      rw [← hc3d] at hR3
      have hsz3 : c3.size = cs.size := by rw [hc3d]; simp; exact hcr
      have g0 : c3[i * 4]? = some (.int .i64 (K : Int)) := by rw [hc3d, Array.getElem?_setIfInBounds_ne (by omega), Array.getElem?_setIfInBounds_self_of_lt (by omega)]
      have g1 : c3[i * 4 + 1]? = some (.int .i64 ((K + 1 : Nat) : Int)) := by rw [hc3d, Array.getElem?_setIfInBounds_self_of_lt (by simp; omega)]; rfl
      have gn : ∀ j, j ≠ i * 4 → j ≠ i * 4 + 1 → c3[j]? = cr[j]? := fun j h1 h2 => by rw [hc3d, Array.getElem?_setIfInBounds_ne (by omega), Array.getElem?_setIfInBounds_ne (by omega)]
      have p2 := cell_of_heap hR3 (i * 4 + 2)
      have p3 := cell_of_heap hR3 (i * 4 + 3)
      rw [Array.getElem?_eq_getElem (by omega)] at p2
      rw [gn _ (by omega) (by omega), unhide HC3, unhide HE3, unhide HV3] at p3
      have q2 := frozen_of_heap hR3 (i * 4 + 2)
      obtain ⟨T, hT⟩ : ∃ T, T = mtext (K + 2) := ⟨_, rfl⟩
      rw [← hT]
      obtain ⟨w4, hw4⟩ : ∃ w4, w4 = w3.setCell ⟨R, i * 4 + 2, none⟩ (.string T) := ⟨_, rfl⟩
      have hR4 : w4.heap[R]? = some (.cells (c3.setIfInBounds (i * 4 + 2) (.string T)) 48 (0, 0)) := by rw [hw4]; exact Row.setHeap hR3 _ _
      have hs4 : w4.heap.size = w3.heap.size := by rw [hw4]; simp
      have hn4 : ∀ b, b < wr.heap.size → b ≠ R → w4.heap[b]? = wr.heap[b]? := fun b hb hne => by rw [hw4]; exact (Below.heap_setCell _ _ _ _ hne).trans ((hb3.block b (by omega)).trans (hn2 b hne))
      have hbs3 := hb3.size
      have hos := (unhide HOUT).size
      have ho4 : Out R (bs (i + 1)) w w4 := by rw [hw4]; exact (ho2.trans (Out.below hb3)).set (Nat.le_refl _) (by omega) _ _
      have how4 : OwnS w4 n (bs i) (bs (i + 1)) (kidsOf ks[i]) v3 := (unhide HO3).keep fun b h1 h2 => (hn4 b (by omega) (by omega)).trans (unhide HBLK b (by omega) (by omega) (.inr h1))
      have hcall := hide (ih (kidsOf ks[i]) v3 (bs i) (bs (i + 1)) (K + 3) w4 how4 (by omega) hK)
      rw [unhide HV3] at hcall
      have HW4 := hide hw4
      have HR4 := hide hR4
      have HN4 := hide hn4
      have HO4 := hide ho4
      have HG := hide (And.intro g0 (And.intro g1 gn))
      have HT := hide hT
      have HS4 := hide (show wr.heap.size ≤ w4.heap.size by omega)
      clear hw4 hR4 hn4 ho4 how4 hT g0 g1 gn hc3d hR3 hb3 ho2 hn2 hs2 hR2 hbs3 hos hs4
      go_wp2_with fail
      rw [← unhide HW4, show (K : Int) + 2 + 1 = ((K + 3 : Nat) : Int) by omega]
      refine (unhide hcall).mono ?_
      rintro e w5 ⟨rfl, ho5, hm5⟩
      rw [unhide HVAL]
      have HO5 := hide ho5
      have HM5 := hide hm5
      obtain ⟨Z, hZ⟩ : ∃ Z : Int, Z = ((k + 3 * sizS (ks.take (i + 1)) : Nat) : Int) := ⟨_, rfl⟩
      rw [← hZ]
      have HZ := hide hZ
      clear ho5 hm5 p2 p3 q2 hcall hZ
      go_wp2_with fail
      go_roundw
      case rel =>
        have hsl4 := unhide HS4
        have hout := unhide HOUT
        have ho5 := unhide HO5
        have hR4 := unhide HR4
        have hRs4 := (Array.getElem?_eq_some_iff.1 hR4).1
        obtain ⟨g0, g1, gn⟩ := unhide HG
        have gm : ∀ j, j ≠ i * 4 → j ≠ i * 4 + 1 → j ≠ i * 4 + 2 → (c3.setIfInBounds (i * 4 + 2) (.string T))[j]? = cr[j]? := fun j h1 h2 h3 => by rw [Array.getElem?_setIfInBounds_ne (by omega), gn j h1 h2]
        have hkeep : ∀ b, b < wr.heap.size → b ≠ R → b < bs i → w5.heap[b]? = wr.heap[b]? := fun b h1 h2 h3 => (ho5.block b (by omega) (.inl h3)).trans (unhide HN4 b h1 h2)
        refine ⟨i + 1, _, hlt, by go_num, by rw [unhide HZ], (ho5.block R hRs4 (.inl (by omega))).trans hR4, by simp; exact hsz3, fun j => ?_, (unhide HO4).trans (ho5.wide (by omega) (Nat.le_refl _)), fun b h1 h2 h3 => ?_, fun j hj hji => ?_⟩
        · rw [gm _ (by omega) (by omega) (by omega)]; exact unhide HC3 j
        · have hw := hout.size
          rw [ho5.block b (by omega) (by omega), unhide HN4 b (by omega) h2]
          exact unhide HBLK b h1 h2 (by omega)
        · by_cases hjj : j = i
          · subst hjj
            have e1 := unhide HKD
            have e2 := unhide HT
            refine ⟨v3, ?_, ?_, ?_, ?_, ?_⟩
            · rw [Array.getElem?_setIfInBounds_ne (by omega), g0, e1]
            · rw [Array.getElem?_setIfInBounds_ne (by omega), g1, e1]
            · rw [Array.getElem?_setIfInBounds_self_of_lt (by omega), e2, e1]
            · rw [gm _ (by omega) (by omega) (by omega), unhide HC3]; exact unhide HE3
            · rw [← e1, unhide HV3]; exact unhide HM5
          · obtain ⟨u3, r0, r1, r2, r3, rm⟩ := unhide HDN j hj (by omega)
            have hji2 := unhide HM (j + 1) i (by omega)
            have hj0 := unhide HM 0 j (Nat.zero_le _)
            refine ⟨u3, ?_, ?_, ?_, ?_, rm.keep (fun b h1 h2 => hkeep b ?_ (by omega) (by omega)) (Nat.le_refl _) (Nat.le_refl _)⟩
            · rw [gm _ (by omega) (by omega) (by omega)]; exact r0
            · rw [gm _ (by omega) (by omega) (by omega)]; exact r1
            · rw [gm _ (by omega) (by omega) (by omega)]; exact r2
            · rw [gm _ (by omega) (by omega) (by omega)]; exact r3
            · have := hout.size; omega
      case measure => simp [intOf]; omega
    · have hkk : i = ks.length := by omega
      subst hkk
      have HR := hide hRr
      have HDN := hide hdone
      have HOUT := hide hout
      clear hRr hdone hout hblk hc3
      go_wp2_with fail
      go_ret
      have hRb := unhide HM 0 ks.length (Nat.zero_le _)
      refine ⟨by simp, (unhide HOUT).wide hlo hbh, _, cap, rfl, .inr ⟨R, rfl, hlo, by omega, fun j hj => ?_⟩⟩
      obtain ⟨u3, r0, r1, r2, r3, rm⟩ := unhide HDN j hj hj
      have hj1 := unhide HM (j + 1) ks.length (by omega)
      have hj0 := unhide HM 0 j (Nat.zero_le _)
      exact ⟨u3, (cell_of_heap (unhide HR) _).trans r0, (cell_of_heap (unhide HR) _).trans r1, (cell_of_heap (unhide HR) _).trans r2, (cell_of_heap (unhide HR) _).trans r3, rm.keep (fun _ _ _ => rfl) (by omega) (by omega)⟩

theorem mark_any : ∀ n, MarkSaid n
  | 0 => fun ks v lo hi k w h _ _ => by
    obtain ⟨a, cap, rfl⟩ := h
    have hn : ks = [] := by
      cases ks with
      | nil => rfl
      | cons t _ => exact t.elim
    subst hn
    refine (mark_nil a cap k w).mono ?_
    rintro e w' ⟨rfl, rfl⟩
    exact ⟨by simp [sizS], Out.refl _ _ _, a, cap, rfl⟩
  | n + 1 => mark_of (mark_any n)

end Go.Proofs.YtgkckkaegkdioaaDoor
/- BitMatch: what comes of it, as a function. -/
namespace Go.Proofs.YtgkckkaegkdioaaDoor
open Go.RowKit

/-- The term that a part makes of W bits from bit f on. -/
def leafM {n : Nat} (s : ByteArray) (f W : Nat) (g : SgT n) : Tm 1 :=
  if g.1 = 1 then ((1 : Int), signed g.2.2.2.1 W (orN (gbit s f) W g.2.2.2.2.1 W), (⟨#[]⟩ : ByteArray), ([] : List (Tm 0))) else ((9 : Int), (0 : Int), strB (cutBits s f W), ([] : List (Tm 0)))
/-- Whether a part takes its share of so many bits that are left. -/
def takesM {n : Nat} (g : SgT n) (left : Nat) : Prop := sgW g left ≤ (left : Int) ∧ sgW g left % g.2.2.1 = 0
/-- What comes of the parts from bit f on, behind the terms that are there: a code, and the terms. -/
def matX {n : Nat} (s : ByteArray) (L : Nat) : List (Tm 1) → Nat → List (SgT n) → Int × List (Tm 1)
  | acc, f, [] => if f < L then (6, []) else (0, acc)
  | acc, f, g :: gs => if sgW g ((L - f : Nat) : Int) ≤ ((L - f : Nat) : Int) ∧ sgW g ((L - f : Nat) : Int) % g.2.2.1 = 0 then matX s L (acc ++ [leafM s f (sgW g ((L - f : Nat) : Int)).toNat g]) (f + (sgW g ((L - f : Nat) : Int)).toNat) gs else (6, [])
/-- Whether parts can be matched. -/
def okM {n : Nat} (gs : List (SgT n)) : Prop := gs.length ≤ 200 ∧ ∀ i (h : i < gs.length), sgOK gs[i] = true ∧ (gs[i].2.1 = -1 → i + 1 = gs.length)
/-- What BitMatch answers: a code, and the terms. -/
def MatA {n : Nat} (L : Int) (s : ByteArray) (gs : List (SgT n)) (r : Int × List (Tm 1)) : Prop :=
  (okS L s = true ∧ okM gs ∧ matX s L.toNat [] 0 gs = r) ∨ (¬ (okS L s = true ∧ okM gs) ∧ r = (1, []))
theorem matA_ex {n : Nat} (L : Int) (s : ByteArray) (gs : List (SgT n)) : ∃ c ts, MatA L s gs (c, ts) := by
  by_cases h : okS L s = true ∧ okM gs
  · exact ⟨_, _, .inl ⟨h.1, h.2, rfl⟩⟩
  · exact ⟨1, [], .inr ⟨h, rfl⟩⟩

section
variable {n : Nat} {s : ByteArray} {L f W : Nat} {g : SgT n} {gs : List (SgT n)} {acc : List (Tm 1)} {r : Int × List (Tm 1)}
theorem matX_on (hw : sgW g ((L - f : Nat) : Int) = (W : Int)) (hl : W ≤ L - f) (hm : (W : Int) % g.2.2.1 = 0) : matX s L acc f (g :: gs) = matX s L (acc ++ [leafM s f W g]) (f + W) gs := by
  rw [matX, if_pos ⟨by rw [hw]; omega, by rw [hw]; exact hm⟩, hw, Int.toNat_natCast]
theorem matX_no (h : ¬ takesM g (L - f)) : matX s L acc f (g :: gs) = (6, []) := by rw [matX, if_neg (show ¬ (sgW g ((L - f : Nat) : Int) ≤ ((L - f : Nat) : Int) ∧ sgW g ((L - f : Nat) : Int) % g.2.2.1 = 0) from h)]
theorem matX_end (h : ¬ f < L) : matX s L acc f ([] : List (SgT n)) = (0, acc) := by rw [matX, if_neg h]
theorem matX_left (h : f < L) : matX s L acc f ([] : List (SgT n)) = (6, []) := by rw [matX, if_pos h]

theorem matX_len : ∀ (gs : List (SgT n)) (acc : List (Tm 1)) (f : Nat), (matX s L acc f gs).2.length ≤ acc.length + gs.length
  | [], acc, f => by
    rw [matX]
    split <;> simp
  | g :: gs, acc, f => by
    rw [matX]
    split
    · refine Nat.le_trans (matX_len gs _ _) ?_
      simp; omega
    · simp
theorem matA_len {L : Int} {c : Int} {ts : List (Tm 1)} (h : MatA L s gs (c, ts)) : ts.length ≤ 200 := by
  rcases h with ⟨_, h2, h3⟩ | ⟨_, h3⟩
  · have := matX_len (s := s) (L := L.toNat) gs [] 0
    rw [h3] at this
    have hl := h2.1
    simp at this
    omega
  · cases h3
    simp

theorem xbit_cut {li : Bool} : orN (xbit (cutBits s f W)) W li W = orN (gbit s f) W li W :=
  orN_congr W li W fun j hj => by unfold xbit; rw [cutBits_getD s f W j hj]
end

theorem leaf_siz : ∀ (ts : List (Tm 1)), (∀ t ∈ ts, kidsOf t = []) → sizS ts = ts.length := by
  intro ts h
  induction ts with
  | nil => rfl
  | cons t ts ih =>
    have h1 : sizS (t :: ts) = siz 1 t + sizS ts := by simp [sizS]
    rw [h1, siz_kids, h t (by simp), ih fun u hu => h u (by simp [hu])]
    simp [sizS]; omega
theorem kids0 (t : Tm 1) : kidsOf t = [] := by
  cases h : kidsOf t with
  | nil => rfl
  | cons u _ => exact u.elim
theorem leaf_siz' (ts : List (Tm 1)) : sizS ts = ts.length := leaf_siz ts fun t _ => kids0 t

theorem leaf_slice {S : Nat → Prop} {w : World} : ∀ {t : Tm 1} {c0 c1 c2 c3 : Value}, TAt S w 1 t c0 c1 c2 c3 → ∃ a cap, c3 = .slice a (kidsOf t).length cap
  | (_, _, _, _), _, _, _, _, ⟨_, _, _, _, _, _, a, cap, h, _⟩ => ⟨a, cap, h⟩

/-- A row of leaves: its blocks are its own. -/
theorem RowsX.own {base hi : Nat} {w : World} {ts : List (Tm 1)} {v : Value} {xs : List Value} (h : RowsX base w ts v xs) (hh : w.heap.size ≤ hi) : OwnS w 1 base hi ts v := by
  obtain ⟨h1, h2⟩ := h
  rcases h1.2 with ⟨rfl, h3⟩ | ⟨R, cap, cur, rfl, h4, h5, h6, h7, h8, h9⟩
  · have h0 : ts = [] := List.eq_nil_of_length_eq_zero h3
    subst h0
    exact ⟨none, 0, rfl, .inl rfl⟩
  · have hlt := (h1.lt R rfl).2
    refine ⟨_, cap, rfl, .inr ⟨R, cur, fun _ => R + 1, rfl, h5, h4, Nat.lt_succ_self _, fun _ _ _ => Nat.le_refl _, by show R + 1 ≤ hi; omega, by omega, fun i hi => ?_⟩⟩
    obtain ⟨d0, d1, d2, d3, e0, e1, e2, e3, ht⟩ := h2.2 i hi
    obtain ⟨_, _, _, ua, ul, uc, rfl, rfl, rfl, rfl⟩ := ht.shape
    refine ⟨.slice ua ul uc, ?_, leaf_slice ht⟩
    have := h1.cells (g := R) rfl (i * 4 + 3) _ e3
    rw [Go.WideShapes.add_plain, cell_of_heap h5, Nat.zero_add] at this
    exact this

theorem signed_64 {sg : Bool} {W x : Nat} (hW : W ≤ 49) (hx : x < 2 ^ W) : In64 (signed sg W x) := by
  have h1 : ((x : Nat) : Int) < ((2 ^ W : Nat) : Int) := Int.ofNat_lt.2 hx
  have h2 : ((2 ^ W : Nat) : Int) = 2 ^ W := by simp
  have h3 := two_pow_hi W hW
  rw [h2] at h1
  unfold In64 signed
  split <;> omega
theorem leaf_at {n : Nat} (S : Nat → Prop) (w : World) {k m : Int} {t : ByteArray} (hk : In64 k) (hm : In64 m) (ht : t.size ≤ 2 ^ 47) : TAt S w (n + 1) ((k, m, t, ([] : List (Tm n))) : Tm (n + 1)) (.int .i64 k) (.int .i64 m) (.string t) (.slice none 0 0) :=
  ⟨rfl, rfl, rfl, hk, hm, ht, none, 0, rfl, Nat.le_refl _, by simp, fun i hi => by cases hi⟩
theorem leafM_int {n : Nat} {s : ByteArray} {f W : Nat} {g : SgT n} (h : g.1 = 1) : leafM s f W g = ((1 : Int), signed g.2.2.2.1 W (orN (gbit s f) W g.2.2.2.2.1 W), (⟨#[]⟩ : ByteArray), ([] : List (Tm 0))) := if_pos h
theorem leafM_bin {n : Nat} {s : ByteArray} {f W : Nat} {g : SgT n} (h : g.1 ≠ 1) : leafM s f W g = ((9 : Int), (0 : Int), strB (cutBits s f W), ([] : List (Tm 0))) := if_neg h
theorem strB_cut_size (s : ByteArray) (f W : Nat) (hW : W ≤ 32000) : (strB (cutBits s f W)).size ≤ 2 ^ 47 := by
  have h := strB_size (cutBits s f W)
  rw [cutBits_length] at h
  rw [h]; omega

end Go.Proofs.YtgkckkaegkdioaaDoor
/- spec.l02Row: the bits of a row, a byte each: the slice is never nil. -/
namespace Go.Proofs.YtgkckkaegkdioaaDoor
open Go.RowKit

set_option maxRecDepth 100000 in
theorem row_some (n : Int) (s : ByteArray) (w : World) (hn : n ≤ 8 * s.size) (hs : n ≤ 1000000000) :
    Calls Tryd.prog 18 #[.agg #[.int .i64 n, .string s]] w fun e w' => ∃ g cap, e = .returned (.slice (some ⟨g, 0, none⟩) n.toNat cap) ∧ w'.ownsRow w.heap.size 5 1 (.slice (some ⟨g, 0, none⟩) n.toNat cap) n.toNat (u8s (bitsOf s n.toNat)) ∧ Below w.heap.size w w' := by
  obtain ⟨i0, hi, hz0, hz1, hz2⟩ := info_parts info_u8
  go_enter Tryd.func18, Tryd.ntmps18
  go_wp2_with fail
  go_loopw [3, 4] (fun v iv wr => ∃ k : Nat, k ≤ n.toNat ∧ iv = .int .i64 k ∧ wr.ownsRow (w.heap.size + 1) 5 1 v k (u8s (bitsOf s k)) ∧ v ≠ .slice none 0 0 ∧ wr.cell? ⟨w.heap.size, 0, none⟩ = some (.int .i64 n) ∧
      wr.cell? ⟨w.heap.size, 1, none⟩ = some (.string s) ∧ Below (w.heap.size + 1) (w.alloc (.cells #[.int .i64 n, .string s] 30)) wr) (fun _ iv _ => n.toNat - (intOf iv).toNat)
  case atStart =>
    refine ⟨0, Nat.zero_le _, rfl, by have h := World.ownsRow_lit (base := w.heap.size + 1) (e := 5) (size := 1) (w.alloc (.cells #[.int .i64 n, .string s] 30)) #[] 0 (by simp) (by decide) rfl; simpa [u8s, bitsOf] using h, by simp, ?_, ?_, (Below.refl _ _).alloc (by simp) _⟩
    · exact (World.cell?_alloc_past _ _ _ (by simp)).trans (two_new _ _ _ _).1
    · exact (World.cell?_alloc_past _ _ _ (by simp)).trans (two_new _ _ _ _).2
  case round =>
    obtain ⟨k, hk, rfl, hown, hnn, hc0, hc1, hb⟩ := hrel
    have hsz := hb.size
    simp only [World.size_alloc] at hsz
    by_cases hlt : (k : Int) < n
    · have hkl : k / 8 < s.size := by omega
      go_wp2_with (at_builtin; refine wpList_append_own _ rfl (.tmp 12) (.tmp 24) 51 rfl (w.heap.size + 1) 5 i0 (.int .u8 0) 1 1 Tryd.underlying51 hi hz0 hz1 hz2 rfl (by decide) _ _ _ rfl (hown.alloc _) ⟨wr.heap.size, 0, none⟩ 1 1 [.int .u8 (bit s k)] rfl rfl ?c1 ?c2 ?c3 ?c4 ?c5 ?_)
      case c1 => rw [bit_walk s k hkl]; exact cell_one_new _ _ _
      case c2 => intro u hu; simp at hu; subst hu; rfl
      case c3 => unfold maxLen; omega
      case c4 => omega
      case c5 => simp; omega
      intro v' w1 hown' hgrow hni
      have hn' : v' ≠ .slice none 0 0 := fun h => hni h
      have hne : some w.heap.size ≠ u3.ownBlock := fun h => by have := (hown.lt _ h.symm).1; omega
      have hB1 : Below (w.heap.size + 1) (w.alloc (.cells #[.int .i64 n, .string s] 30)) w1 := (hb.alloc hsz _).grown hgrow (by simp; omega) (fun j hj => (hown.lt j hj).1)
      have hd0 := (hgrow.cell (a := ⟨w.heap.size, 0, none⟩) ((World.cell?_alloc_past _ _ _ (by show w.heap.size < _; omega)).trans hc0) hne)
      have hd1 := (hgrow.cell (a := ⟨w.heap.size, 1, none⟩) ((World.cell?_alloc_past _ _ _ (by show w.heap.size < _; omega)).trans hc1) hne)
      have hown2 : w1.ownsRow (w.heap.size + 1) 5 1 v' (k + 1) (u8s (bitsOf s (k + 1))) := by rw [bitsOf_succ]; simpa [u8s] using hown'
      clear hown' hown hb hc0 hc1 hgrow
      go_wp2
      go_roundw
      case rel => exact ⟨k + 1, by omega, by go_num, hown2, hn', hd0, hd1, hB1⟩
      case measure => simp [intOf]; omega
    · have hkn : n.toNat = k := by omega
      go_wp2_with fail
      go_ret
      rcases Go.Joins.ownsRow_forms hown with ⟨h, _⟩ | ⟨g, cap, rfl⟩
      · exact absurd h hnn
      exact ⟨g, cap, rfl, ownsRow_base hown (by omega), ((Below.refl w.heap.size w).alloc (Nat.le_refl _) _).trans (hb.mono (by omega))⟩

end Go.Proofs.YtgkckkaegkdioaaDoor
/- What the draws of maps need. -/
namespace Go.Proofs.YtgkckkaegkdioaaDoor
open Go.RowKit Go.Deep

/-- An append whose run is known, as one step of a region that draws its order. -/
theorem step_append_ran {P : Program} {ops : Array Oper} {o : Oper} {a : Act} {w : World} {K : Act → World → Prop} {Q : Exit → Act → World → Prop} {E : Prop} (hgd : o.guard = none) (s x : Operand) (t tn : TypeId)
    (ho : o.op = .call { callee := .builtin .append, args := #[s, x], argTypes := #[t, tn] }) (vs vx : Value) (hs : a.eval s = vs) (hx : a.eval x = vx) (v' : Value) (w' : World)
    (hr : (Builtin.append_ #[t, tn] o.type #[vs, vx]).run P w = .ok v' w') (h : K (a.put o.dst v') w') : if Region.wanted o (yielded ops a.tmps) = true then Oper.wp P o a w K Q else E := by
  have hw : Region.wanted o (yielded ops a.tmps) = true := by simp [Region.wanted, hgd]
  rw [if_pos hw]
  exact Go.Lib.wp_append_run w s x t tn ho vs vx hs hx v' w' hr h

theorem shape_one {S : Nat → Prop} {w : World} {n : Nat} {t : Tm n} {c0 c1 c2 c3 : Value} (h : TAt S w n t c0 c1 c2 c3) : ∀ u ∈ [c0, c1, c2, c3], u.oneCell' = true := by
  obtain ⟨_, _, _, _, _, _, rfl, rfl, rfl, rfl⟩ := h.shape
  intro u hu
  simp at hu
  rcases hu with rfl | rfl | rfl | rfl <;> rfl

end Go.Proofs.YtgkckkaegkdioaaDoor
/- What the draws of terms need. -/
namespace Go.Proofs.YtgkckkaegkdioaaDoor
open Go.RowKit Go.Deep

/-- The result's four cells stored. -/
def put4 (w : World) (B : Nat) (d0 d1 d2 d3 : Value) : World := (((w.setCell ⟨B, 0, none⟩ d0).setCell ⟨B, 1, none⟩ d1).setCell ⟨B, 2, none⟩ d2).setCell ⟨B, 3, none⟩ d3
theorem put4_kept (w : World) (B : Nat) (d0 d1 d2 d3 : Value) : Kept B w (put4 w B d0 d1 d2 d3) := ((((Kept.refl B w).set _ _).set _ _).set _ _).set _ _
/-- Four cells of a result. -/
def Res4 (B : Nat) (w : World) : Prop := ∃ a b c d, w.heap[B]? = some (.cells #[a, b, c, d] 48 (0, 0))
theorem Res4.lt {B : Nat} {w : World} (h : Res4 B w) : B < w.heap.size := by
  obtain ⟨_, _, _, _, h⟩ := h
  rcases Nat.lt_or_ge B w.heap.size with h1 | h1
  · exact h1
  · rw [Array.getElem?_eq_none h1] at h; cases h
theorem Res4.keep {B : Nat} {w w' : World} (h : Res4 B w) (hb : w'.heap[B]? = w.heap[B]?) : Res4 B w' := by
  obtain ⟨a, b, s, c, h1⟩ := h
  exact ⟨a, b, s, c, hb.trans h1⟩
theorem rows_nil {D base : Nat} (w : World) : RowsX base w ([] : List (Tm D)) (.slice none 0 0) [] := ⟨World.ownsRow_nil w base _ 4, CellsAt.nil⟩

end Go.Proofs.YtgkckkaegkdioaaDoor
/- spec.l02Get: bits as a number. -/
namespace Go.Proofs.YtgkckkaegkdioaaDoor
open Go.RowKit Go.Deep

set_option maxRecDepth 100000 in
set_option maxHeartbeats 1000000 in
theorem getBig_any (v : Value) (xs : List Int) (L : Nat) (sg : Bool) (w : World) (hv : RowAt w v xs) (hx : ∀ x ∈ xs, x = 0 ∨ x = 1) (hl : xs.length = L) (hL : L ≤ 49) :
    Calls Tryd.prog 20 #[v, .bool sg, .bool false] w fun e w' => e = .returned (.int .i64 (signed sg L (hN (xbit xs) L))) ∧ Below w.heap.size w w' := by
  obtain ⟨a, cap, rfl, hcap, hel⟩ := hv
  rw [hl] at hcap hel ⊢
  have Hel := hide hel
  have Hx := hide hx
  clear hel hx hl
  go_enter Tryd.func20, Tryd.ntmps20
  go_wp2_with fail
  go_loopw [7, 11] (fun nv iv wr => ∃ k : Nat, k ≤ L ∧ iv = .int .i64 k ∧ nv = .int .i64 (hN (xbit xs) k) ∧ Below w.heap.size w wr) (fun _ iv _ => L - (intOf iv).toNat)
  case atStart => exact ⟨0, Nat.zero_le _, rfl, rfl, Below.refl _ _⟩
  case round =>
    obtain ⟨k, hk, rfl, rfl, hb⟩ := hrel
    have hle := hN_le (xbit xs) k (by omega)
    by_cases hlt : k < L
    · obtain ⟨b, off, rfl, hblk, hc⟩ := unhide Hel k hlt
      have hcr := (hb.cell (p := ⟨b, off + k, none⟩) hblk).trans hc
      have h01 := getD_01 (unhide Hx) k
      have HS := hide (hN_step (unhide Hx) k)
      obtain ⟨x, hxe⟩ : ∃ x, x = xs.getD k 0 := ⟨_, rfl⟩
      rw [← hxe] at hcr h01
      have HE := hide hxe
      clear hc hxe
      obtain ⟨n, hn⟩ : ∃ n, n = hN (xbit xs) k := ⟨_, rfl⟩
      rw [← hn] at hle ⊢
      have HN := hide hn
      clear hn
      go_wp2_with fail
      go_roundw
      case rel => exact ⟨k + 1, by omega, by go_num, by rw [← unhide HS, ← unhide HN, ← unhide HE], hb⟩
      case measure => simp [intOf]; omega
    · have hkn : k = L := by omega
      subst hkn
      obtain ⟨n, hn⟩ : ∃ n, n = hN (xbit xs) k := ⟨_, rfl⟩
      rw [← hn] at hle ⊢
      have HN := hide hn
      clear hn
      have hp1 := two_pow_lo (k - 1)
      have hp2 := two_pow_hi (k - 1) (by omega)
      have hq1 := two_pow_lo k
      have hq2 := two_pow_hi k hL
      go_wp2_with fail
      all_goals
        go_ret
        refine ⟨?_, hb⟩
        rw [← unhide HN]
        first
          | rw [signed_neg ‹_› ‹_› ‹_›]; rfl
          | rw [signed_lt ‹_›]; rfl
          | rw [signed_zero ‹_›]; rfl
          | rw [signed_no (by simpa using ‹¬ sg = true›)]; rfl
          | rw [signed_no ‹_›]; rfl

end Go.Proofs.YtgkckkaegkdioaaDoor
/- spec.l02Get, little: bits as a number, in pieces of eight. -/
namespace Go.Proofs.YtgkckkaegkdioaaDoor
open Go.RowKit Go.Deep

set_option maxRecDepth 100000 in
set_option maxHeartbeats 1000000 in
theorem getLittle_any (v : Value) (xs : List Int) (L : Nat) (sg : Bool) (w : World) (hv : RowAt w v xs) (hx : ∀ x ∈ xs, x = 0 ∨ x = 1) (hl : xs.length = L) (hL : L ≤ 49) :
    Calls Tryd.prog 20 #[v, .bool sg, .bool true] w fun e w' => e = .returned (.int .i64 (signed sg L (orN (xbit xs) L true L))) ∧ Below w.heap.size w w' := by
  obtain ⟨a, cap, hvv, hcap, _⟩ := id hv
  subst hvv
  rw [hl] at hcap hv ⊢
  have Hv := hide hv
  have Hx := hide hx
  have Hl := hide hl
  clear hv hx hl
  go_enter Tryd.func20, Tryd.ntmps20
  go_wp2_with fail
  go_loopw [7, 8, 9] (fun nv wv iv wr => ∃ p : Nat, 8 * p < L + 8 ∧ iv = .int .i64 (8 * (p : Int)) ∧ wv = .int .i64 (8 * (p : Int)) ∧ nv = .int .i64 (totN (xbit xs) L p) ∧ Below w.heap.size w wr) (fun _ _ iv _ => L + 8 - (intOf iv).toNat)
  case atStart => exact ⟨0, by omega, rfl, rfl, rfl, Below.refl _ _⟩
  case round =>
    obtain ⟨p, hp, rfl, rfl, rfl, hb⟩ := hrel
    have hle := tot_bounds (xbit xs) L p hL
    by_cases hlt : 8 * p < L
    · have hne : ¬ cap = 8 * p := by omega
      have hS := hide (tot_step (xbit xs) L p)
      have hT := tot_bounds (xbit xs) L (p + 1) hL
      rw [unhide hS] at hT
      obtain ⟨n, hn⟩ : ∃ n, n = totN (xbit xs) L p := ⟨_, rfl⟩
      rw [← hn] at hle hT ⊢
      have HN := hide hn
      have HT := hide hT
      have Hvr := hide ((unhide Hv).keep hb)
      have HB := hide hb
      clear hn hb hT
      by_cases h8 : L < 8 * p + 8
      · have h8' : decide ((L : Int) < 8 * (p : Int) + 8) = true := by simp; omega
        go_wp2_with fail
        refine (getBig_any _ (piece xs (8 * p) (L - 8 * p)) (L - 8 * p) false wr ((unhide Hvr).slice (8 * p) (L - 8 * p) (by rw [unhide Hl]; omega) (piece_length xs (8 * p) (L - 8 * p)) (fun i hi => piece_getD xs (8 * p) (L - 8 * p) i hi) _ (fun _ b off h => by rw [h]; exact congrArg some (Go.WideShapes.add_plain b off (8 * p)))) (piece_01 (unhide Hx) (8 * p) (L - 8 * p)) (piece_length xs (8 * p) (L - 8 * p)) (by omega)).mono ?_
        rintro e w1 ⟨rfl, hb1⟩
        rw [signed_no rfl, hN_piece]
        have hT := unhide HT
        have hSS := unhide hS
        rw [show min (8 * p + 8) L - 8 * p = L - 8 * p by omega] at hT hSS
        obtain ⟨r, hr⟩ : ∃ r, r = hN (fun j => xbit xs (8 * p + j)) (L - 8 * p) := ⟨_, rfl⟩
        rw [← hr] at hT hSS ⊢
        have hp1 := two_pow_lo (8 * p)
        have hr0 : (0 : Int) ≤ (r : Int) * 2 ^ (8 * p) := Int.mul_nonneg (by omega) (by omega)
        have HS := hide hSS
        have HB1 := hide hb1
        clear hr hb1 hSS
        go_wp2_with fail
        go_roundw
        case rel => exact ⟨p + 1, by omega, by go_num, by go_num, by rw [unhide HS, ← unhide HN], (unhide HB).trans ((unhide HB1).mono (unhide HB).size)⟩
        case measure => simp [intOf]; omega
      · have h8' : decide ((L : Int) < 8 * (p : Int) + 8) = false := by simp; omega
        go_wp2_with fail
        refine (getBig_any _ (piece xs (8 * p) (8)) (8) false wr ((unhide Hvr).slice (8 * p) (8) (by rw [unhide Hl]; omega) (piece_length xs (8 * p) (8)) (fun i hi => piece_getD xs (8 * p) (8) i hi) _ (fun _ b off h => by rw [h]; exact congrArg some (Go.WideShapes.add_plain b off (8 * p)))) (piece_01 (unhide Hx) (8 * p) (8)) (piece_length xs (8 * p) (8)) (by omega)).mono ?_
        rintro e w1 ⟨rfl, hb1⟩
        rw [signed_no rfl, hN_piece]
        have hT := unhide HT
        have hSS := unhide hS
        rw [show min (8 * p + 8) L - 8 * p = 8 by omega] at hT hSS
        obtain ⟨r, hr⟩ : ∃ r, r = hN (fun j => xbit xs (8 * p + j)) (8) := ⟨_, rfl⟩
        rw [← hr] at hT hSS ⊢
        have hp1 := two_pow_lo (8 * p)
        have hr0 : (0 : Int) ≤ (r : Int) * 2 ^ (8 * p) := Int.mul_nonneg (by omega) (by omega)
        have HS := hide hSS
        have HB1 := hide hb1
        clear hr hb1 hSS
        go_wp2_with fail
        go_roundw
        case rel => exact ⟨p + 1, by omega, by go_num, by go_num, by rw [unhide HS, ← unhide HN], (unhide HB).trans ((unhide HB1).mono (unhide HB).size)⟩
        case measure => simp [intOf]; omega
    · have hr := hide (little_eq (xbit xs) L p (by omega))
      obtain ⟨n, hn⟩ : ∃ n, n = totN (xbit xs) L p := ⟨_, rfl⟩
      rw [← hn] at hle ⊢
      have HN := hide hn
      have hp1 := two_pow_lo (L - 1)
      have hp2 := two_pow_hi (L - 1) (by omega)
      have hq1 := two_pow_lo L
      have hq2 := two_pow_hi L hL
      clear hn
      go_wp2_with fail
      all_goals
        go_ret
        refine ⟨?_, hb⟩
        rw [← unhide hr, ← unhide HN]
        first
          | rw [signed_neg ‹_› ‹_› ‹_›]; rfl
          | rw [signed_lt ‹_›]; rfl
          | rw [signed_zero ‹_›]; rfl
          | rw [signed_no (by simpa using ‹¬ sg = true›)]; rfl
          | rw [signed_no ‹_›]; rfl

end Go.Proofs.YtgkckkaegkdioaaDoor
