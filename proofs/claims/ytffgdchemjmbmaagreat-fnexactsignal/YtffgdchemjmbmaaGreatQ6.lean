/- The laws' markText: a function of its number. -/
import Derived.Test.YtffgdchemjmbmaaGreatQ1
import Derived.Deep.OwnRows
import Derived.Test.YtffgdchemjmbmaaGreatQ5
import Derived.Test.YtffgdchemjmbmaaGreatQ4
import Derived.Deep.DeepCutAuto
import Derived.Defers
import Derived.Recover
import Derived.Deep.RegionWith
namespace Go.Proofs.YtffgdchemjmbmaaGreat
open Go.RowKit Go.Deep

/-- The digits ahead of a text. -/
def digF : Nat → Nat → ByteArray → ByteArray
  | 0, _, o => o
  | f + 1, k, o => if k = 0 then o else digF f (k / 10) (strOfNums [((48 + k % 10 : Nat) : Int)] ++ o)
theorem digF_zero (f : Nat) (o : ByteArray) : digF f 0 o = o := by
  cases f with
  | zero => rfl
  | succ f => simp [digF]
/-- The mark of a number. -/
def mtext (k : Nat) : ByteArray := if k = 0 then ⟨#[109, 48]⟩ else ⟨#[109]⟩ ++ digF k k ⟨#[]⟩

theorem one_size (b : Int) : (strOfNums [b]).size = 1 := by simp [strOfNums, ByteArray.size]

set_option maxRecDepth 40000 in
set_option maxHeartbeats 1000000 in
theorem mtext_any (k : Nat) (w : World) (hk : k ≤ 1000000000) :
    Calls Tryz.prog 34 #[.int .i64 k] w fun e w' => e = .returned (.string (mtext k)) ∧ Below w.heap.size w w' := by
  by_cases h0 : k = 0
  · subst h0
    go_enter Tryz.func34, Tryz.ntmps34
    go_wp2_with fail
    go_ret
    exact ⟨rfl, Below.refl _ _⟩
  · have h1 : ¬ (k : Int) ≤ 0 := by omega
    have hm : mtext k = ⟨#[109]⟩ ++ digF k k ⟨#[]⟩ := if_neg h0
    have HM := hide hm
    clear hm
    go_enter Tryz.func34, Tryz.ntmps34
    go_wp2_with fail
    go_loopw [0, 3] (fun kv ov wr => ∃ (q f : Nat) (o : ByteArray), kv = .int .i64 q ∧ ov = .string o ∧ q ≤ f ∧ digF f q o = digF k k ⟨#[]⟩ ∧ o.size + q ≤ k ∧ Below w.heap.size w wr) (fun kv _ _ => (intOf kv).toNat)
    case atStart => exact ⟨k, k, ⟨#[]⟩, rfl, rfl, Nat.le_refl _, rfl, by show 0 + k ≤ k; omega, Below.refl _ _⟩
    case round =>
      obtain ⟨q, f, o, rfl, rfl, hqf, hdig, hsz, hb⟩ := hrel
      by_cases hq : q = 0
      · subst hq
        rw [digF_zero] at hdig
        have HD := hide hdig
        have HB := hide hb
        have hlim : ¬ 9223372036854775807 < (⟨#[109]⟩ : ByteArray).size + o.size := by show ¬ 9223372036854775807 < 1 + o.size; omega
        clear hdig hb
        go_wp2_with fail
        go_ret
        exact ⟨by rw [unhide HM, ← unhide HD]; rfl, unhide HB⟩
      · have hq2 : (0 : Int) < (q : Int) := by omega
        obtain ⟨f', rfl⟩ : ∃ f', f = f' + 1 := ⟨f - 1, by omega⟩
        have hd2 : digF f' (q / 10) (strOfNums [((48 + q % 10 : Nat) : Int)] ++ o) = digF k k ⟨#[]⟩ := by
          rw [← hdig, digF, if_neg hq]
        obtain ⟨b, hbd⟩ : ∃ b : Int, b = ((48 + q % 10 : Nat) : Int) := ⟨_, rfl⟩
        have hbe : 48 + (q : Int) % 10 = b := by omega
        have hb8 : IntKind.u8.wrap b = b := by rw [IntKind.wrap_u8]; omega
        have hcv := run_convert_bytes_arg (P := Tryz.prog) (wr.alloc (.cells #[.int .u8 b] 5)) 92 5 Tryz.underlying92 Tryz.underlying5 wr.heap.size 0 1 1 [b] rfl (fun i hi => by
          have : i = 0 := by omega
          subst this
          exact cell_of_heap (heap_new _ _) 0) 9 Tryz.underlying9
        have hs1 := one_size b
        rw [← hbd] at hd2
        obtain ⟨S, hS⟩ : ∃ S, S = strOfNums [b] := ⟨_, rfl⟩
        rw [← hS] at hcv hd2 hs1
        have hlim : ¬ 9223372036854775807 < S.size + o.size := by omega
        have HD := hide hd2
        have HB := hide (hb.alloc hb.size (.cells #[.int .u8 b] 5))
        have HBD := hide hbd
        clear hdig hd2 hb hbd hS
        go_wp2_with fail

        go_roundw
        case rel => exact ⟨q / 10, f', S ++ o, by go_num, rfl, by omega, unhide HD, by rw [ByteArray.size_append]; omega, unhide HB⟩
        case measure => simp [intOf]; omega

end Go.Proofs.YtffgdchemjmbmaaGreat
/- The laws' markTermS: what it marks. -/
namespace Go.Proofs.YtffgdchemjmbmaaGreat
open Go.RowKit Go.Deep

def kidsOf {n : Nat} (t : Tm (n + 1)) : List (Tm n) := t.2.2.2
theorem siz_kids {n : Nat} (t : Tm (n + 1)) : siz (n + 1) t = 1 + sizS (kidsOf t) := by
  obtain ⟨_, _, _, _⟩ := t
  rfl
theorem len_siz : ∀ {n : Nat} (ks : List (Tm n)), ks.length ≤ sizS ks
  | 0, ks => by
    cases ks with
    | nil => exact Nat.le_refl _
    | cons t _ => exact t.elim
  | n + 1, ks => by
    induction ks with
    | nil => exact Nat.le_refl _
    | cons t ts ih =>
      have : sizS (t :: ts) = siz (n + 1) t + sizS ts := by simp [sizS]
      rw [this, siz_kids, List.length_cons]
      omega

/-- A row of terms, and the rows below it, each in blocks of its own between lo and hi. -/
def OwnS (w : World) : (n : Nat) → Nat → Nat → List (Tm n) → Value → Prop
  | 0, _, _, ks, v => ∃ a cap, v = .slice a ks.length cap
  | n + 1, lo, hi, ks, v => ∃ a cap, v = .slice a ks.length cap ∧ (ks = [] ∨ ∃ R cs, ∃ bs : Nat → Nat, a = some ⟨R, 0, none⟩ ∧ w.heap[R]? = some (.cells cs 28 (0, 0)) ∧ lo ≤ R ∧ R < bs 0 ∧ (∀ i j, i ≤ j → bs i ≤ bs j) ∧ bs ks.length ≤ hi ∧
      ks.length * 4 ≤ cs.size ∧ ∀ i (h : i < ks.length), ∃ v3, cs[i * 4 + 3]? = some v3 ∧ OwnS w n (bs i) (bs (i + 1)) (kidsOf ks[i]) v3)

theorem OwnS.keep {w w' : World} : ∀ {n lo hi : Nat} {ks : List (Tm n)} {v : Value}, OwnS w n lo hi ks v → (∀ b, lo ≤ b → b < hi → w'.heap[b]? = w.heap[b]?) → OwnS w' n lo hi ks v
  | 0, _, _, _, _, h, _ => h
  | n + 1, lo, hi, ks, v, ⟨a, cap, hv, h⟩, hk => by
    refine ⟨a, cap, hv, ?_⟩
    rcases h with h | ⟨R, cs, bs, h1, h2, h3, h4, h5, h6, h7, h8⟩
    · exact .inl h
    · by_cases hn : ks = []
      · exact .inl hn
      refine .inr ⟨R, cs, bs, h1, ?_, h3, h4, h5, h6, h7, fun i hi' => ?_⟩
      · rw [hk R h3 (by have := h5 0 ks.length (Nat.zero_le _); omega), h2]
      · obtain ⟨v3, e3, ho⟩ := h8 i hi'
        exact ⟨v3, e3, ho.keep fun b hb1 hb2 => hk b (by have := h5 0 i (Nat.zero_le _); omega) (by have := h5 (i + 1) ks.length (by omega); omega)⟩
theorem OwnS.form {w : World} : ∀ {n lo hi : Nat} {ks : List (Tm n)} {v : Value}, OwnS w n lo hi ks v → ∃ a cap, v = .slice a ks.length cap
  | 0, _, _, _, _, h => h
  | _ + 1, _, _, _, _, ⟨a, cap, h, _⟩ => ⟨a, cap, h⟩

/-- Marked from k on. -/
def MkdS (w : World) : (n : Nat) → Nat → Nat → List (Tm n) → Value → Nat → Prop
  | 0, _, _, ks, v, _ => ∃ a cap, v = .slice a ks.length cap
  | n + 1, lo, hi, ks, v, k => ∃ a cap, v = .slice a ks.length cap ∧ (ks = [] ∨ ∃ R, a = some ⟨R, 0, none⟩ ∧ lo ≤ R ∧ R < hi ∧ ∀ i (h : i < ks.length), ∃ v3 : Value, w.cell? ⟨R, i * 4, none⟩ = some (.int .i64 ((k + 3 * sizS (ks.take i) : Nat) : Int)) ∧
      w.cell? ⟨R, i * 4 + 1, none⟩ = some (.int .i64 ((k + 3 * sizS (ks.take i) + 1 : Nat) : Int)) ∧ w.cell? ⟨R, i * 4 + 2, none⟩ = some (.string (mtext (k + 3 * sizS (ks.take i) + 2))) ∧ w.cell? ⟨R, i * 4 + 3, none⟩ = some v3 ∧
      MkdS w n lo hi (kidsOf ks[i]) v3 (k + 3 * sizS (ks.take i) + 3))
theorem MkdS.keep {w w' : World} : ∀ {n lo hi lo' hi' : Nat} {ks : List (Tm n)} {v : Value} {k : Nat}, MkdS w n lo hi ks v k → (∀ b, lo ≤ b → b < hi → w'.heap[b]? = w.heap[b]?) → lo' ≤ lo → hi ≤ hi' → MkdS w' n lo' hi' ks v k
  | 0, _, _, _, _, _, _, _, h, _, _, _ => h
  | n + 1, lo, hi, lo', hi', ks, v, k, ⟨a, cap, hv, h⟩, hk, hl, hh => by
    refine ⟨a, cap, hv, ?_⟩
    rcases h with h | ⟨R, h1, h2, h3, h4⟩
    · exact .inl h
    · refine .inr ⟨R, h1, by omega, by omega, fun i hi' => ?_⟩
      obtain ⟨v3, e0, e1, e2, e3, hm⟩ := h4 i hi'
      have hc : ∀ o, w'.cell? ⟨R, o, none⟩ = w.cell? ⟨R, o, none⟩ := fun o => World.cell?_of_block (w := w) (hk R h2 h3)
      exact ⟨v3, (hc _).trans e0, (hc _).trans e1, (hc _).trans e2, (hc _).trans e3, hm.keep hk hl hh⟩

/-- Only blocks between lo and hi, and new ones, were written. -/
structure Out (lo hi : Nat) (w w' : World) : Prop where
  os : w'.os = w.os
  tape : w'.tape = w.tape
  output : w'.output = w.output
  size : w.heap.size ≤ w'.heap.size
  block : ∀ b, b < w.heap.size → b < lo ∨ hi ≤ b → w'.heap[b]? = w.heap[b]?
theorem Out.refl (lo hi : Nat) (w : World) : Out lo hi w w := ⟨rfl, rfl, rfl, Nat.le_refl _, fun _ _ _ => rfl⟩
theorem Out.trans {lo hi : Nat} {a b c : World} (h : Out lo hi a b) (k : Out lo hi b c) : Out lo hi a c :=
  ⟨k.os.trans h.os, k.tape.trans h.tape, k.output.trans h.output, Nat.le_trans h.size k.size, fun i hi hg => (k.block i (Nat.lt_of_lt_of_le hi h.size) hg).trans (h.block i hi hg)⟩
theorem Out.below {lo hi : Nat} {w w' : World} (h : Below w.heap.size w w') : Out lo hi w w' := ⟨h.os, h.tape, h.output, h.size, fun b hb _ => h.block b hb⟩
theorem Out.set {lo hi R : Nat} {a w : World} (h : Out lo hi a w) (h1 : lo ≤ R) (h2 : R < hi) (o : Nat) (v : Value) : Out lo hi a (w.setCell ⟨R, o, none⟩ v) :=
  h.trans ⟨rfl, rfl, rfl, by simp, fun k _ hg => Below.heap_setCell _ _ _ _ (by show k ≠ R; omega)⟩
theorem Out.wide {lo hi lo' hi' : Nat} {w w' : World} (h : Out lo hi w w') (h1 : lo' ≤ lo) (h2 : hi ≤ hi') : Out lo' hi' w w' := ⟨h.os, h.tape, h.output, h.size, fun b hb hg => h.block b hb (by omega)⟩

def MarkSaid (n : Nat) : Prop := ∀ (ks : List (Tm n)) (v : Value) (lo hi k : Nat) (w : World), OwnS w n lo hi ks v → hi ≤ w.heap.size → k + 3 * sizS ks ≤ 100000000 →
  Calls Tryz.prog 23 #[v, .int .i64 k] w fun e w' => e = .returned (.int .i64 ((k + 3 * sizS ks : Nat) : Int)) ∧ Out lo hi w w' ∧ MkdS w' n lo hi ks v k

set_option maxRecDepth 40000 in
set_option maxHeartbeats 1000000 in
theorem mark_nil (a : Option Addr) (cap k : Nat) (w : World) : Calls Tryz.prog 23 #[.slice a 0 cap, .int .i64 k] w fun e w' => e = .returned (.int .i64 k) ∧ w' = w := by
  go_enter Tryz.func23, Tryz.ntmps23
  go_wp2_with fail
  go_loopw [1, 5] (fun kv iv wr => kv = .int .i64 k ∧ iv = .int .i64 0 ∧ wr = w) (fun _ _ _ => 0)
  case atStart => exact ⟨rfl, rfl, rfl⟩
  case round =>
    obtain ⟨rfl, rfl, rfl⟩ := hrel
    go_wp2_with fail
    go_ret
    exact ⟨rfl, rfl⟩

set_option maxRecDepth 40000 in
set_option maxHeartbeats 2000000 in
theorem mark_of {n : Nat} (ih : MarkSaid n) : MarkSaid (n + 1) := by
  rintro ks v lo hi k w ⟨a, cap, rfl, h⟩ hhi hk
  by_cases hn : ks = []
  · subst hn
    refine (mark_nil a cap k w).mono ?_
    rintro e w' ⟨rfl, rfl⟩
    exact ⟨by simp [sizS], Out.refl _ _ _, a, cap, rfl, .inl rfl⟩
  rcases h with h | ⟨R, cs, bs, rfl, hR, hlo, hb0, hmono, hbh, hcs, hkid⟩
  · exact absurd h hn
  have hlen := len_siz ks
  have HK := hide hkid
  have HM := hide hmono
  have hRw : R < w.heap.size := (Array.getElem?_eq_some_iff.1 hR).1
  clear hkid hmono
  go_enter Tryz.func23, Tryz.ntmps23
  go_wp2_with fail
  go_loopw [1, 5] (fun kv iv wr => ∃ (i : Nat) (cr : Array Value), i ≤ ks.length ∧ iv = .int .i64 i ∧ kv = .int .i64 ((k + 3 * sizS (ks.take i) : Nat) : Int) ∧ wr.heap[R]? = some (.cells cr 28 (0, 0)) ∧ cr.size = cs.size ∧ (∀ j, cr[j * 4 + 3]? = cs[j * 4 + 3]?) ∧
      Out R (bs i) w wr ∧ (∀ b, b < w.heap.size → b ≠ R → b < bs 0 ∨ bs i ≤ b → wr.heap[b]? = w.heap[b]?) ∧ ∀ j (h : j < ks.length), j < i → ∃ v3 : Value, cr[j * 4]? = some (.int .i64 ((k + 3 * sizS (ks.take j) : Nat) : Int)) ∧ cr[j * 4 + 1]? = some (.int .i64 ((k + 3 * sizS (ks.take j) + 1 : Nat) : Int)) ∧
        cr[j * 4 + 2]? = some (.string (mtext (k + 3 * sizS (ks.take j) + 2))) ∧ cr[j * 4 + 3]? = some v3 ∧ MkdS wr n (bs j) (bs (j + 1)) (kidsOf ks[j]) v3 (k + 3 * sizS (ks.take j) + 3)) (fun _ iv _ => ks.length - (intOf iv).toNat)
  case atStart => exact ⟨0, cs, Nat.zero_le _, rfl, by simp [sizS], hR, rfl, fun _ => rfl, Out.refl _ _ _, fun _ _ _ _ => rfl, fun j _ hj => by omega⟩
  case round =>
    obtain ⟨i, cr, hil, rfl, rfl, hRr, hcr, hc3, hout, hblk, hdone⟩ := hrel
    by_cases hlt : i < ks.length
    · obtain ⟨v3, e3, ho3⟩ := unhide HK i hlt
      obtain ⟨a3, cap3, hv3⟩ := ho3.form
      have hsz := sizS_take ks i hlt
      rw [siz_kids] at hsz
      have hsl := sizS_le ks (i + 1)
      obtain ⟨K, hKd⟩ : ∃ K, K = k + 3 * sizS (ks.take i) := ⟨_, rfl⟩
      rw [← hKd]
      have p0 := cell_of_heap hRr (i * 4)
      have p1 := cell_of_heap hRr (i * 4 + 1)
      rw [Array.getElem?_eq_getElem (by omega)] at p0 p1
      have q0 := frozen_of_heap hRr (i * 4)
      have q1 := frozen_of_heap hRr (i * 4 + 1)
      have hRs := (Array.getElem?_eq_some_iff.1 hRr).1
      have hb0i := unhide HM 0 i (Nat.zero_le _)
      have hbi1 := unhide HM i (i + 1) (by omega)
      have hbil := unhide HM (i + 1) ks.length hlt
      have hK : K + 3 + 3 * sizS (kidsOf ks[i]) ≤ 100000000 := by omega
      have HVAL := hide (show ((K + 3 + 3 * sizS (kidsOf ks[i]) : Nat) : Int) = ((k + 3 * sizS (ks.take (i + 1)) : Nat) : Int) by rw [hsz, hKd]; omega)
      have HKD := hide hKd
      have HR := hide hRr
      have HDN := hide hdone
      have HOUT := hide hout
      have HBLK := hide hblk
      have HC3 := hide hc3
      have HO3 := hide ho3
      have HV3 := hide hv3
      have HE3 := hide e3
      clear hRr hdone hout hblk hc3 hKd hsz hsl ho3 hv3 e3
      go_wp2_with fail
      rw [show (K : Int) + 1 + 1 = ((K + 2 : Nat) : Int) by omega]
      obtain ⟨w2, hw2⟩ : ∃ w2, w2 = (wr.setCell ⟨R, i * 4, none⟩ (.int .i64 (K : Int))).setCell ⟨R, i * 4 + 1, none⟩ (.int .i64 ((K : Int) + 1)) := ⟨_, rfl⟩
      rw [← hw2]
      have hR2 : w2.heap[R]? = some (.cells ((cr.setIfInBounds (i * 4) (.int .i64 (K : Int))).setIfInBounds (i * 4 + 1) (.int .i64 ((K : Int) + 1))) 28 (0, 0)) := by rw [hw2]; exact Row.setHeap (Row.setHeap (unhide HR) _ _) _ _
      have hs2 : w2.heap.size = wr.heap.size := by rw [hw2]; simp
      have hn2 : ∀ b, b ≠ R → w2.heap[b]? = wr.heap[b]? := fun b hb => by rw [hw2]; exact (Below.heap_setCell _ _ _ _ hb).trans (Below.heap_setCell _ _ _ _ hb)
      have ho2 : Out R (bs (i + 1)) w w2 := by rw [hw2]; exact (((unhide HOUT).wide (Nat.le_refl _) hbi1).set (Nat.le_refl _) (by omega) _ _).set (Nat.le_refl _) (by omega) _ _
      clear hw2 p0 p1 q0 q1
      refine (mtext_any (K + 2) w2 (by omega)).mono ?_
      rintro e w3 ⟨rfl, hb3⟩
      have hR3 := (hb3.block R (by omega)).trans hR2
      obtain ⟨c3, hc3d⟩ : ∃ c3, c3 = (cr.setIfInBounds (i * 4) (.int .i64 (K : Int))).setIfInBounds (i * 4 + 1) (.int .i64 ((K : Int) + 1)) := ⟨_, rfl⟩
      rw [← hc3d] at hR3
      have hsz3 : c3.size = cs.size := by rw [hc3d]; simp; exact hcr
      have g0 : c3[i * 4]? = some (.int .i64 (K : Int)) := by rw [hc3d, Array.getElem?_setIfInBounds_ne (by omega), Array.getElem?_setIfInBounds_self_of_lt (by omega)]
      have g1 : c3[i * 4 + 1]? = some (.int .i64 ((K + 1 : Nat) : Int)) := by rw [hc3d, Array.getElem?_setIfInBounds_self_of_lt (by simp; omega)]; rfl
      have gn : ∀ j, j ≠ i * 4 → j ≠ i * 4 + 1 → c3[j]? = cr[j]? := fun j h1 h2 => by rw [hc3d, Array.getElem?_setIfInBounds_ne (by omega), Array.getElem?_setIfInBounds_ne (by omega)]
      have p2 := cell_of_heap hR3 (i * 4 + 2)
      have p3 := cell_of_heap hR3 (i * 4 + 3)
      rw [Array.getElem?_eq_getElem (by omega)] at p2
      rw [gn _ (by omega) (by omega), unhide HC3, unhide HE3, unhide HV3] at p3
      have q2 := frozen_of_heap hR3 (i * 4 + 2)
      obtain ⟨T, hT⟩ : ∃ T, T = mtext (K + 2) := ⟨_, rfl⟩
      rw [← hT]
      obtain ⟨w4, hw4⟩ : ∃ w4, w4 = w3.setCell ⟨R, i * 4 + 2, none⟩ (.string T) := ⟨_, rfl⟩
      have hR4 : w4.heap[R]? = some (.cells (c3.setIfInBounds (i * 4 + 2) (.string T)) 28 (0, 0)) := by rw [hw4]; exact Row.setHeap hR3 _ _
      have hs4 : w4.heap.size = w3.heap.size := by rw [hw4]; simp
      have hn4 : ∀ b, b < wr.heap.size → b ≠ R → w4.heap[b]? = wr.heap[b]? := fun b hb hne => by rw [hw4]; exact (Below.heap_setCell _ _ _ _ hne).trans ((hb3.block b (by omega)).trans (hn2 b hne))
      have hbs3 := hb3.size
      have hos := (unhide HOUT).size
      have ho4 : Out R (bs (i + 1)) w w4 := by rw [hw4]; exact (ho2.trans (Out.below hb3)).set (Nat.le_refl _) (by omega) _ _
      have how4 : OwnS w4 n (bs i) (bs (i + 1)) (kidsOf ks[i]) v3 := (unhide HO3).keep fun b h1 h2 => (hn4 b (by omega) (by omega)).trans (unhide HBLK b (by omega) (by omega) (.inr h1))
      have hcall := hide (ih (kidsOf ks[i]) v3 (bs i) (bs (i + 1)) (K + 3) w4 how4 (by omega) hK)
      rw [unhide HV3] at hcall
      have HW4 := hide hw4
      have HR4 := hide hR4
      have HN4 := hide hn4
      have HO4 := hide ho4
      have HG := hide (And.intro g0 (And.intro g1 gn))
      have HT := hide hT
      have HS4 := hide (show wr.heap.size ≤ w4.heap.size by omega)
      clear hw4 hR4 hn4 ho4 how4 hT g0 g1 gn hc3d hR3 hb3 ho2 hn2 hs2 hR2 hbs3 hos hs4
      go_wp2_with fail
      rw [← unhide HW4, show (K : Int) + 2 + 1 = ((K + 3 : Nat) : Int) by omega]
      refine (unhide hcall).mono ?_
      rintro e w5 ⟨rfl, ho5, hm5⟩
      rw [unhide HVAL]
      have HO5 := hide ho5
      have HM5 := hide hm5
      obtain ⟨Z, hZ⟩ : ∃ Z : Int, Z = ((k + 3 * sizS (ks.take (i + 1)) : Nat) : Int) := ⟨_, rfl⟩
      rw [← hZ]
      have HZ := hide hZ
      clear ho5 hm5 p2 p3 q2 hcall hZ
      go_wp2_with fail
      go_roundw
      case rel =>
        have hsl4 := unhide HS4
        have hout := unhide HOUT
        have ho5 := unhide HO5
        have hR4 := unhide HR4
        have hRs4 := (Array.getElem?_eq_some_iff.1 hR4).1
        obtain ⟨g0, g1, gn⟩ := unhide HG
        have gm : ∀ j, j ≠ i * 4 → j ≠ i * 4 + 1 → j ≠ i * 4 + 2 → (c3.setIfInBounds (i * 4 + 2) (.string T))[j]? = cr[j]? := fun j h1 h2 h3 => by rw [Array.getElem?_setIfInBounds_ne (by omega), gn j h1 h2]
        have hkeep : ∀ b, b < wr.heap.size → b ≠ R → b < bs i → w5.heap[b]? = wr.heap[b]? := fun b h1 h2 h3 => (ho5.block b (by omega) (.inl h3)).trans (unhide HN4 b h1 h2)
        refine ⟨i + 1, _, hlt, by go_num, by rw [unhide HZ], (ho5.block R hRs4 (.inl (by omega))).trans hR4, by simp; exact hsz3, fun j => ?_, (unhide HO4).trans (ho5.wide (by omega) (Nat.le_refl _)), fun b h1 h2 h3 => ?_, fun j hj hji => ?_⟩
        · rw [gm _ (by omega) (by omega) (by omega)]; exact unhide HC3 j
        · have hw := hout.size
          rw [ho5.block b (by omega) (by omega), unhide HN4 b (by omega) h2]
          exact unhide HBLK b h1 h2 (by omega)
        · by_cases hjj : j = i
          · subst hjj
            have e1 := unhide HKD
            have e2 := unhide HT
            refine ⟨v3, ?_, ?_, ?_, ?_, ?_⟩
            · rw [Array.getElem?_setIfInBounds_ne (by omega), g0, e1]
            · rw [Array.getElem?_setIfInBounds_ne (by omega), g1, e1]
            · rw [Array.getElem?_setIfInBounds_self_of_lt (by omega), e2, e1]
            · rw [gm _ (by omega) (by omega) (by omega), unhide HC3]; exact unhide HE3
            · rw [← e1, unhide HV3]; exact unhide HM5
          · obtain ⟨u3, r0, r1, r2, r3, rm⟩ := unhide HDN j hj (by omega)
            have hji2 := unhide HM (j + 1) i (by omega)
            have hj0 := unhide HM 0 j (Nat.zero_le _)
            refine ⟨u3, ?_, ?_, ?_, ?_, rm.keep (fun b h1 h2 => hkeep b ?_ (by omega) (by omega)) (Nat.le_refl _) (Nat.le_refl _)⟩
            · rw [gm _ (by omega) (by omega) (by omega)]; exact r0
            · rw [gm _ (by omega) (by omega) (by omega)]; exact r1
            · rw [gm _ (by omega) (by omega) (by omega)]; exact r2
            · rw [gm _ (by omega) (by omega) (by omega)]; exact r3
            · have := hout.size; omega
      case measure => simp [intOf]; omega
    · have hkk : i = ks.length := by omega
      subst hkk
      have HR := hide hRr
      have HDN := hide hdone
      have HOUT := hide hout
      clear hRr hdone hout hblk hc3
      go_wp2_with fail
      go_ret
      have hRb := unhide HM 0 ks.length (Nat.zero_le _)
      refine ⟨by simp, (unhide HOUT).wide hlo hbh, _, cap, rfl, .inr ⟨R, rfl, hlo, by omega, fun j hj => ?_⟩⟩
      obtain ⟨u3, r0, r1, r2, r3, rm⟩ := unhide HDN j hj hj
      have hj1 := unhide HM (j + 1) ks.length (by omega)
      have hj0 := unhide HM 0 j (Nat.zero_le _)
      exact ⟨u3, (cell_of_heap (unhide HR) _).trans r0, (cell_of_heap (unhide HR) _).trans r1, (cell_of_heap (unhide HR) _).trans r2, (cell_of_heap (unhide HR) _).trans r3, rm.keep (fun _ _ _ => rfl) (by omega) (by omega)⟩

theorem mark_any : ∀ n, MarkSaid n
  | 0 => fun ks v lo hi k w h _ _ => by
    obtain ⟨a, cap, rfl⟩ := h
    have hn : ks = [] := by
      cases ks with
      | nil => rfl
      | cons t _ => exact t.elim
    subst hn
    refine (mark_nil a cap k w).mono ?_
    rintro e w' ⟨rfl, rfl⟩
    exact ⟨by simp [sizS], Out.refl _ _ _, a, cap, rfl⟩
  | n + 1 => mark_of (mark_any n)

end Go.Proofs.YtffgdchemjmbmaaGreat
/- Ownership of nested rows: within wider bounds. -/
namespace Go.Proofs.YtffgdchemjmbmaaGreat
open Go.RowKit Go.Deep

theorem OwnS.wide {w : World} : ∀ {n lo hi lo' hi' : Nat} {ks : List (Tm n)} {v : Value}, OwnS w n lo hi ks v → lo' ≤ lo → hi ≤ hi' → OwnS w n lo' hi' ks v
  | 0, _, _, _, _, _, _, h, _, _ => h
  | n + 1, lo, hi, lo', hi', ks, v, ⟨a, cap, hv, h⟩, hl, hh => by
    refine ⟨a, cap, hv, ?_⟩
    rcases h with h | ⟨R, cs, bs, h1, h2, h3, h4, h5, h6, h7, h8⟩
    · exact .inl h
    · exact .inr ⟨R, cs, bs, h1, h2, by omega, h4, h5, by omega, h7, h8⟩

end Go.Proofs.YtffgdchemjmbmaaGreat
/- impl's way outward: rows. -/
namespace Go.Proofs.YtffgdchemjmbmaaGreat
open Go.RowKit Go.Deep


def OutEnd (n : Nat) (t : Tm (n + 1)) (w : World) (e : Ending) (w' : World) : Prop := Below w.heap.size w w' ∧
  ∃ d0 d1 d2 d3, e = .returned (.agg #[d0, d1, d2, d3]) ∧ TAt (Fresh w w') w' (n + 1) t d0 d1 d2 d3 ∧ OwnS w' n w.heap.size w'.heap.size (kidsOf t) d3
def OutSaid (n : Nat) : Prop := ∀ (t : Tm (n + 1)) (v : Value) (w : World), XAt (Under w.heap.size) w (n + 1) t v → Calls Tryz.prog 21 #[v] w fun e w' => OutEnd n t w e w'
def OrEnd (n : Nat) (ks : List (Tm n)) (w : World) (e : Ending) (w' : World) : Prop := Below w.heap.size w w' ∧
  ∃ v, e = .returned v ∧ SAt (Fresh w w') w' (TAt (Fresh w w') w' n) ks v ∧ OwnS w' n w.heap.size w'.heap.size ks v

def zeros4 : Array Value := #[.int .i64 0, .int .i64 0, .string ⟨#[]⟩, .slice none 0 0]
theorem run_mkt (n : Nat) (hn : n ≤ 100000) (w : World) : (Instr.makeSlice 26 (.int .i64 0) (.int .i64 n)).run Tryz.prog w =
    .ok (.slice (some ⟨w.heap.size, 0, none⟩) 0 n) (w.alloc (.cells (madeCells zeros4 (n * 4)) 28)) := by
  have := run_make (P := Tryz.prog) w 26 28 (Tryz.prog.types[28]!) (.agg zeros4) (by kernel_rfl) (by kernel_rfl) (by kernel_rfl) .i64 .i64 0 n (Int.le_refl _) (by omega)
    (by rw [show (Tryz.prog.types[28]!).bytes = 56 from by kernel_rfl]; omega) (by omega)
  rw [this, show (Tryz.prog.types[28]!).size = 4 from by kernel_rfl]
  simp [Value.cells, zeros4]
theorem owns_mkt (w : World) (N : Nat) (hN : N ≤ 100000) : (w.alloc (.cells (madeCells zeros4 (N * 4)) 28)).ownsRow w.heap.size 28 4 (.slice (some ⟨w.heap.size, 0, none⟩) 0 N) 0 [] :=
  ⟨rfl, .inr ⟨w.heap.size, N, madeCells zeros4 (N * 4), rfl, Nat.le_refl _, heap_new _ _, Nat.zero_le _, by unfold maxLen; omega, by rw [size_madeCells], by simp⟩⟩

set_option maxRecDepth 40000 in
set_option maxHeartbeats 1000000 in
theorem orow_nil {n : Nat} (a : Option Addr) (cap : Nat) (w : World) : Calls Tryz.prog 32 #[.slice a 0 cap] w fun e w' => OrEnd n ([] : List (Tm n)) w e w' := by
  go_enter Tryz.func32, Tryz.ntmps32
  go_wp2_with fail
  go_ret
  refine ⟨Below.refl _ _, _, rfl, ⟨none, 0, rfl, Nat.le_refl _, by simp, fun i hi => by simp at hi⟩, ?_⟩
  cases n with
  | zero => exact ⟨none, 0, rfl⟩
  | succ n => exact ⟨none, 0, rfl, .inl rfl⟩

/-- One boundary more. -/
def bsUp (bs : Nat → Nat) (i N : Nat) : Nat → Nat := fun p => if p ≤ i then bs p else N
theorem bsUp_le {bs : Nat → Nat} {i N p : Nat} (h : p ≤ i) : bsUp bs i N p = bs p := if_pos h
theorem bsUp_gt {bs : Nat → Nat} {i N p : Nat} (h : ¬ p ≤ i) : bsUp bs i N p = N := if_neg h

set_option maxRecDepth 40000 in
set_option maxHeartbeats 2000000 in
theorem orow_of {n : Nat} (h : OutSaid n) (ks : List (Tm (n + 1))) (a : Option Addr) (cap : Nat) (w : World) (hka : KAt (Under w.heap.size) w (XAt (Under w.heap.size) w (n + 1)) ks a) (hl : ks.length ≤ 100000) :
    Calls Tryz.prog 32 #[.slice a ks.length cap] w fun e w' => OrEnd (n + 1) ks w e w' := by
  by_cases hn : ks = []
  · subst hn
    exact orow_nil a cap w
  have hpos : 0 < ks.length := List.length_pos_iff.2 hn
  obtain ⟨i0, hi0, hz0, hz1, hz2⟩ := info_parts infoT
  have hmk := run_mkt ks.length hl w
  have hlz : ¬ ks.length = 0 := by omega
  have hzb : ((ks.length : Int) == 0) = false := by simp; exact hn
  obtain ⟨w0, hw0⟩ : ∃ w0, w0 = w.alloc (.cells (madeCells zeros4 (ks.length * 4)) 28) := ⟨_, rfl⟩
  have hown0 := owns_mkt w ks.length hl
  have hb0 : Below w.heap.size w w0 := by rw [hw0]; exact (Below.refl _ _).alloc (Nat.le_refl _) _
  have hs0 : w0.heap.size = w.heap.size + 1 := by rw [hw0]; simp
  rw [← hw0] at hmk hown0
  have HKA := hide hka
  have HO0 := hide hown0
  have HB0 := hide hb0
  clear hka hown0 hb0 hw0
  go_enter Tryz.func32, Tryz.ntmps32
  go_wp2_with fail
  try rw [hzb]
  go_loopw [3, 14] (fun rv iv wr => ∃ (i : Nat) (xs : List Value) (bs : Nat → Nat), i ≤ ks.length ∧ iv = .int .i64 i ∧ rv = .slice (some ⟨w.heap.size, 0, none⟩) i ks.length ∧ wr.ownsRow w.heap.size 28 4 (.slice (some ⟨w.heap.size, 0, none⟩) i ks.length) i xs ∧ xs.length = i * 4 ∧ Below w.heap.size w wr ∧
      w.heap.size < bs 0 ∧ (∀ p q, p ≤ q → bs p ≤ bs q) ∧ bs i ≤ wr.heap.size ∧ ∀ j (hj : j < ks.length), j < i → ∃ d0 d1 d2 d3, xs[j * 4]? = some d0 ∧ xs[j * 4 + 1]? = some d1 ∧ xs[j * 4 + 2]? = some d2 ∧ xs[j * 4 + 3]? = some d3 ∧
        TAt (fun b => w.heap.size < b ∧ b < wr.heap.size) wr (n + 1) ks[j] d0 d1 d2 d3 ∧ OwnS wr n (bs j) (bs (j + 1)) (kidsOf ks[j]) d3) (fun _ iv _ => ks.length - (intOf iv).toNat)
  case atStart => exact ⟨0, [], fun _ => w.heap.size + 1, Nat.zero_le _, rfl, rfl, unhide HO0, rfl, unhide HB0, by show w.heap.size < w.heap.size + 1; omega, fun _ _ _ => Nat.le_refl _, by show w.heap.size + 1 ≤ w0.heap.size; omega, fun j _ hj => by omega⟩
  case round =>
    obtain ⟨i, xs, bs, hi, rfl, rfl, ho, hxl, hb, hb1, hmono, hbi, hdone⟩ := hrel
    by_cases hlt : i < ks.length
    · obtain ⟨b, off, v, rfl, hS, e0, hv⟩ := unhide HKA i hlt
      obtain ⟨u, x, rfl⟩ := hv.iface
      have p0 := (bcell hb b (off + i) hS).trans e0
      have hcall := hide (h ks[i] _ wr ((hv.keep fun b hb' => hb.block b hb').mono fun b hb' => Nat.lt_of_lt_of_le hb' hb.size))
      have hwr : w.heap.size < wr.heap.size := by have := hmono 0 i (Nat.zero_le _); omega
      have HO := hide ho
      have HB := hide hb
      have HMO := hide hmono
      have HDN := hide hdone
      clear ho hb hmono hdone hv e0
      go_wp2_with fail
      refine (unhide hcall).mono ?_
      rintro e w1 ⟨hb1', d0, d1, d2, d3, rfl, hT, hOw⟩
      obtain ⟨tk, tm, ts, ta, tl, tc, rfl, rfl, rfl, rfl⟩ := hT.shape
      have hown1 := owns_keep (unhide HO) (hb1'.block _ hwr)
      have hs1 := hb1'.size
      have HB1 := hide ((unhide HB).trans (hb1'.mono (by omega)))
      have HBB := hide hb1'
      have HT := hide hT
      have HOW := hide hOw
      have hnews := hide (show ∀ j u, ([Value.int .i64 tk, .int .i64 tm, .string ts, .slice ta tl tc] : List Value)[j]? = some u → (w1.alloc (.cells #[.int .i64 tk, .int .i64 tm, .string ts, .slice ta tl tc] 28)).cell? ((⟨w1.heap.size, 0, none⟩ : Addr).add j) = some u from fun j u hu => by
        rw [Go.WideShapes.add_plain, cell_of_heap (heap_new _ _), Nat.zero_add, ← Array.getElem?_toList]; exact hu)
      have h1c := hide (cells_shape hT)
      have HOWN1 := hide (hown1.alloc (.cells #[.int .i64 tk, .int .i64 tm, .string ts, .slice ta tl tc] 28))
      clear hown1 hb1' hT hOw hcall p0
      go_wp2_with (at_builtin; refine wpList_append_fits _ rfl (.tmp 18) (.tmp 21) 26 rfl w.heap.size 28 i0 4 Tryz.underlying26 hi0 hz1 w.heap.size i ks.length xs rfl (unhide HOWN1) ⟨w1.heap.size, 0, none⟩ 1 1 [.int .i64 tk, .int .i64 tm, .string ts, .slice ta tl tc] rfl rfl (unhide hnews) (unhide h1c) hlt ?_; intro w2 hown2 hgr2)
      have hs2 : w1.heap.size + 1 ≤ w2.heap.size := by have := hgr2.size; simpa using this
      have hold : ∀ b, b < w1.heap.size → b ≠ w.heap.size → w2.heap[b]? = w1.heap[b]? := fun b hb hn =>
        (hgr2.block b (by simp; omega) (by intro e; injection e with e; omega)).trans (Below.heap_alloc _ _ _ hb)
      have hb2 : Below w.heap.size w w2 := by
        have h1 := unhide HB1
        exact ⟨hgr2.os.trans h1.os, hgr2.tape.trans h1.tape, hgr2.output.trans h1.output, by omega, fun b hb => (hold b (by have := h1.size; omega) (by omega)).trans (h1.block b hb)⟩
      have HO2 := hide hown2
      have HB2 := hide hb2
      have HOLD := hide hold
      clear hown2 hgr2 hold hb2
      go_roundw
      case rel =>
        have hold := unhide HOLD
        have hmono := unhide HMO
        have hbb := unhide HBB
        refine ⟨i + 1, _, bsUp bs i w2.heap.size, hlt, by go_num, rfl, unhide HO2, by simp [hxl]; omega, unhide HB2, by rw [bsUp_le (Nat.zero_le _)]; exact hb1, fun p q hpq => ?_, by rw [bsUp_gt (by omega)]; exact Nat.le_refl _, fun j hj hji => ?_⟩
        · by_cases hq : q ≤ i
          · rw [bsUp_le hq, bsUp_le (by omega)]; exact hmono p q hpq
          · rw [bsUp_gt hq]
            by_cases hp : p ≤ i
            · rw [bsUp_le hp]; have := hmono p i hp; omega
            · rw [bsUp_gt hp]; exact Nat.le_refl _
        · have hbs0 := hmono 0 j (Nat.zero_le _)
          by_cases hjj : j = i
          · subst hjj
            refine ⟨.int .i64 tk, .int .i64 tm, .string ts, .slice ta tl tc, ?_, ?_, ?_, ?_, ((unhide HT).keep fun b hb => hold b hb.2 (by have := hb.1; omega)).mono fun b hb => ⟨by have := hb.1; omega, by have := hb.2; omega⟩, ?_⟩
            · rw [List.getElem?_append_right (by omega), hxl]; simp
            · rw [List.getElem?_append_right (by omega), hxl, show j * 4 + 1 - j * 4 = 1 by omega]; rfl
            · rw [List.getElem?_append_right (by omega), hxl, show j * 4 + 2 - j * 4 = 2 by omega]; rfl
            · rw [List.getElem?_append_right (by omega), hxl, show j * 4 + 3 - j * 4 = 3 by omega]; rfl
            · rw [bsUp_le (Nat.le_refl _), bsUp_gt (by omega)]
              exact ((unhide HOW).keep fun b h1 h2 => hold b h2 (by omega)).wide hbi (by omega)
          · obtain ⟨d0, d1, d2, d3, r0, r1, r2, r3, hT, hO⟩ := unhide HDN j hj (by omega)
            have hj1 := hmono (j + 1) i (by omega)
            refine ⟨d0, d1, d2, d3, ?_, ?_, ?_, ?_, (hT.keep fun b hb => (hold b (by have := hb.2; omega) (by have := hb.1; omega)).trans (hbb.block b hb.2)).mono fun b hb => ⟨hb.1, by have := hb.2; omega⟩, ?_⟩
            · rw [List.getElem?_append_left (by omega)]; exact r0
            · rw [List.getElem?_append_left (by omega)]; exact r1
            · rw [List.getElem?_append_left (by omega)]; exact r2
            · rw [List.getElem?_append_left (by omega)]; exact r3
            · rw [bsUp_le (by omega), bsUp_le (by omega)]
              exact hO.keep fun b h1 h2 => (hold b (by omega) (by omega)).trans (hbb.block b (by omega))
      case measure => simp [intOf]; omega
    · have hkk : i = ks.length := by omega
      subst hkk
      have HO := hide ho
      have HB := hide hb
      have HMO := hide hmono
      have HDN := hide hdone
      clear ho hb hmono hdone
      go_wp2_with fail
      go_ret
      have ho := unhide HO
      have hmono := unhide HMO
      have hm0 := hmono 0 ks.length (Nat.zero_le _)
      refine ⟨unhide HB, _, rfl, ⟨_, ks.length, rfl, Nat.le_refl _, by omega, fun j hj => ?_⟩, _, ks.length, rfl, .inr ?_⟩
      · obtain ⟨d0, d1, d2, d3, r0, r1, r2, r3, hT, hO⟩ := unhide HDN j hj hj
        have hc : ∀ q, q < ks.length * 4 → wr.cell? ⟨w.heap.size, 0 + q, none⟩ = xs[q]? := fun q hq => by rw [Nat.zero_add]; exact ho.cellAt q (by omega)
        exact ⟨w.heap.size, 0, d0, d1, d2, d3, rfl, ⟨Nat.le_refl _, by omega⟩, (hc _ (by omega)).trans r0, by rw [Nat.add_assoc]; exact (hc _ (by omega)).trans r1, by rw [Nat.add_assoc]; exact (hc _ (by omega)).trans r2, by rw [Nat.add_assoc]; exact (hc _ (by omega)).trans r3, hT.mono fun b hb => ⟨by have := hb.1; omega, hb.2⟩⟩
      · rcases ho.2 with ⟨h1, _⟩ | ⟨g, cp, cur, hgv, _, hg, hnc, _, hcs, _⟩
        · cases h1
        · cases hgv
          refine ⟨w.heap.size, cur, bs, rfl, hg, Nat.le_refl _, hb1, hmono, hbi, by omega, fun j hj => ?_⟩
          obtain ⟨d0, d1, d2, d3, r0, r1, r2, r3, hT, hO⟩ := unhide HDN j hj hj
          exact ⟨d3, ((cell_of_heap hg _).symm.trans (ho.cellAt (j * 4 + 3) (by omega))).trans r3, hO⟩

end Go.Proofs.YtffgdchemjmbmaaGreat
/- spec's taker: term, what its arms share; a byte's number. -/
namespace Go.Proofs.YtffgdchemjmbmaaGreat
open Go.RowKit Go.Deep

/-- The result's four cells stored. -/
def fourIn (w : World) (B : Nat) (d0 d1 d2 d3 : Value) : World := (((w.setCell ⟨B, 0, none⟩ d0).setCell ⟨B, 1, none⟩ d1).setCell ⟨B, 2, none⟩ d2).setCell ⟨B, 3, none⟩ d3
theorem fourIn_kept (w : World) (B : Nat) (d0 d1 d2 d3 : Value) : Kept B w (fourIn w B d0 d1 d2 d3) := ((((Kept.refl B w).set _ _).set _ _).set _ _).set _ _
/-- Four cells of a result. -/
def Four (B : Nat) (w : World) : Prop := ∃ a b c d, w.heap[B]? = some (.cells #[a, b, c, d] 28 (0, 0))
theorem Four.lt {B : Nat} {w : World} (h : Four B w) : B < w.heap.size := by
  obtain ⟨_, _, _, _, h⟩ := h
  exact (Array.getElem?_eq_some_iff.1 h).1
theorem Four.keep {B : Nat} {w w' : World} (h : Four B w) (hb : w'.heap[B]? = w.heap[B]?) : Four B w' := by
  obtain ⟨a, b, s, c, h1⟩ := h
  exact ⟨a, b, s, c, hb.trans h1⟩
theorem Four.cells {B : Nat} {w : World} (h : Four B w) : ∃ y0 y1 y2 y3, w.cell? ⟨B, 0, none⟩ = some y0 ∧ w.cell? ⟨B, 1, none⟩ = some y1 ∧ w.cell? ⟨B, 2, none⟩ = some y2 ∧ w.cell? ⟨B, 3, none⟩ = some y3 ∧
    w.frozen? ⟨B, 0, none⟩ = false ∧ w.frozen? ⟨B, 1, none⟩ = false ∧ w.frozen? ⟨B, 2, none⟩ = false ∧ w.frozen? ⟨B, 3, none⟩ = false := by
  obtain ⟨a, b, s, c, h1⟩ := h
  exact ⟨_, _, _, _, cell_of_heap h1 0, cell_of_heap h1 1, cell_of_heap h1 2, cell_of_heap h1 3, frozen_of_heap h1 0, frozen_of_heap h1 1, frozen_of_heap h1 2, frozen_of_heap h1 3⟩

theorem sat_none {α : Type} {S : Nat → Prop} {w : World} {R : α → Value → Value → Value → Value → Prop} {a : Option Addr} : SAt S w R [] (.slice a 0 0) := ⟨a, 0, rfl, by simp, by simp, fun i hi => by simp at hi⟩

section
variable (m g c : Nat) (data : ByteArray) (pos d : Nat) (w : World)

end
end Go.Proofs.YtffgdchemjmbmaaGreat
/- spec's l01Pack: what is known while a term's bytes are appended. -/
namespace Go.Proofs.YtffgdchemjmbmaaGreat
open Go.RowKit Go.Deep

/-- The term's box b is as it was, nothing that was there has turned but the row v0; the row v holds the bytes xs, and is v0's or a new one. -/
structure Sp (B b : Nat) (arr : Array Value) (w : World) (v0 v : Value) (n : Nat) (xs : List Int) (W : World) : Prop where
  hb : b = w.heap.size
  hB : B ≤ b
  l0 : ∀ g, v0.ownBlock = some g → B ≤ g ∧ g < b
  blk : W.heap[b]? = some (.cells arr 28 (0, 0))
  gr : w.grownBy W v0.ownBlock
  li : ∀ g, v.ownBlock = some g → v0.ownBlock = some g ∨ w.heap.size ≤ g
  own : W.ownsRow B 5 1 v n (u8c xs)
  ne : v.ownBlock ≠ some b

section
variable {B b n m : Nat} {arr : Array Value} {w W W' : World} {v0 v v' : Value} {xs ys : List Int}

theorem Sp.lt (h : Sp B b arr w v0 v n xs W) : b < W.heap.size := (Array.getElem?_eq_some_iff.1 h.blk).1
theorem Sp.base (h : Sp B b arr w v0 v n xs W) : B ≤ W.heap.size := by have := h.lt; have := h.hB; omega
/-- A step that turns nothing that was there but the row. -/
theorem Sp.step (h : Sp B b arr w v0 v n xs W) (ho : W'.ownsRow B 5 1 v' m (u8c ys)) (hg : W.grownBy W' v.ownBlock) (hl : ∀ g, v'.ownBlock = some g → v.ownBlock = some g ∨ W.heap.size ≤ g) : Sp B b arr w v0 v' m ys W' := by
  have hlt := h.lt
  have hb := h.hb
  refine ⟨h.hb, h.hB, h.l0, (hg.block b hlt fun e => h.ne e.symm).trans h.blk, ⟨hg.os.trans h.gr.os, hg.tape.trans h.gr.tape, hg.output.trans h.gr.output, Nat.le_trans h.gr.size hg.size, fun k hk hne => ?_⟩, fun g hv => ?_, ho, fun e => ?_⟩
  · refine (hg.block k (Nat.lt_of_lt_of_le hk h.gr.size) fun e => ?_).trans (h.gr.block k hk hne)
    rcases h.li k e.symm with h1 | h1
    · exact hne h1.symm
    · omega
  · rcases hl g hv with h1 | h1
    · exact h.li g h1
    · exact .inr (Nat.le_trans h.gr.size h1)
  · rcases hl b e with h1 | h1
    · exact h.ne h1
    · omega
theorem Sp.call (h : Sp B b arr w v0 v n xs W) (hb : Below W.heap.size W W') : Sp B b arr w v0 v n xs W' :=
  h.step (h.own.kept (row := none) ⟨hb.os, hb.tape, hb.output, hb.size, fun k hk _ => hb.block k hk⟩ (by cases hv : v.ownBlock <;> simp)) ⟨hb.os, hb.tape, hb.output, hb.size, fun k hk _ => hb.block k hk⟩ fun _ hg => .inl hg
theorem Sp.alloc (h : Sp B b arr w v0 v n xs W) (o : Obj) : Sp B b arr w v0 v n xs (W.alloc o) := h.call ((Below.refl _ _).alloc (Nat.le_refl _) o)
theorem Sp.drew (h : Sp B b arr w v0 v n xs W) : Sp B b arr w v0 v n xs W.drew := h.call (Below.refl _ _).drew
theorem lies_of (hat : v'.ownBlock = v.ownBlock ∨ v'.ownBlock = some W.heap.size) : ∀ g, v'.ownBlock = some g → v.ownBlock = some g ∨ W.heap.size ≤ g := fun g hg => by
  rcases hat with h | h
  · exact .inl (by rw [← h]; exact hg)
  · rw [h] at hg
    cases hg
    exact .inr (Nat.le_refl _)
theorem Sp.cells (h : Sp B b arr w v0 v n xs W) (ho : W'.ownsRow B 5 1 v' (n + m) (u8c xs ++ u8c ys)) (hg : W.grownBy W' v.ownBlock) (hat : v'.ownBlock = v.ownBlock ∨ v'.ownBlock = some W.heap.size) : Sp B b arr w v0 v' (n + m) (xs ++ ys) W' :=
  h.step (by rw [u8c_append]; exact ho) hg (lies_of hat)
theorem Sp.text {s : ByteArray} (h : Sp B b arr w v0 v n xs W) (ho : W'.ownsRow B 5 1 v' (n + s.size) (u8c xs ++ Lib.strCells s)) (hg : W.grownBy W' v.ownBlock) (hat : v'.ownBlock = v.ownBlock ∨ v'.ownBlock = some W.heap.size) :
    Sp B b arr w v0 v' (n + s.size) (xs ++ txtL s) W' := by
  rw [strCells_txt] at ho
  exact h.cells ho hg hat
theorem Sp.below (h : Sp B b arr w v0 v n xs W) : Below B w W :=
  ⟨h.gr.os, h.gr.tape, h.gr.output, h.gr.size, fun k hk => h.gr.block k (by have := h.hB; have := h.hb; omega) fun e => by have := (h.l0 k e.symm).1; omega⟩

/-- The cells of the box, and that it is one. -/
def Bx (B b : Nat) (arr : Array Value) (w W : World) : Prop := ∃ v0 v n xs, Sp B b arr w v0 v n xs W
theorem Sp.all {c0 c1 c2 c3 : Value} (h : Sp B b #[c0, c1, c2, c3] w v0 v n xs W) : (W.cell? ⟨b, 1, none⟩ = some c1 ∧ W.cell? ⟨b, 2, none⟩ = some c2 ∧ W.cell? ⟨b, 3, none⟩ = some c3) ∧ Bx B b #[c0, c1, c2, c3] w W :=
  ⟨⟨cell_of_heap h.blk 1, cell_of_heap h.blk 2, cell_of_heap h.blk 3⟩, v0, v, n, xs, h⟩

end

end Go.Proofs.YtffgdchemjmbmaaGreat
/- What the way inward needs; faultIn. -/
namespace Go.Proofs.YtffgdchemjmbmaaGreat
open Go.RowKit

theorem Ctr.new (w : World) : Ctr w.heap.size 0 (w.alloc (.cells #[.int .i64 0] 63)) := heap_new _ _

def InwEnd (n : Nat) (t : Tm n) (w : World) (e : Ending) (w' : World) : Prop :=
  Below w.heap.size w w' ∧ ((valOK n t 0 1 ∧ ∃ v, e = .returned v ∧ VAt (Fresh w w') w' n t v) ∨ (¬ valOK n t 0 1 ∧ e = faultE))

theorem TAt.inp {w w2 : World} {g : Nat} (hb : Below w.heap.size w w2) (hg : w.heap.size ≤ g) {n : Nat} {t : Tm n} {a b c d : Value} (h : TAt (Under w.heap.size) w n t a b c d) : TAt (Inp w2 g) w2 n t a b c d :=
  (h.keep fun b hs => hb.block b hs).mono fun _ hs => ⟨Nat.lt_of_lt_of_le hs hb.size, by have : _ < w.heap.size := hs; omega⟩

theorem inw_below {w w3 : World} {x y : Obj} (h : But (w.heap.size + 1) ((w.alloc x).alloc y) w3) : Below w.heap.size w w3 :=
  (below_two w x y).trans (h.toBelow (by omega) (by simp; omega))

/-- What faultIn makes of nothing, and of the walk's own fault. -/
theorem faultIn_nil (w : World) : Calls Tryz.prog 29 #[.nilIface] w fun e w' => e = .returned (.tuple #[.agg #[.int .i64 0, .int .i64 0], .bool false]) ∧ Below w.heap.size w w' := by
  have hbx := fun x : Obj => (Below.refl w.heap.size w).alloc (Nat.le_refl _) x
  go_enter Tryz.func29, Tryz.ntmps29
  go_wp2_with fail
  exact bodyPost_ret (v := .tuple #[.agg #[.int .i64 0, .int .i64 0], .bool false]) (by simp [results, Tryz.results29, go_sem]) rfl ⟨rfl, hbx _⟩

theorem ta_fault (x : Value) (w : World) : (Instr.typeAssert (.iface 55 x) 20 55 true).run Tryz.prog w = .ok (.tuple #[x, .bool true]) w := by kernel_rfl

end Go.Proofs.YtffgdchemjmbmaaGreat
/- impl's way inward from a term: inward; faultIn. -/
namespace Go.Proofs.YtffgdchemjmbmaaGreat
open Go.RowKit

set_option maxRecDepth 20000 in
set_option maxHeartbeats 1000000 in
theorem inward_any (n : Nat) (t : Tm n) (c0 c1 c2 c3 : Value) (w : World) (ht : TAt (Under w.heap.size) w n t c0 c1 c2 c3) :
    Calls Tryz.prog 20 #[.agg #[c0, c1, c2, c3]] w fun e w' => InwEnd n t w e w' := by
  have hsz : ∀ x : Obj, (w.alloc x).heap.size = w.heap.size + 1 := fun x => by simp
  have hc0 := (fun (x : Obj) => let w1 := w.alloc x; let w2 := w1.alloc (.cells #[.int .i64 0] 63);
    val_any n t c0 c1 c2 c3 w1.heap.size 0 1 w2 (Ctr.new w1) (ht.inp (below_two w x _) (by simp [w1])) (by omega) (by omega) (by omega))
  simp only [hsz] at hc0
  have hc := hide hc0
  clear hc0
  obtain ⟨_, _, _, _, _, _, rfl, rfl, rfl, rfl⟩ := ht.shape
  go_enter Tryz.func20, Tryz.ntmps20
  go_wp2_with fail
  refine ((unhide hc) _).mono ?_
  rintro e w3 ⟨hb3, ⟨hok, v, rfl, hv, hct⟩ | ⟨hno, rfl⟩⟩
  · have HV := hide hv
    have HOK := hide hok
    clear hv hok hct
    go_wp2_with fail
    go_ret
    have hb := inw_below hb3
    exact ⟨hb, .inl ⟨unhide HOK, v, rfl, (unhide HV).mono fun b hb1 => ⟨by have := hb1.1; simp at this; omega, hb1.2⟩⟩⟩
  · exact ⟨rfl, inw_below hb3, .inr ⟨hno, rfl⟩⟩

end Go.Proofs.YtffgdchemjmbmaaGreat
/- What the closures that recover share. -/
namespace Go.Proofs.YtffgdchemjmbmaaGreat
open Go.RowKit

theorem ok_val {n : Nat} {t : Tm n} : okB n t = true ↔ valOK n t 0 1 := by
  unfold okB fitsB valOK
  simp only [Bool.and_eq_true, decide_eq_true_eq]
  constructor
  · rintro ⟨⟨h1, h2⟩, h3⟩; exact ⟨h3, by omega, by omega⟩
  · rintro ⟨h3, h1, h2⟩; exact ⟨⟨by omega, by omega⟩, h3⟩

end Go.Proofs.YtffgdchemjmbmaaGreat
/- impl.TermPack: the closure that recovers the walk's fault; the function. -/
namespace Go.Proofs.YtffgdchemjmbmaaGreat
open Go.RowKit Go.Deep

/-- A walk's fault. -/
def fltV (c : Int) : Value := .iface 55 (.agg #[.int .i64 c, .int .i64 0])

set_option maxRecDepth 40000 in
theorem faultIn_any (c : Int) (w : World) : Calls Tryz.prog 29 #[fltV c] w fun e w' => e = .returned (.tuple #[.agg #[.int .i64 c, .int .i64 0], .bool true]) ∧ Below w.heap.size w w' := by
  unfold fltV
  have hta := ta_fault (.agg #[.int .i64 c, .int .i64 0])
  have hbx := below_two w
  go_enter Tryz.func29, Tryz.ntmps29
  go_wp2_with fail
  exact bodyPost_ret (v := .tuple #[.agg #[.int .i64 c, .int .i64 0], .bool true]) (by simp [results, Tryz.results29, go_sem]) rfl ⟨rfl, hbx _ _⟩

end Go.Proofs.YtffgdchemjmbmaaGreat
/- spec.TermUnpack. -/
namespace Go.Proofs.YtffgdchemjmbmaaGreat
open Go.RowKit Go.Deep

theorem _root_.Go.RowKit.Below.four {w w' : World} {N : Nat} (h : Below N w w') {B : Nat} (hB : N ≤ B) (d0 d1 d2 d3 : Value) : Below N w (fourIn w' B d0 d1 d2 d3) := by
  have hk := fourIn_kept w' B d0 d1 d2 d3
  exact ⟨hk.os.trans h.os, hk.tape.trans h.tape, hk.output.trans h.output, Nat.le_trans h.size hk.size, fun k hk' =>
    (Below.heap_setCell _ _ _ _ (by show k ≠ B; omega)).trans ((Below.heap_setCell _ _ _ _ (by show k ≠ B; omega)).trans ((Below.heap_setCell _ _ _ _ (by show k ≠ B; omega)).trans ((Below.heap_setCell _ _ _ _ (by show k ≠ B; omega)).trans (h.block k hk'))))⟩
section
variable (data : ByteArray) (w : World)

end
end Go.Proofs.YtffgdchemjmbmaaGreat
