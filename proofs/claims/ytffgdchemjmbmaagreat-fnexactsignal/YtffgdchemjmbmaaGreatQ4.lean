/- impl's order of values that stand for right terms is spec's of the terms. -/
import Derived.Test.YtffgdchemjmbmaaGreatQ3
import Derived.Test.YtffgdchemjmbmaaGreatQ1
import Derived.Deep.OwnRows
import Derived.Lib.AppendStr
import Derived.Deep.RegionHeld3
import Derived.Deep.AppendLies
import Derived.Deep.QuietTactic
import Derived.BigQuiet
import Derived.Deep.DeepCutAuto
namespace Go.Proofs.YtffgdchemjmbmaaGreat
open Go.RowKit

theorem less_self : ∀ l : List UInt8, Op.bytesLess l l = false
  | [] => rfl
  | b :: l => by simp [Op.bytesLess, less_self l]
theorem ordS_self (s : ByteArray) : ordS s s = 0 := by
  unfold ordS; rw [less_self]; simp
theorem sgn_self (a : Int) : sgn a a = 0 := by unfold sgn; rw [if_neg (by omega), if_neg (by omega)]
theorem empty_eq {s s' : ByteArray} (h : s.size = 0) (h' : s'.size = 0) : s = s' := by
  cases s; cases s'
  rename_i a b
  have ha : a = #[] := Array.size_eq_zero_iff.1 h
  have hb : b = #[] := Array.size_eq_zero_iff.1 h'
  rw [ha, hb]

theorem right_parts {n : Nat} {k i : Int} {s : ByteArray} {ks : List (Tm n)} (h : rightB (n + 1) (k, i, s, ks) = true) : fitB k i s ks.length = true ∧ ks.all (rightB n) = true := by
  have : (fitB k i s ks.length && ks.all (rightB n) && (if k = 7 then risesB (cmpT n n) ks else true)) = true := h
  simp only [Bool.and_eq_true] at this
  exact this.1

theorem VAt.dyn {S : Nat → Prop} {w : World} {n : Nat} {k i : Int} {s : ByteArray} {ks : List (Tm n)} {v : Value} (h : VAt S w (n + 1) (k, i, s, ks) v) : ∃ u x, ∃ D : Dyn u k, v = .iface u x ∧ D.good x := by
  obtain ⟨_, _, h⟩ := h
  rcases h with ⟨rfl, rfl⟩ | ⟨rfl, rfl⟩ | ⟨rfl, rfl⟩ | ⟨rfl, rfl⟩ | ⟨rfl, rfl⟩ | ⟨a, cap, _, _, _, h⟩
  · exact ⟨_, _, dyn_int, rfl, trivial⟩
  · exact ⟨_, _, dyn_atom, rfl, trivial⟩
  · exact ⟨_, _, dyn_ref, rfl, trivial⟩
  · exact ⟨_, _, dyn_pid, rfl, trivial⟩
  · exact ⟨_, _, dyn_bin, rfl, trivial⟩
  · rcases h with ⟨rfl, rfl⟩ | ⟨rfl, rfl⟩ | ⟨rfl, rfl⟩ | ⟨rfl, rfl⟩
    · exact ⟨_, _, dyn_fun, rfl, _, _, rfl⟩
    · exact ⟨_, _, dyn_tup, rfl, trivial⟩
    · exact ⟨_, _, dyn_lst, rfl, trivial⟩
    · exact ⟨_, _, dyn_map, rfl, trivial⟩

theorem cmp_plain {n m : Nat} {k i i' : Int} {s s' : ByteArray} {ks : List (Tm n)} {ls : List (Tm m)} (h8 : k ≠ 8) (h7 : k ≠ 7) (hs : s = s') (h1 : ks.length = 0) (h2 : ls.length = 0) :
    cmpT (n + 1) (m + 1) (k, i, s, ks) (k, i', s', ls) = sgn i i' := by
  subst hs
  by_cases hi : i = i'
  · subst hi
    rw [cmp_rest h8 h7 (by omega), eachI_out _ _ _ _ _ _ (.inl (by omega)), sgn_self]
  · exact cmp_num hi
theorem cmp_str {n m : Nat} {k i i' : Int} {s s' : ByteArray} {ks : List (Tm n)} {ls : List (Tm m)} (h8 : k ≠ 8) (h7 : k ≠ 7) (hi : i = i') (h1 : ks.length = 0) (h2 : ls.length = 0) :
    cmpT (n + 1) (m + 1) (k, i, s, ks) (k, i', s', ls) = ordS s s' := by
  subst hi
  by_cases hs : s = s'
  · subst hs
    rw [cmp_rest h8 h7 (by omega), eachI_out _ _ _ _ _ _ (.inl (by omega)), ordS_self]
  · exact cmp_text hs
theorem cmp_cnt {n m : Nat} {k i i' : Int} {s s' : ByteArray} {ks : List (Tm n)} {ls : List (Tm m)} (h8 : k ≠ 8) (h7 : k ≠ 7) (hs : s = s') :
    cmpT (n + 1) (m + 1) (k, i, s, ks) (k, i', s', ls) = funT (cntT (eachI (cmpT n m) ks ls 1 ks.length 0) ks.length ls.length) i i' := by
  subst hs
  by_cases hi : i = i'
  · subst hi
    rw [funT_same rfl]
    by_cases hl : ks.length = ls.length
    · rw [cntT_same hl, cmp_rest h8 h7 hl]
    · rw [cntT_ne hl, cmp_len h8 hl]
  · rw [funT_ne hi, cmp_num hi]

theorem ord_of {n m : Nat} (h : OrdSaid n m) : OrdSaid (n + 1) (m + 1) := by
  have hV := cfV_of h
  have hL := cfL_of h
  have hP0 := cfP0_of h
  have hP1 := cfP1_of h
  rintro ⟨k, i, s, ks⟩ ⟨k', i', s', ls⟩ v v' w hv hv' hr hr'
  obtain ⟨hf, hall⟩ := right_parts hr
  obtain ⟨hf', hall'⟩ := right_parts hr'
  by_cases hk : k = k'
  case neg =>
    obtain ⟨u, x, D, rfl, hg⟩ := hv.dyn
    obtain ⟨u', x', D', rfl, hg'⟩ := hv'.dyn
    rw [cmp_kind hk]
    exact orderOf_ne D D' x x' w hg hg' hk
  subst hk
  obtain ⟨hi64, hss, hv⟩ := hv
  obtain ⟨hi64', hss', hv'⟩ := hv'
  rcases hv with ⟨rfl, rfl⟩ | ⟨rfl, rfl⟩ | ⟨rfl, rfl⟩ | ⟨rfl, rfl⟩ | ⟨rfl, rfl⟩ | ⟨a, cap, hK, hc1, hc2, hv⟩
  · have hv' : v' = .iface 65 (.int .i64 i') := by
      rcases hv' with h | h | h | h | h | ⟨_, _, _, _, _, h⟩
      · exact h.2
      all_goals first | exact absurd h.1 (by decide) | (rcases h with h | h | h | h <;> exact absurd h.1 (by decide))
    subst hv'
    rw [fit_1] at hf hf'
    simp only [Bool.and_eq_true, decide_eq_true_eq] at hf hf'
    rw [cmp_plain (by decide) (by decide) (empty_eq hf.1.2 hf'.1.2) hf.2 hf'.2]
    exact orderOf_eq dyn_int dyn_int _ _ w _ trivial trivial fun w1 _ => (order_int i i' w1).mono fun e w' he => ⟨he.1, he.2 ▸ Below.refl _ _⟩
  · have hv' : v' = .iface 59 (.string s') := by
      rcases hv' with h | h | h | h | h | ⟨_, _, _, _, _, h⟩
      · exact absurd h.1 (by decide)
      · exact h.2
      all_goals first | exact absurd h.1 (by decide) | (rcases h with h | h | h | h <;> exact absurd h.1 (by decide))
    subst hv'
    rw [fit_2] at hf hf'
    simp only [Bool.and_eq_true, decide_eq_true_eq] at hf hf'
    rw [cmp_str (by decide) (by decide) (hf.1.1.trans hf'.1.1.symm) hf.2 hf'.2]
    exact orderOf_eq dyn_atom dyn_atom _ _ w _ trivial trivial fun w1 _ => (order_atom s s' w1).mono fun e w' he => ⟨he.1, he.2 ▸ Below.refl _ _⟩
  · have hv' : v' = .iface 66 (.int .i64 i') := by
      rcases hv' with h | h | h | h | h | ⟨_, _, _, _, _, h⟩
      · exact absurd h.1 (by decide)
      · exact absurd h.1 (by decide)
      · exact h.2
      all_goals first | exact absurd h.1 (by decide) | (rcases h with h | h | h | h <;> exact absurd h.1 (by decide))
    subst hv'
    rw [fit_3] at hf hf'
    simp only [Bool.and_eq_true, decide_eq_true_eq] at hf hf'
    rw [cmp_plain (by decide) (by decide) (empty_eq hf.1.2 hf'.1.2) hf.2 hf'.2]
    exact orderOf_eq dyn_ref dyn_ref _ _ w _ trivial trivial fun w1 _ => (order_ref i i' w1).mono fun e w' he => ⟨he.1, he.2 ▸ Below.refl _ _⟩
  · have hv' : v' = .iface 71 (.int .i64 i') := by
      rcases hv' with h | h | h | h | h | ⟨_, _, _, _, _, h⟩
      · exact absurd h.1 (by decide)
      · exact absurd h.1 (by decide)
      · exact absurd h.1 (by decide)
      · exact h.2
      all_goals first | exact absurd h.1 (by decide) | (rcases h with h | h | h | h <;> exact absurd h.1 (by decide))
    subst hv'
    rw [fit_5] at hf hf'
    simp only [Bool.and_eq_true, decide_eq_true_eq] at hf hf'
    rw [cmp_plain (by decide) (by decide) (empty_eq hf.1.2 hf'.1.2) hf.2 hf'.2]
    exact orderOf_eq dyn_pid dyn_pid _ _ w _ trivial trivial fun w1 _ => (order_pid i i' w1).mono fun e w' he => ⟨he.1, he.2 ▸ Below.refl _ _⟩
  · have hv' : v' = .iface 77 (.string s') := by
      rcases hv' with h | h | h | h | h | ⟨_, _, _, _, _, h⟩
      · exact absurd h.1 (by decide)
      · exact absurd h.1 (by decide)
      · exact absurd h.1 (by decide)
      · exact absurd h.1 (by decide)
      · exact h.2
      all_goals first | exact absurd h.1 (by decide) | (rcases h with h | h | h | h <;> exact absurd h.1 (by decide))
    subst hv'
    rw [fit_9] at hf hf'
    simp only [Bool.and_eq_true, decide_eq_true_eq] at hf hf'
    rw [cmp_str (by decide) (by decide) (hf.1.1.trans hf'.1.1.symm) hf.2 hf'.2]
    exact orderOf_eq dyn_bin dyn_bin _ _ w _ trivial trivial fun w1 _ => (order_bin s s' w1).mono fun e w' he => ⟨he.1, he.2 ▸ Below.refl _ _⟩
  · rcases hv' with h | h | h | h | h | ⟨a', cap', hK', hc1', hc2', hv'⟩
    all_goals try (rcases hv with h4 | h4 | h4 | h4 <;> exact absurd (h4.1.symm.trans h.1) (by decide))
    have hR : Rows2 n m ks ls a a' cap cap' w := ⟨hK, hK', hc1, hc2, hc1', hc2', hall, hall'⟩
    rcases hv with ⟨rfl, rfl⟩ | ⟨rfl, rfl⟩ | ⟨rfl, rfl⟩ | ⟨rfl, rfl⟩
    · have hv' : v' = .iface 69 (.agg #[.int .i64 i', .slice a' ls.length cap']) := by
        rcases hv' with h | h | h | h
        · exact h.2
        all_goals exact absurd h.1 (by decide)
      subst hv'
      rw [fit_4] at hf hf'
      simp only [Bool.and_eq_true, decide_eq_true_eq] at hf hf'
      rw [cmp_cnt (by decide) (by decide) (empty_eq hf.2 hf'.2)]
      exact orderOf_eq dyn_fun dyn_fun _ _ w _ ⟨_, _, rfl⟩ ⟨_, _, rfl⟩ fun w1 hb => order_fun hV i i' ks ls a a' cap cap' w1 (hR.up hb)
    · have hv' : v' = .iface 72 (.slice a' ls.length cap') := by
        rcases hv' with h | h | h | h
        · exact absurd h.1 (by decide)
        · exact h.2
        all_goals exact absurd h.1 (by decide)
      subst hv'
      rw [fit_6] at hf hf'
      simp only [Bool.and_eq_true, decide_eq_true_eq] at hf hf'
      rw [cmp_cnt (by decide) (by decide) (empty_eq hf.2 hf'.2), funT_same (hf.1.trans hf'.1.symm)]
      exact orderOf_eq dyn_tup dyn_tup _ _ w _ trivial trivial fun w1 hb => order_tup hV ks ls a a' cap cap' w1 (hR.up hb)
    · have hv' : v' = .iface 76 (.slice a' ls.length cap') := by
        rcases hv' with h | h | h | h
        · exact absurd h.1 (by decide)
        · exact absurd h.1 (by decide)
        · exact h.2
        · exact absurd h.1 (by decide)
      subst hv'
      rw [fit_8] at hf hf'
      simp only [Bool.and_eq_true, decide_eq_true_eq] at hf hf'
      obtain rfl : i = i' := hf.1.trans hf'.1.symm
      obtain rfl : s = s' := empty_eq hf.2 hf'.2
      rw [cmp_list]
      exact orderOf_eq dyn_lst dyn_lst _ _ w _ trivial trivial fun w1 hb => order_lst hL ks ls a a' cap cap' w1 (hR.up hb)
    · have hv' : v' = .iface 74 (.slice a' (ls.length / 2) cap') := by
        rcases hv' with h | h | h | h
        · exact absurd h.1 (by decide)
        · exact absurd h.1 (by decide)
        · exact absurd h.1 (by decide)
        · exact h.2
      subst hv'
      rw [fit_7] at hf hf'
      simp only [Bool.and_eq_true, decide_eq_true_eq] at hf hf'
      obtain rfl : i = i' := hf.1.1.trans hf'.1.1.symm
      obtain rfl : s = s' := empty_eq hf.1.2 hf'.1.2
      have hc : cmpT (n + 1) (m + 1) (7, i, s, ks) (7, i, s, ls) = cntT (mapT (eachI (cmpT n m) ks ls 2 ks.length 0) (eachI (cmpT n m) ks ls 2 ks.length 1)) ks.length ls.length := by
        by_cases hl : ks.length = ls.length
        · rw [cntT_same hl, cmp_map hl]; rfl
        · rw [cntT_ne hl, cmp_len (by decide) hl]
      rw [hc]
      exact orderOf_eq dyn_map dyn_map _ _ w _ trivial trivial fun w1 hb => order_map hP0 hP1 ks ls a a' cap cap' w1 (hR.up hb) hf.2 hf'.2

theorem ord_any : ∀ n m, OrdSaid n m
  | 0, _ => fun t => t.elim
  | _ + 1, 0 => fun _ u => u.elim
  | n + 1, m + 1 => ord_of (ord_any n m)

end Go.Proofs.YtffgdchemjmbmaaGreat
/- Plain facts: the bytes of a term. -/
namespace Go.Proofs.YtffgdchemjmbmaaGreat
open Go.RowKit

/-- What is packed, as the cells of a row of bytes. -/
def u8c (xs : List Int) : List Value := xs.map (Value.int .u8)
theorem u8c_append (xs ys : List Int) : u8c (xs ++ ys) = u8c xs ++ u8c ys := List.map_append
theorem strCells_txt (s : ByteArray) : Lib.strCells s = u8c (txtL s) := by
  unfold Lib.strCells u8c txtL; rw [List.map_map]; rfl

end Go.Proofs.YtffgdchemjmbmaaGreat
/- impl's writer: what it holds, and what is kept beside it. -/
namespace Go.Proofs.YtffgdchemjmbmaaGreat
open Go.RowKit

/-- The blocks of K are as they were; the streams too; no block has gone. -/
structure Stay (K : Nat → Prop) (w w' : World) : Prop where
  os : w'.os = w.os
  tape : w'.tape = w.tape
  output : w'.output = w.output
  size : w.heap.size ≤ w'.heap.size
  block : ∀ k, K k → w'.heap[k]? = w.heap[k]?
theorem Stay.refl (K : Nat → Prop) (w : World) : Stay K w w := ⟨rfl, rfl, rfl, Nat.le_refl _, fun _ _ => rfl⟩
theorem Stay.trans {K : Nat → Prop} {a b c : World} (h : Stay K a b) (k : Stay K b c) : Stay K a c :=
  ⟨k.os.trans h.os, k.tape.trans h.tape, k.output.trans h.output, Nat.le_trans h.size k.size, fun i hi => (k.block i hi).trans (h.block i hi)⟩
theorem Stay.mono {K K' : Nat → Prop} {w w' : World} (h : Stay K w w') (hK : ∀ k, K' k → K k) : Stay K' w w' := ⟨h.os, h.tape, h.output, h.size, fun k hk => h.block k (hK k hk)⟩
theorem Stay.drew {K : Nat → Prop} {a w : World} (h : Stay K a w) : Stay K a w.drew := ⟨h.os, h.tape, h.output, h.size, h.block⟩
theorem Stay.alloc {K : Nat → Prop} {a w : World} (h : Stay K a w) (hK : ∀ k, K k → k < w.heap.size) (o : Obj) : Stay K a (w.alloc o) :=
  h.trans ⟨rfl, rfl, rfl, by simp, fun k hk => Below.heap_alloc _ _ _ (hK k hk)⟩
theorem Stay.setCell {K : Nat → Prop} {a w : World} (h : Stay K a w) {p : Addr} (hp : ¬ K p.block) (u : Value) : Stay K a (w.setCell p u) :=
  h.trans ⟨rfl, rfl, rfl, by simp [World.setCell], fun k hk => Below.heap_setCell _ _ _ _ (fun e => hp (e ▸ hk))⟩
theorem Stay.grown {K : Nat → Prop} {a w w' : World} {row : Option Nat} (h : Stay K a w) (hg : w.grownBy w' row) (hK : ∀ k, K k → k < w.heap.size) (hr : ∀ g, row = some g → ¬ K g) : Stay K a w' :=
  h.trans ⟨hg.os, hg.tape, hg.output, hg.size, fun k hk => hg.block k (hK k hk) fun e => hr k e.symm hk⟩
theorem Stay.below {K : Nat → Prop} {w w' : World} (h : Below w.heap.size w w') (hK : ∀ k, K k → k < w.heap.size) : Stay K w w' := ⟨h.os, h.tape, h.output, h.size, fun k hk => h.block k (hK k hk)⟩
theorem Stay.toBelow {K : Nat → Prop} {B : Nat} {w w' : World} (h : Stay K w w') (hK : ∀ k, k < B → K k) : Below B w w' := ⟨h.os, h.tape, h.output, h.size, fun k hk => h.block k (hK k hk)⟩
theorem Stay.cell {K : Nat → Prop} {w w' : World} (h : Stay K w w') {k : Nat} (hk : K k) (o : Nat) : w'.cell? ⟨k, o, none⟩ = w.cell? ⟨k, o, none⟩ := World.cell?_of_block (w := w) (h.block k hk)

/-- The writer in block b: its limit, and the bytes that are there; its row lies in no block of K. -/
structure Wri (K : Nat → Prop) (b most : Nat) (xs : List Int) (w : World) : Prop where
  lt : ∀ k, K k → k < w.heap.size
  self : ¬ K b
  few : xs.length ≤ most
  row : ∃ a cap, w.heap[b]? = some (.cells #[.int .i64 most, .slice a xs.length cap] 135 (0, 0)) ∧ w.ownsRow (b + 1) 5 1 (.slice a xs.length cap) xs.length (u8c xs) ∧ ∀ g, (Value.slice a xs.length cap).ownBlock = some g → ¬ K g

theorem Wri.b_lt {K : Nat → Prop} {b most : Nat} {xs : List Int} {w : World} (h : Wri K b most xs w) : b < w.heap.size := by
  obtain ⟨a, cap, hb, _⟩ := h.row
  exact (Array.getElem?_eq_some_iff.1 hb).1
theorem Wri.mono {K K' : Nat → Prop} {b most : Nat} {xs : List Int} {w : World} (h : Wri K b most xs w) (hK : ∀ k, K' k → K k) : Wri K' b most xs w := by
  obtain ⟨a, cap, hb, ho, hs⟩ := h.row
  exact ⟨fun k hk => h.lt k (hK k hk), fun hk => h.self (hK b hk), h.few, a, cap, hb, ho, fun g hg hk => hs g hg (hK g hk)⟩
/-- Behind a step that makes new memory alone; what is new may be kept from then on. -/
theorem Wri.more {K K' : Nat → Prop} {b most : Nat} {xs : List Int} {w w' : World} (h : Wri K b most xs w) (hb : Below w.heap.size w w') (hK : ∀ k, K' k → K k ∨ (w.heap.size ≤ k ∧ k < w'.heap.size)) : Wri K' b most xs w' := by
  have hbl := h.b_lt
  obtain ⟨a, cap, hh, ho, hs⟩ := h.row
  refine ⟨fun k hk => ?_, fun hk => ?_, h.few, a, cap, (hb.block b hbl).trans hh, ?_, fun g hg hk => ?_⟩
  · rcases hK k hk with h1 | h1
    · exact Nat.lt_of_lt_of_le (h.lt k h1) hb.size
    · exact h1.2
  · rcases hK b hk with h1 | h1
    · exact h.self h1
    · omega
  · refine ⟨ho.1, ?_⟩
    rcases ho.2 with hn | ⟨g, cap', cur, hv, hbg, hg, rest⟩
    · exact .inl hn
    · exact .inr ⟨g, cap', cur, hv, hbg, (hb.block g (Array.getElem?_eq_some_iff.1 hg).1).trans hg, rest⟩
  · have hlt := (ho.lt g hg).2
    rcases hK g hk with h1 | h1
    · exact hs g hg h1
    · omega
theorem Wri.same {K : Nat → Prop} {b most : Nat} {xs : List Int} {w w' : World} (h : Wri K b most xs w) (hb : Below w.heap.size w w') : Wri K b most xs w' := h.more hb fun _ hk => .inl hk

/-- What ends a walk that writes too much. -/
def fullV : Value := .iface 55 (.agg #[.int .i64 3, .int .i64 0])
def fullE : Ending := .panicked [{ v := fullV, recovered := false }]

/-- Behind writing ys: they are there, or the walk has ended, because they are too many. -/
def WEnd (K : Nat → Prop) (b most : Nat) (xs ys : List Int) (w : World) (e : Ending) (w' : World) : Prop :=
  Stay K w w' ∧ ((xs.length + ys.length ≤ most ∧ e = .returned (.tuple #[]) ∧ Wri K b most (xs ++ ys) w') ∨ (most < xs.length + ys.length ∧ e = fullE))

end Go.Proofs.YtffgdchemjmbmaaGreat
/- Laws for the walk: a text appended to an own row of bytes, and where the new row lies. -/
namespace Go.Proofs.YtffgdchemjmbmaaGreat
open Go.RowKit Go.Lib

section
variable {P : Program} (w : World)

end

theorem own_form {w : World} {base : Nat} {e : TypeId} {size : Nat} {v : Value} {n : Nat} {xs : List Value} (h : w.ownsRow base e size v n xs) : ∃ a cap, v = .slice a n cap := by
  rcases h.2 with ⟨h, h0⟩ | ⟨g, cap, cur, h, _⟩
  · exact ⟨none, 0, by rw [h, h0]⟩
  · exact ⟨_, _, h⟩

end Go.Proofs.YtffgdchemjmbmaaGreat
/- impl's writer: bytes, number. -/
namespace Go.Proofs.YtffgdchemjmbmaaGreat
open Go.RowKit Go.Deep

theorem WEnd.step {K K' : Nat → Prop} {b most : Nat} {xs ys : List Int} {w w0 : World} {e : Ending} {w' : World} (h : WEnd K' b most xs ys w0 e w') (hK : ∀ k, K k → K' k) (hs : Stay K w w0) : WEnd K b most xs ys w e w' := by
  obtain ⟨h1, h2⟩ := h
  refine ⟨hs.trans (h1.mono hK), ?_⟩
  rcases h2 with ⟨a, b, c⟩ | h2
  · exact .inl ⟨a, b, c.mono hK⟩
  · exact .inr h2

end Go.Proofs.YtffgdchemjmbmaaGreat
/- impl's pack of the kinds without kids. -/
namespace Go.Proofs.YtffgdchemjmbmaaGreat
open Go.RowKit Go.Deep

theorem WEnd.go {K : Nat → Prop} {b most : Nat} {xs ys zs us : List Int} {w w1 : World} {e : Ending} {w' : World} (h : WEnd K b most (xs ++ ys) zs w1 e w') (hs : Stay K w w1) (hu : us = ys ++ zs) : WEnd K b most xs us w e w' := by
  subst hu
  obtain ⟨h1, h2⟩ := h
  refine ⟨hs.trans h1, ?_⟩
  rw [List.length_append] at h2 ⊢
  rcases h2 with ⟨a, b, c⟩ | ⟨a, b⟩
  · exact .inl ⟨by omega, b, by rw [← List.append_assoc]; exact c⟩
  · exact .inr ⟨by omega, b⟩
theorem WEnd.done {K : Nat → Prop} {b most : Nat} {xs ys : List Int} {w w' : World} (hs : Stay K w w') (hw : Wri K b most (xs ++ ys) w') : WEnd K b most xs ys w (.returned (.tuple #[])) w' :=
  ⟨hs, .inl ⟨by have := hw.few; rwa [List.length_append] at this, rfl, hw⟩⟩

section
variable (K : Nat → Prop) (b most : Nat) (xs : List Int) (w : World)

end
end Go.Proofs.YtffgdchemjmbmaaGreat
/- impl's looks at one term's own fields: isName, fieldsFit; the counter. -/
namespace Go.Proofs.YtffgdchemjmbmaaGreat
open Go.RowKit

set_option maxHeartbeats 400000 in
theorem ilower_any (b : Int) (w : World) : Calls Tryz.prog 50 #[.int .u8 b] w fun e w' => e = .returned (.bool (lowB b)) ∧ w' = w := by
  by_cases h1 : 97 ≤ b
  · by_cases h2 : b ≤ 122
    all_goals
      go_enter Tryz.func50, Tryz.ntmps50
      go_wp2
      go_ret
      exact ⟨ret_bool (by simp only [lowB]; simp; omega), rfl⟩
  · go_enter Tryz.func50, Tryz.ntmps50
    go_wp2
    go_ret
    exact ⟨ret_bool (by simp only [lowB]; simp; omega), rfl⟩

set_option maxHeartbeats 400000 in
theorem idigit_any (b : Int) (w : World) : Calls Tryz.prog 53 #[.int .u8 b] w fun e w' => e = .returned (.bool (digB b)) ∧ w' = w := by
  by_cases h1 : 48 ≤ b
  · by_cases h2 : b ≤ 57
    all_goals
      go_enter Tryz.func53, Tryz.ntmps53
      go_wp2
      go_ret
      exact ⟨ret_bool (by simp only [digB]; simp; omega), rfl⟩
  · go_enter Tryz.func53, Tryz.ntmps53
    go_wp2
    go_ret
    exact ⟨ret_bool (by simp only [digB]; simp; omega), rfl⟩

/-- A byte that may stand in a name, as a number. -/
def nbI (b : Int) : Bool := letB b || digB b
theorem nbI_true {b : Int} : nbI b = true ↔ (97 ≤ b ∧ b ≤ 122) ∨ (65 ≤ b ∧ b ≤ 90) ∨ b = 95 ∨ (48 ≤ b ∧ b ≤ 57) := by
  unfold nbI; rw [Bool.or_eq_true, letB_true, digB_true]; omega

set_option maxHeartbeats 1000000 in
theorem nameByte_any (b : Int) (w : World) : Calls Tryz.prog 51 #[.int .u8 b] w fun e w' => e = .returned (.bool (nbI b)) ∧ w' = w := by
  by_cases h1 : lowB b = true
  · have h2 := lowB_true.1 h1
    go_enter Tryz.func51, Tryz.ntmps51
    go_wp2_with (go_at_call 50; refine (ilower_any _ _).mono ?_; rintro e w' ⟨rfl, rfl⟩; rw [h1])
    go_ret
    exact ⟨ret_bool (nbI_true.2 (by omega)).symm, rfl⟩
  · have h2 : ¬ (97 ≤ b ∧ b ≤ 122) := fun h => h1 (lowB_true.2 h)
    have h1 : lowB b = false := by simpa using h1
    by_cases h5 : digB b = true
    · have h6 := digB_true.1 h5
      have hn : ¬ 65 ≤ b := by omega
      go_enter Tryz.func51, Tryz.ntmps51
      go_wp2_with (first | (go_at_call 50; refine (ilower_any _ _).mono ?_; rintro e w' ⟨rfl, rfl⟩; rw [h1]) | (go_at_call 53; refine (idigit_any _ _).mono ?_; rintro e w' ⟨rfl, rfl⟩; rw [h5]))
      go_ret
      exact ⟨ret_bool (nbI_true.2 (by omega)).symm, rfl⟩
    · have h6 : ¬ (48 ≤ b ∧ b ≤ 57) := fun h => h5 (digB_true.2 h)
      have h5 : digB b = false := by simpa using h5
      have H26 := hide (And.intro h2 h6)
      clear h2 h6
      by_cases h3 : 65 ≤ b
      · by_cases h4 : b ≤ 90
        · go_enter Tryz.func51, Tryz.ntmps51
          go_wp2_with (first | (go_at_call 50; refine (ilower_any _ _).mono ?_; rintro e w' ⟨rfl, rfl⟩; rw [h1]) | (go_at_call 53; refine (idigit_any _ _).mono ?_; rintro e w' ⟨rfl, rfl⟩; rw [h5]))
          go_ret
          exact ⟨ret_bool (nbI_true.2 (by omega)).symm, rfl⟩
        · go_enter Tryz.func51, Tryz.ntmps51
          go_wp2_with (first | (go_at_call 50; refine (ilower_any _ _).mono ?_; rintro e w' ⟨rfl, rfl⟩; rw [h1]) | (go_at_call 53; refine (idigit_any _ _).mono ?_; rintro e w' ⟨rfl, rfl⟩; rw [h5]))
          go_ret
          exact ⟨ret_bool (by obtain ⟨g1, g2⟩ := unhide H26; rw [Bool.eq_iff_iff, nbI_true]; simp; omega), rfl⟩
      · go_enter Tryz.func51, Tryz.ntmps51
        go_wp2_with (first | (go_at_call 50; refine (ilower_any _ _).mono ?_; rintro e w' ⟨rfl, rfl⟩; rw [h1]) | (go_at_call 53; refine (idigit_any _ _).mono ?_; rintro e w' ⟨rfl, rfl⟩; rw [h5]))
        go_ret
        exact ⟨ret_bool (by obtain ⟨g1, g2⟩ := unhide H26; rw [Bool.eq_iff_iff, nbI_true]; simp; omega), rfl⟩

set_option maxHeartbeats 1000000 in
theorem isName_any (s : ByteArray) (w : World) (hs : s.size ≤ 2 ^ 47) : Calls Tryz.prog 47 #[.string s] w fun e w' => e = .returned (.bool (nameB s)) ∧ w' = w := by
  by_cases h1 : s.size = 0
  · have hz : Hid (nameB s = false) := by show nameB s = false; unfold nameB; rw [decide_eq_false (by omega)]; rfl
    go_enter Tryz.func47, Tryz.ntmps47
    go_wp2_with fail
    go_ret
    exact ⟨ret_bool (unhide hz).symm, rfl⟩
  · have h1' : ((s.size : Int) == 0) = false := by simpa using h1
    have hpos : 0 < s.size := by omega
    clear h1
    by_cases h2 : s.size ≤ 30
    case neg =>
      have hz : Hid (nameB s = false) := by show nameB s = false; unfold nameB; rw [decide_eq_false h2, Bool.and_false]; rfl
      go_enter Tryz.func47, Tryz.ntmps47
      go_wp2_with fail
      go_ret
      exact ⟨ret_bool (unhide hz).symm, rfl⟩
    by_cases h3 : lowB s[0].toNat = true
    case neg =>
      have h3' : lowB s[0].toNat = false := by simpa using h3
      have hz : Hid (nameB s = false) := by show nameB s = false; unfold nameB; rw [first_of hpos, h3', Bool.and_false]
      clear h3
      go_enter Tryz.func47, Tryz.ntmps47
      go_wp2_with (go_at_call 50; refine (ilower_any _ _).mono ?_; rintro e w' ⟨rfl, rfl⟩; rw [h3'])
      go_ret
      exact ⟨ret_bool (unhide hz).symm, rfl⟩
    have hnm : Hid (nameB s = s.data.toList.all nbB) := by
      show nameB s = _
      unfold nameB; rw [first_of hpos, h3, decide_eq_true hpos, decide_eq_true h2]; simp
    go_enter Tryz.func47, Tryz.ntmps47
    go_wp2_with (go_at_call 50; refine (ilower_any _ _).mono ?_; rintro e w' ⟨rfl, rfl⟩; rw [h3])
    go_loop [20] (fun i => ∃ k : Nat, k ≤ s.size ∧ i = .int .i64 k ∧ ∀ j (h : j < s.size), j < k → nbB s[j] = true) (fun i => s.size - (intOf i).toNat)
    case atStart => exact ⟨0, Nat.zero_le _, rfl, fun j _ h => absurd h (by omega)⟩
    case round =>
      obtain ⟨k, hk, rfl, hall⟩ := hrel
      have HALL := hide hall
      clear hall
      by_cases hlt : k < s.size
      · have hnb : nbB s[k] = nbI s[k].toNat := rfl
        by_cases g1 : nbI s[k].toNat = true
        · have HN := hide (hnb.trans g1)
          clear hnb
          go_wp2_with (go_at_call 51; refine (nameByte_any _ _).mono ?_; rintro e w' ⟨rfl, rfl⟩; rw [g1])
          go_round
          case rel => exact ⟨k + 1, hlt, by go_num, fun j hj hjk => if h : j = k then by subst h; exact unhide HN else unhide HALL j hj (by omega)⟩
          case measure => simp [intOf]; omega
        · have g1' : nbI s[k].toNat = false := by simpa using g1
          have HN := hide (hnb.trans g1')
          clear hnb g1
          go_wp2_with (go_at_call 51; refine (nameByte_any _ _).mono ?_; rintro e w' ⟨rfl, rfl⟩; rw [g1'])
          go_ret
          refine ⟨ret_bool ?_, rfl⟩
          have : s.data.toList.all nbB = false := by
            rw [← Bool.not_eq_true, all_of]; intro h; have := h k hlt; rw [unhide HN] at this; cases this
          rw [unhide hnm, this]
      · have hks : k = s.size := by omega
        subst hks
        go_wp2_with fail
        go_ret
        exact ⟨ret_bool (by rw [unhide hnm, all_of.2 fun j h => unhide HALL j h h]), rfl⟩

/-- fieldsFit looks as fitB says. -/
def FitsSaid : Prop := ∀ (k i : Int) (s : ByteArray) (a : Option Addr) (l cap : Nat) (w : World), s.size ≤ 2 ^ 47 → l ≤ cap → l ≤ 2 ^ 47 →
  Calls Tryz.prog 41 #[.agg #[.int .i64 k, .int .i64 i, .string s, .slice a l cap]] w fun e w' => e = .returned (.bool (fitB k i s l)) ∧ Below w.heap.size w w'

theorem str_empty {s : ByteArray} (h : s.size = 0) : s.toList.isEmpty = true := by
  have h1 : s.data = #[] := Array.size_eq_zero_iff.1 h
  rw [ByteArray.toList_eq, h1]; rfl
theorem str_full {s : ByteArray} (h : s.size ≠ 0) : s.toList.isEmpty = false := by
  rw [ByteArray.toList_eq, ← Bool.not_eq_true, List.isEmpty_iff]
  intro h'
  have h2 : s.data.toList.length = 0 := by rw [h']; rfl
  exact h h2

set_option maxRecDepth 100000 in
set_option maxHeartbeats 4000000 in
theorem fieldsFit_any : FitsSaid := by
  intro k i s a l cap w hs hl hc
  have hbx := fun x : Obj => (Below.refl w.heap.size w).alloc (Nat.le_refl _) x
  by_cases g1 : k = 1
  case pos =>
    subst g1
    by_cases hlo : (-1000000000000000 : Int) ≤ i
    case neg =>
      have HF : Hid (fitB 1 i s l = false) := by
        show fitB 1 i s l = false
        rw [fit_1, decide_eq_false hlo]; simp
      go_enter Tryz.func41, Tryz.ntmps41
      go_wp2_with fail
      go_ret
      exact ⟨ret_bool (by first | (rw [unhide HF]; done) | (have hq := unhide HF; rw [hi0] at hq; rw [hq])), hbx _⟩
    by_cases hhi : i ≤ 1000000000000000
    case neg =>
      have HF : Hid (fitB 1 i s l = false) := by
        show fitB 1 i s l = false
        rw [fit_1, decide_eq_true hlo, decide_eq_false hhi]; simp
      go_enter Tryz.func41, Tryz.ntmps41
      go_wp2_with fail
      go_ret
      exact ⟨ret_bool (by first | (rw [unhide HF]; done) | (have hq := unhide HF; rw [hi0] at hq; rw [hq])), hbx _⟩
    by_cases hse : s.size = 0
    case neg =>
      have HF : Hid (fitB 1 i s l = false) := by
        show fitB 1 i s l = false
        rw [fit_1, decide_eq_true hlo, decide_eq_true hhi, decide_eq_false hse]; simp
      have hse' := str_full hse
      go_enter Tryz.func41, Tryz.ntmps41
      go_wp2_with fail
      go_ret
      exact ⟨ret_bool (by first | (rw [unhide HF]; done) | (have hq := unhide HF; rw [hi0] at hq; rw [hq])), hbx _⟩
    have hse' := str_empty hse
    by_cases hle : l = 0
    case neg =>
      have HF : Hid (fitB 1 i s l = false) := by
        show fitB 1 i s l = false
        rw [fit_1, decide_eq_true hlo, decide_eq_true hhi, decide_eq_true hse, decide_eq_false hle]; simp
      have hle' : ((l : Int) == 0) = false := by simpa using hle
      go_enter Tryz.func41, Tryz.ntmps41
      go_wp2_with fail
      go_ret
      exact ⟨ret_bool (by first | (rw [unhide HF]; done) | (have hq := unhide HF; rw [hi0] at hq; rw [hq])), hbx _⟩
    have hle' : ((l : Int) == 0) = true := by simp [hle]
    have HF : Hid (fitB 1 i s l = true) := by
      show fitB 1 i s l = true
      rw [fit_1, decide_eq_true hlo, decide_eq_true hhi, decide_eq_true hse, decide_eq_true hle]; rfl
    go_enter Tryz.func41, Tryz.ntmps41
    go_wp2_with fail
    go_ret
    exact ⟨ret_bool (by first | (rw [unhide HF]; done) | (have hq := unhide HF; rw [hi0] at hq; rw [hq])), hbx _⟩
  have g1' : (k == 1) = false := by simpa using g1
  by_cases g3 : k = 3
  case pos =>
    subst g3
    by_cases hlo : (0 : Int) ≤ i
    case neg =>
      have HF : Hid (fitB 3 i s l = false) := by
        show fitB 3 i s l = false
        rw [fit_3, decide_eq_false hlo]; simp
      go_enter Tryz.func41, Tryz.ntmps41
      go_wp2_with fail
      go_ret
      exact ⟨ret_bool (by first | (rw [unhide HF]; done) | (have hq := unhide HF; rw [hi0] at hq; rw [hq])), hbx _⟩
    by_cases hhi : i ≤ 1000000000000000
    case neg =>
      have HF : Hid (fitB 3 i s l = false) := by
        show fitB 3 i s l = false
        rw [fit_3, decide_eq_true hlo, decide_eq_false hhi]; simp
      go_enter Tryz.func41, Tryz.ntmps41
      go_wp2_with fail
      go_ret
      exact ⟨ret_bool (by first | (rw [unhide HF]; done) | (have hq := unhide HF; rw [hi0] at hq; rw [hq])), hbx _⟩
    by_cases hse : s.size = 0
    case neg =>
      have HF : Hid (fitB 3 i s l = false) := by
        show fitB 3 i s l = false
        rw [fit_3, decide_eq_true hlo, decide_eq_true hhi, decide_eq_false hse]; simp
      have hse' := str_full hse
      go_enter Tryz.func41, Tryz.ntmps41
      go_wp2_with fail
      go_ret
      exact ⟨ret_bool (by first | (rw [unhide HF]; done) | (have hq := unhide HF; rw [hi0] at hq; rw [hq])), hbx _⟩
    have hse' := str_empty hse
    by_cases hle : l = 0
    case neg =>
      have HF : Hid (fitB 3 i s l = false) := by
        show fitB 3 i s l = false
        rw [fit_3, decide_eq_true hlo, decide_eq_true hhi, decide_eq_true hse, decide_eq_false hle]; simp
      have hle' : ((l : Int) == 0) = false := by simpa using hle
      go_enter Tryz.func41, Tryz.ntmps41
      go_wp2_with fail
      go_ret
      exact ⟨ret_bool (by first | (rw [unhide HF]; done) | (have hq := unhide HF; rw [hi0] at hq; rw [hq])), hbx _⟩
    have hle' : ((l : Int) == 0) = true := by simp [hle]
    have HF : Hid (fitB 3 i s l = true) := by
      show fitB 3 i s l = true
      rw [fit_3, decide_eq_true hlo, decide_eq_true hhi, decide_eq_true hse, decide_eq_true hle]; rfl
    go_enter Tryz.func41, Tryz.ntmps41
    go_wp2_with fail
    go_ret
    exact ⟨ret_bool (by first | (rw [unhide HF]; done) | (have hq := unhide HF; rw [hi0] at hq; rw [hq])), hbx _⟩
  have g3' : (k == 3) = false := by simpa using g3
  by_cases g5 : k = 5
  case pos =>
    subst g5
    by_cases hlo : (0 : Int) ≤ i
    case neg =>
      have HF : Hid (fitB 5 i s l = false) := by
        show fitB 5 i s l = false
        rw [fit_5, decide_eq_false hlo]; simp
      go_enter Tryz.func41, Tryz.ntmps41
      go_wp2_with fail
      go_ret
      exact ⟨ret_bool (by first | (rw [unhide HF]; done) | (have hq := unhide HF; rw [hi0] at hq; rw [hq])), hbx _⟩
    by_cases hhi : i ≤ 1000000000000000
    case neg =>
      have HF : Hid (fitB 5 i s l = false) := by
        show fitB 5 i s l = false
        rw [fit_5, decide_eq_true hlo, decide_eq_false hhi]; simp
      go_enter Tryz.func41, Tryz.ntmps41
      go_wp2_with fail
      go_ret
      exact ⟨ret_bool (by first | (rw [unhide HF]; done) | (have hq := unhide HF; rw [hi0] at hq; rw [hq])), hbx _⟩
    by_cases hse : s.size = 0
    case neg =>
      have HF : Hid (fitB 5 i s l = false) := by
        show fitB 5 i s l = false
        rw [fit_5, decide_eq_true hlo, decide_eq_true hhi, decide_eq_false hse]; simp
      have hse' := str_full hse
      go_enter Tryz.func41, Tryz.ntmps41
      go_wp2_with fail
      go_ret
      exact ⟨ret_bool (by first | (rw [unhide HF]; done) | (have hq := unhide HF; rw [hi0] at hq; rw [hq])), hbx _⟩
    have hse' := str_empty hse
    by_cases hle : l = 0
    case neg =>
      have HF : Hid (fitB 5 i s l = false) := by
        show fitB 5 i s l = false
        rw [fit_5, decide_eq_true hlo, decide_eq_true hhi, decide_eq_true hse, decide_eq_false hle]; simp
      have hle' : ((l : Int) == 0) = false := by simpa using hle
      go_enter Tryz.func41, Tryz.ntmps41
      go_wp2_with fail
      go_ret
      exact ⟨ret_bool (by first | (rw [unhide HF]; done) | (have hq := unhide HF; rw [hi0] at hq; rw [hq])), hbx _⟩
    have hle' : ((l : Int) == 0) = true := by simp [hle]
    have HF : Hid (fitB 5 i s l = true) := by
      show fitB 5 i s l = true
      rw [fit_5, decide_eq_true hlo, decide_eq_true hhi, decide_eq_true hse, decide_eq_true hle]; rfl
    go_enter Tryz.func41, Tryz.ntmps41
    go_wp2_with fail
    go_ret
    exact ⟨ret_bool (by first | (rw [unhide HF]; done) | (have hq := unhide HF; rw [hi0] at hq; rw [hq])), hbx _⟩
  have g5' : (k == 5) = false := by simpa using g5
  by_cases g4 : k = 4
  case pos =>
    subst g4
    by_cases hlo : (0 : Int) ≤ i
    case neg =>
      have HF : Hid (fitB 4 i s l = false) := by
        show fitB 4 i s l = false
        rw [fit_4, decide_eq_false hlo]; simp
      go_enter Tryz.func41, Tryz.ntmps41
      go_wp2_with fail
      go_ret
      exact ⟨ret_bool (by first | (rw [unhide HF]; done) | (have hq := unhide HF; rw [hi0] at hq; rw [hq])), hbx _⟩
    by_cases hhi : i ≤ 1000000000000000
    case neg =>
      have HF : Hid (fitB 4 i s l = false) := by
        show fitB 4 i s l = false
        rw [fit_4, decide_eq_true hlo, decide_eq_false hhi]; simp
      go_enter Tryz.func41, Tryz.ntmps41
      go_wp2_with fail
      go_ret
      exact ⟨ret_bool (by first | (rw [unhide HF]; done) | (have hq := unhide HF; rw [hi0] at hq; rw [hq])), hbx _⟩
    by_cases hse : s.size = 0
    case neg =>
      have HF : Hid (fitB 4 i s l = false) := by
        show fitB 4 i s l = false
        rw [fit_4, decide_eq_true hlo, decide_eq_true hhi, decide_eq_false hse]; simp
      have hse' := str_full hse
      go_enter Tryz.func41, Tryz.ntmps41
      go_wp2_with fail
      go_ret
      exact ⟨ret_bool (by first | (rw [unhide HF]; done) | (have hq := unhide HF; rw [hi0] at hq; rw [hq])), hbx _⟩
    have hse' := str_empty hse
    have HF : Hid (fitB 4 i s l = true) := by
      show fitB 4 i s l = true
      rw [fit_4, decide_eq_true hlo, decide_eq_true hhi, decide_eq_true hse]; rfl
    go_enter Tryz.func41, Tryz.ntmps41
    go_wp2_with fail
    go_ret
    exact ⟨ret_bool (by first | (rw [unhide HF]; done) | (have hq := unhide HF; rw [hi0] at hq; rw [hq])), hbx _⟩
  have g4' : (k == 4) = false := by simpa using g4
  by_cases g6 : k = 6
  case pos =>
    subst g6
    by_cases hi0 : i = 0
    case neg =>
      have HF : Hid (fitB 6 i s l = false) := by
        show fitB 6 i s l = false
        rw [fit_6, decide_eq_false hi0]; simp
      have hi0' : (i == 0) = false := by simpa using hi0
      go_enter Tryz.func41, Tryz.ntmps41
      go_wp2_with fail
      go_ret
      exact ⟨ret_bool (by first | (rw [unhide HF]; done) | (have hq := unhide HF; rw [hi0] at hq; rw [hq])), hbx _⟩
    by_cases hse : s.size = 0
    case neg =>
      have HF : Hid (fitB 6 i s l = false) := by
        show fitB 6 i s l = false
        rw [fit_6, decide_eq_true hi0, decide_eq_false hse]; simp
      have hse' := str_full hse
      go_enter Tryz.func41, Tryz.ntmps41
      go_wp2_with fail
      go_ret
      exact ⟨ret_bool (by first | (rw [unhide HF]; done) | (have hq := unhide HF; rw [hi0] at hq; rw [hq])), hbx _⟩
    have hse' := str_empty hse
    have HF : Hid (fitB 6 i s l = true) := by
      show fitB 6 i s l = true
      rw [fit_6, decide_eq_true hi0, decide_eq_true hse]; rfl
    go_enter Tryz.func41, Tryz.ntmps41
    go_wp2_with fail
    go_ret
    exact ⟨ret_bool (by first | (rw [unhide HF]; done) | (have hq := unhide HF; rw [hi0] at hq; rw [hq])), hbx _⟩
  have g6' : (k == 6) = false := by simpa using g6
  by_cases g8 : k = 8
  case pos =>
    subst g8
    by_cases hi0 : i = 0
    case neg =>
      have HF : Hid (fitB 8 i s l = false) := by
        show fitB 8 i s l = false
        rw [fit_8, decide_eq_false hi0]; simp
      have hi0' : (i == 0) = false := by simpa using hi0
      go_enter Tryz.func41, Tryz.ntmps41
      go_wp2_with fail
      go_ret
      exact ⟨ret_bool (by first | (rw [unhide HF]; done) | (have hq := unhide HF; rw [hi0] at hq; rw [hq])), hbx _⟩
    by_cases hse : s.size = 0
    case neg =>
      have HF : Hid (fitB 8 i s l = false) := by
        show fitB 8 i s l = false
        rw [fit_8, decide_eq_true hi0, decide_eq_false hse]; simp
      have hse' := str_full hse
      go_enter Tryz.func41, Tryz.ntmps41
      go_wp2_with fail
      go_ret
      exact ⟨ret_bool (by first | (rw [unhide HF]; done) | (have hq := unhide HF; rw [hi0] at hq; rw [hq])), hbx _⟩
    have hse' := str_empty hse
    have HF : Hid (fitB 8 i s l = true) := by
      show fitB 8 i s l = true
      rw [fit_8, decide_eq_true hi0, decide_eq_true hse]; rfl
    go_enter Tryz.func41, Tryz.ntmps41
    go_wp2_with fail
    go_ret
    exact ⟨ret_bool (by first | (rw [unhide HF]; done) | (have hq := unhide HF; rw [hi0] at hq; rw [hq])), hbx _⟩
  have g8' : (k == 8) = false := by simpa using g8
  by_cases g7 : k = 7
  case pos =>
    subst g7
    by_cases hi0 : i = 0
    case neg =>
      have HF : Hid (fitB 7 i s l = false) := by
        show fitB 7 i s l = false
        rw [fit_7, decide_eq_false hi0]; simp
      have hi0' : (i == 0) = false := by simpa using hi0
      go_enter Tryz.func41, Tryz.ntmps41
      go_wp2_with fail
      go_ret
      exact ⟨ret_bool (by first | (rw [unhide HF]; done) | (have hq := unhide HF; rw [hi0] at hq; rw [hq])), hbx _⟩
    by_cases hse : s.size = 0
    case neg =>
      have HF : Hid (fitB 7 i s l = false) := by
        show fitB 7 i s l = false
        rw [fit_7, decide_eq_true hi0, decide_eq_false hse]; simp
      have hse' := str_full hse
      go_enter Tryz.func41, Tryz.ntmps41
      go_wp2_with fail
      go_ret
      exact ⟨ret_bool (by first | (rw [unhide HF]; done) | (have hq := unhide HF; rw [hi0] at hq; rw [hq])), hbx _⟩
    have hse' := str_empty hse
    by_cases hev : l % 2 = 0
    case neg =>
      have HF : Hid (fitB 7 i s l = false) := by
        show fitB 7 i s l = false
        rw [fit_7, decide_eq_true hi0, decide_eq_true hse, decide_eq_false hev]; simp
      have hev' : ((l : Int) % 2 == 0) = false := by simp; omega
      go_enter Tryz.func41, Tryz.ntmps41
      go_wp2_with fail
      go_ret
      exact ⟨ret_bool (by first | (rw [unhide HF]; done) | (have hq := unhide HF; rw [hi0] at hq; rw [hq])), hbx _⟩
    have hev' : ((l : Int) % 2 == 0) = true := by simp; omega
    have HF : Hid (fitB 7 i s l = true) := by
      show fitB 7 i s l = true
      rw [fit_7, decide_eq_true hi0, decide_eq_true hse, decide_eq_true hev]; rfl
    go_enter Tryz.func41, Tryz.ntmps41
    go_wp2_with fail
    go_ret
    exact ⟨ret_bool (by first | (rw [unhide HF]; done) | (have hq := unhide HF; rw [hi0] at hq; rw [hq])), hbx _⟩
  have g7' : (k == 7) = false := by simpa using g7
  by_cases g9 : k = 9
  case pos =>
    subst g9
    by_cases hi0 : i = 0
    case neg =>
      have HF : Hid (fitB 9 i s l = false) := by
        show fitB 9 i s l = false
        rw [fit_9, decide_eq_false hi0]; simp
      have hi0' : (i == 0) = false := by simpa using hi0
      go_enter Tryz.func41, Tryz.ntmps41
      go_wp2_with fail
      go_ret
      exact ⟨ret_bool (by first | (rw [unhide HF]; done) | (have hq := unhide HF; rw [hi0] at hq; rw [hq])), hbx _⟩
    by_cases h4k : s.size ≤ 4000
    case neg =>
      have HF : Hid (fitB 9 i s l = false) := by
        show fitB 9 i s l = false
        rw [fit_9, decide_eq_true hi0, decide_eq_false h4k]; simp
      go_enter Tryz.func41, Tryz.ntmps41
      go_wp2_with fail
      go_ret
      exact ⟨ret_bool (by first | (rw [unhide HF]; done) | (have hq := unhide HF; rw [hi0] at hq; rw [hq])), hbx _⟩
    by_cases hle : l = 0
    case neg =>
      have HF : Hid (fitB 9 i s l = false) := by
        show fitB 9 i s l = false
        rw [fit_9, decide_eq_true hi0, decide_eq_true h4k, decide_eq_false hle]; simp
      have hle' : ((l : Int) == 0) = false := by simpa using hle
      go_enter Tryz.func41, Tryz.ntmps41
      go_wp2_with fail
      go_ret
      exact ⟨ret_bool (by first | (rw [unhide HF]; done) | (have hq := unhide HF; rw [hi0] at hq; rw [hq])), hbx _⟩
    have hle' : ((l : Int) == 0) = true := by simp [hle]
    have HF : Hid (fitB 9 i s l = true) := by
      show fitB 9 i s l = true
      rw [fit_9, decide_eq_true hi0, decide_eq_true h4k, decide_eq_true hle]; rfl
    go_enter Tryz.func41, Tryz.ntmps41
    go_wp2_with fail
    go_ret
    exact ⟨ret_bool (by first | (rw [unhide HF]; done) | (have hq := unhide HF; rw [hi0] at hq; rw [hq])), hbx _⟩
  have g9' : (k == 9) = false := by simpa using g9
  by_cases g2 : k = 2
  case pos =>
    subst g2
    by_cases hi0 : i = 0
    case neg =>
      have HF : Hid (fitB 2 i s l = false) := by
        show fitB 2 i s l = false
        rw [fit_2, decide_eq_false hi0]; simp
      have hi0' : (i == 0) = false := by simpa using hi0
      go_enter Tryz.func41, Tryz.ntmps41
      go_wp2_with fail
      go_ret
      exact ⟨ret_bool (by rw [unhide HF]), hbx _⟩
    subst hi0
    by_cases hnm : nameB s = true
    case neg =>
      have hnm' : nameB s = false := by simpa using hnm
      have HF : Hid (fitB 2 0 s l = false) := by
        show fitB 2 0 s l = false
        rw [fit_2, hnm']; simp
      clear hnm
      go_enter Tryz.func41, Tryz.ntmps41
      go_wp2_with (go_at_call 47; refine (isName_any _ _ hs).mono ?_; rintro e w' ⟨rfl, rfl⟩; rw [hnm'])
      go_ret
      exact ⟨ret_bool (by rw [unhide HF]), hbx _⟩
    by_cases hle : l = 0
    case neg =>
      have HF : Hid (fitB 2 0 s l = false) := by
        show fitB 2 0 s l = false
        rw [fit_2, decide_eq_false hle]; simp
      have hle' : ((l : Int) == 0) = false := by simpa using hle
      go_enter Tryz.func41, Tryz.ntmps41
      go_wp2_with (go_at_call 47; refine (isName_any _ _ hs).mono ?_; rintro e w' ⟨rfl, rfl⟩; rw [hnm])
      go_ret
      exact ⟨ret_bool (by rw [unhide HF]), hbx _⟩
    have HF : Hid (fitB 2 0 s l = true) := by
      show fitB 2 0 s l = true
      rw [fit_2, hnm, decide_eq_true hle]; rfl
    have hle' : ((l : Int) == 0) = true := by simp [hle]
    go_enter Tryz.func41, Tryz.ntmps41
    go_wp2_with (go_at_call 47; refine (isName_any _ _ hs).mono ?_; rintro e w' ⟨rfl, rfl⟩; rw [hnm])
    go_ret
    exact ⟨ret_bool (by rw [unhide HF]), hbx _⟩
  have g2' : (k == 2) = false := by simpa using g2
  have HF : Hid (fitB k i s l = false) := fit_else g1 g2 g3 g4 g5 g6 g7 g8 g9
  clear g1 g2 g3 g4 g5 g6 g7 g8 g9
  go_enter Tryz.func41, Tryz.ntmps41
  go_wp2_with fail
  go_ret
  exact ⟨ret_bool (by rw [unhide HF]), hbx _⟩

end Go.Proofs.YtffgdchemjmbmaaGreat
/- impl's way inward: the counter (passed), the worlds in which all but the counter's block is kept. -/
namespace Go.Proofs.YtffgdchemjmbmaaGreat
open Go.RowKit

/-- All blocks that were there are as they were, but block g. -/
structure But (g : Nat) (w w' : World) : Prop where
  os : w'.os = w.os
  tape : w'.tape = w.tape
  output : w'.output = w.output
  size : w.heap.size ≤ w'.heap.size
  block : ∀ k, k < w.heap.size → k ≠ g → w'.heap[k]? = w.heap[k]?

theorem But.refl (g : Nat) (w : World) : But g w w := ⟨rfl, rfl, rfl, Nat.le_refl _, fun _ _ _ => rfl⟩
theorem But.trans {g : Nat} {a b c : World} (h : But g a b) (k : But g b c) : But g a c :=
  ⟨k.os.trans h.os, k.tape.trans h.tape, k.output.trans h.output, Nat.le_trans h.size k.size, fun i hi hg => (k.block i (Nat.lt_of_lt_of_le hi h.size) hg).trans (h.block i hi hg)⟩
theorem But.below {g : Nat} {w w' : World} (h : Below w.heap.size w w') : But g w w' := ⟨h.os, h.tape, h.output, h.size, fun k hk _ => h.block k hk⟩
theorem But.alloc {g : Nat} {a w : World} (h : But g a w) (o : Obj) : But g a (w.alloc o) := h.trans (But.below ((Below.refl _ _).alloc (Nat.le_refl _) _))
theorem But.set {g : Nat} {a w : World} (h : But g a w) (o : Nat) (v : Value) : But g a (w.setCell ⟨g, o, none⟩ v) :=
  h.trans ⟨rfl, rfl, rfl, by simp, fun k _ hg => Below.heap_setCell _ _ _ _ hg⟩
theorem But.grown {g R : Nat} {a w w' : World} (h : But g a w) (hg : w.grownBy w' (some R)) (hR : a.heap.size ≤ R) : But g a w' :=
  ⟨hg.os.trans h.os, hg.tape.trans h.tape, hg.output.trans h.output, Nat.le_trans h.size hg.size, fun k hk hn => (hg.block k (Nat.lt_of_lt_of_le hk h.size) (by intro e; injection e with e; omega)).trans (h.block k hk hn)⟩
/-- Where block g is new, all that was there is as it was. -/
theorem But.toBelow {g : Nat} {w w' : World} (h : But g w w') {B : Nat} (hB : B ≤ g) (hs : B ≤ w.heap.size) : Below B w w' := ⟨h.os, h.tape, h.output, h.size, fun k hk => h.block k (by omega) (by omega)⟩

/-- Block g is the counter, at c. -/
def Ctr (g c : Nat) (w : World) : Prop := w.heap[g]? = some (.cells #[.int .i64 c] 63 (0, 0))
theorem Ctr.lt {g c : Nat} {w : World} (h : Ctr g c w) : g < w.heap.size := by
  rcases Nat.lt_or_ge g w.heap.size with h1 | h1
  · exact h1
  · rw [Ctr, Array.getElem?_eq_none h1] at h; cases h
theorem Ctr.cell {g c : Nat} {w : World} (h : Ctr g c w) : w.cell? ⟨g, 0, none⟩ = some (.int .i64 c) := cell_of_heap h 0
theorem Ctr.frozen {g c : Nat} {w : World} (h : Ctr g c w) : w.frozen? ⟨g, 0, none⟩ = false := frozen_of_heap h 0
theorem Ctr.set {g c : Nat} {w : World} (h : Ctr g c w) (c' : Nat) : Ctr g c' (w.setCell ⟨g, 0, none⟩ (.int .i64 c')) := by
  have := Row.setHeap h 0 (.int .i64 c')
  exact this
theorem Ctr.keep {g c : Nat} {w w' : World} (h : Ctr g c w) (hb : w'.heap[g]? = w.heap[g]?) : Ctr g c w' := hb.trans h
theorem Ctr.below {g c : Nat} {w w' : World} (h : Ctr g c w) (hb : Below w.heap.size w w') : Ctr g c w' := h.keep (hb.block g h.lt)

set_option maxHeartbeats 1000000 in
theorem passed_any (g c d : Nat) (w : World) (hc : Ctr g c w) (h1 : c ≤ 2000) (h2 : d ≤ 200) :
    Calls Tryz.prog 40 #[.pointer (some ⟨g, 0, none⟩), .int .i64 d] w
      fun e w' => e = .returned (.bool (decide (2000 < c + 1) || decide (100 < d))) ∧ w' = w.setCell ⟨g, 0, none⟩ (.int .i64 (c + 1 : Nat)) := by
  have hcell := hc.cell
  have hfr := hc.frozen
  have hcell2 := (hc.set (c + 1)).cell
  have hcast : ((c + 1 : Nat) : Int) = (c : Int) + 1 := by omega
  rw [hcast] at hcell2 ⊢
  by_cases h3 : 2000 < c + 1
  · have h3' : (2000 : Int) < (c : Int) + 1 := by omega
    go_enter Tryz.func40, Tryz.ntmps40
    go_wp2_with fail
    go_ret
    exact ⟨ret_bool (by simp; omega), rfl⟩
  · have h3' : ¬ (2000 : Int) < (c : Int) + 1 := by omega
    by_cases h4 : 100 < d
    all_goals
      go_enter Tryz.func40, Tryz.ntmps40
      go_wp2_with fail
      go_ret
      exact ⟨ret_bool (by rw [Bool.eq_iff_iff]; simp; omega), rfl⟩

theorem owns_keep {w w' : World} {base : Nat} {e : TypeId} {size R k cap : Nat} {xs : List Value} (h : w.ownsRow base e size (.slice (some ⟨R, 0, none⟩) k cap) k xs) (hb : w'.heap[R]? = w.heap[R]?) :
    w'.ownsRow base e size (.slice (some ⟨R, 0, none⟩) k cap) k xs := by
  obtain ⟨h1, h2⟩ := h
  refine ⟨h1, ?_⟩
  rcases h2 with ⟨h2, _⟩ | ⟨g, cap', cur, hv, hg, hh, r⟩
  · simp at h2
  · have : g = R := by simp at hv; exact hv.1.symm
    subst this
    exact Or.inr ⟨g, cap', cur, hv, hg, hb.trans hh, r⟩
theorem owns_lt {w : World} {base : Nat} {e : TypeId} {size R k cap : Nat} {xs : List Value} (h : w.ownsRow base e size (.slice (some ⟨R, 0, none⟩) k cap) k xs) : R < w.heap.size := by
  obtain ⟨h1, h2⟩ := h
  rcases h2 with ⟨h2, _⟩ | ⟨g, cap', cur, hv, hg, hh, r⟩
  · simp at h2
  · have : g = R := by simp at hv; exact hv.1.symm
    subst this
    rcases Nat.lt_or_ge g w.heap.size with h | h
    · exact h
    · rw [Array.getElem?_eq_none h] at hh; cases hh
theorem owns_cell {w : World} {base : Nat} {e : TypeId} {R k cap : Nat} {xs : List Value} (h : w.ownsRow base e 1 (.slice (some ⟨R, 0, none⟩) k cap) k xs) {j : Nat} (hj : j < xs.length) : w.cell? ⟨R, j, none⟩ = some xs[j] := by
  obtain ⟨h1, h2⟩ := h
  rcases h2 with ⟨h2, _⟩ | ⟨g, cap', cur, hv, hg, hh, hn, _, hcs, htk⟩
  · simp at h2
  · have hR : g = R := by simp at hv; exact hv.1.symm
    subst hR
    rw [cell_of_heap hh]
    have h3 : cur.toList[j]? = xs[j]? := by
      rw [← htk, List.getElem?_take_of_lt (by omega)]
    rw [← Array.getElem?_toList, h3, List.getElem?_eq_getElem hj]

end Go.Proofs.YtffgdchemjmbmaaGreat
