/- impl's order of values that stand for right terms is spec's of the terms. -/
import Derived.Test.YthikciimaegphaaGreatDoorMeth
namespace Go.Proofs.YthikciimaegphaaGreatDoor
open Go.RowKit

theorem less_self : ∀ l : List UInt8, Op.bytesLess l l = false
  | [] => rfl
  | b :: l => by simp [Op.bytesLess, less_self l]
theorem ordS_self (s : ByteArray) : ordS s s = 0 := by
  unfold ordS; rw [less_self]; simp
theorem sgn_self (a : Int) : sgn a a = 0 := by unfold sgn; rw [if_neg (by omega), if_neg (by omega)]
theorem empty_eq {s s' : ByteArray} (h : s.size = 0) (h' : s'.size = 0) : s = s' := by
  cases s; cases s'
  rename_i a b
  have ha : a = #[] := Array.size_eq_zero_iff.1 h
  have hb : b = #[] := Array.size_eq_zero_iff.1 h'
  rw [ha, hb]

theorem right_parts {n : Nat} {k i : Int} {s : ByteArray} {ks : List (Tm n)} (h : rightB (n + 1) (k, i, s, ks) = true) : fitB k i s ks.length = true ∧ ks.all (rightB n) = true := by
  have : (fitB k i s ks.length && ks.all (rightB n) && (if k = 7 then risesB (cmpT n n) ks else true)) = true := h
  simp only [Bool.and_eq_true] at this
  exact this.1

theorem VAt.dyn {S : Nat → Prop} {w : World} {n : Nat} {k i : Int} {s : ByteArray} {ks : List (Tm n)} {v : Value} (h : VAt S w (n + 1) (k, i, s, ks) v) : ∃ u x, ∃ D : Dyn u k, v = .iface u x ∧ D.good x := by
  obtain ⟨_, _, h⟩ := h
  rcases h with ⟨rfl, rfl⟩ | ⟨rfl, rfl⟩ | ⟨rfl, rfl⟩ | ⟨rfl, rfl⟩ | ⟨rfl, rfl⟩ | ⟨a, cap, _, _, _, h⟩
  · exact ⟨_, _, dyn_int, rfl, trivial⟩
  · exact ⟨_, _, dyn_atom, rfl, trivial⟩
  · exact ⟨_, _, dyn_ref, rfl, trivial⟩
  · exact ⟨_, _, dyn_pid, rfl, trivial⟩
  · exact ⟨_, _, dyn_bin, rfl, trivial⟩
  · rcases h with ⟨rfl, rfl⟩ | ⟨rfl, rfl⟩ | ⟨rfl, rfl⟩ | ⟨rfl, rfl⟩
    · exact ⟨_, _, dyn_fun, rfl, _, _, rfl⟩
    · exact ⟨_, _, dyn_tup, rfl, trivial⟩
    · exact ⟨_, _, dyn_lst, rfl, trivial⟩
    · exact ⟨_, _, dyn_map, rfl, trivial⟩

theorem cmp_plain {n m : Nat} {k i i' : Int} {s s' : ByteArray} {ks : List (Tm n)} {ls : List (Tm m)} (h8 : k ≠ 8) (h7 : k ≠ 7) (hs : s = s') (h1 : ks.length = 0) (h2 : ls.length = 0) :
    cmpT (n + 1) (m + 1) (k, i, s, ks) (k, i', s', ls) = sgn i i' := by
  subst hs
  by_cases hi : i = i'
  · subst hi
    rw [cmp_rest h8 h7 (by omega), eachI_out _ _ _ _ _ _ (.inl (by omega)), sgn_self]
  · exact cmp_num hi
theorem cmp_str {n m : Nat} {k i i' : Int} {s s' : ByteArray} {ks : List (Tm n)} {ls : List (Tm m)} (h8 : k ≠ 8) (h7 : k ≠ 7) (hi : i = i') (h1 : ks.length = 0) (h2 : ls.length = 0) :
    cmpT (n + 1) (m + 1) (k, i, s, ks) (k, i', s', ls) = ordS s s' := by
  subst hi
  by_cases hs : s = s'
  · subst hs
    rw [cmp_rest h8 h7 (by omega), eachI_out _ _ _ _ _ _ (.inl (by omega)), ordS_self]
  · exact cmp_text hs
theorem cmp_cnt {n m : Nat} {k i i' : Int} {s s' : ByteArray} {ks : List (Tm n)} {ls : List (Tm m)} (h8 : k ≠ 8) (h7 : k ≠ 7) (hs : s = s') :
    cmpT (n + 1) (m + 1) (k, i, s, ks) (k, i', s', ls) = funT (cntT (eachI (cmpT n m) ks ls 1 ks.length 0) ks.length ls.length) i i' := by
  subst hs
  by_cases hi : i = i'
  · subst hi
    rw [funT_same rfl]
    by_cases hl : ks.length = ls.length
    · rw [cntT_same hl, cmp_rest h8 h7 hl]
    · rw [cntT_ne hl, cmp_len h8 hl]
  · rw [funT_ne hi, cmp_num hi]

theorem ord_of {n m : Nat} (h : OrdSaid n m) : OrdSaid (n + 1) (m + 1) := by
  have hV := cfV_of h
  have hL := cfL_of h
  have hP0 := cfP0_of h
  have hP1 := cfP1_of h
  rintro ⟨k, i, s, ks⟩ ⟨k', i', s', ls⟩ v v' w hv hv' hr hr'
  obtain ⟨hf, hall⟩ := right_parts hr
  obtain ⟨hf', hall'⟩ := right_parts hr'
  by_cases hk : k = k'
  case neg =>
    obtain ⟨u, x, D, rfl, hg⟩ := hv.dyn
    obtain ⟨u', x', D', rfl, hg'⟩ := hv'.dyn
    rw [cmp_kind hk]
    exact orderOf_ne D D' x x' w hg hg' hk
  subst hk
  obtain ⟨hi64, hss, hv⟩ := hv
  obtain ⟨hi64', hss', hv'⟩ := hv'
  rcases hv with ⟨rfl, rfl⟩ | ⟨rfl, rfl⟩ | ⟨rfl, rfl⟩ | ⟨rfl, rfl⟩ | ⟨rfl, rfl⟩ | ⟨a, cap, hK, hc1, hc2, hv⟩
  · have hv' : v' = .iface 124 (.int .i64 i') := by
      rcases hv' with h | h | h | h | h | ⟨_, _, _, _, _, h⟩
      · exact h.2
      all_goals first | exact absurd h.1 (by decide) | (rcases h with h | h | h | h <;> exact absurd h.1 (by decide))
    subst hv'
    rw [fit_1] at hf hf'
    simp only [Bool.and_eq_true, decide_eq_true_eq] at hf hf'
    rw [cmp_plain (by decide) (by decide) (empty_eq hf.1.2 hf'.1.2) hf.2 hf'.2]
    exact orderOf_eq dyn_int dyn_int _ _ w _ trivial trivial fun w1 _ => (order_int i i' w1).mono fun e w' he => ⟨he.1, he.2 ▸ Below.refl _ _⟩
  · have hv' : v' = .iface 125 (.string s') := by
      rcases hv' with h | h | h | h | h | ⟨_, _, _, _, _, h⟩
      · exact absurd h.1 (by decide)
      · exact h.2
      all_goals first | exact absurd h.1 (by decide) | (rcases h with h | h | h | h <;> exact absurd h.1 (by decide))
    subst hv'
    rw [fit_2] at hf hf'
    simp only [Bool.and_eq_true, decide_eq_true_eq] at hf hf'
    rw [cmp_str (by decide) (by decide) (hf.1.1.trans hf'.1.1.symm) hf.2 hf'.2]
    exact orderOf_eq dyn_atom dyn_atom _ _ w _ trivial trivial fun w1 _ => (order_atom s s' w1).mono fun e w' he => ⟨he.1, he.2 ▸ Below.refl _ _⟩
  · have hv' : v' = .iface 126 (.int .i64 i') := by
      rcases hv' with h | h | h | h | h | ⟨_, _, _, _, _, h⟩
      · exact absurd h.1 (by decide)
      · exact absurd h.1 (by decide)
      · exact h.2
      all_goals first | exact absurd h.1 (by decide) | (rcases h with h | h | h | h <;> exact absurd h.1 (by decide))
    subst hv'
    rw [fit_3] at hf hf'
    simp only [Bool.and_eq_true, decide_eq_true_eq] at hf hf'
    rw [cmp_plain (by decide) (by decide) (empty_eq hf.1.2 hf'.1.2) hf.2 hf'.2]
    exact orderOf_eq dyn_ref dyn_ref _ _ w _ trivial trivial fun w1 _ => (order_ref i i' w1).mono fun e w' he => ⟨he.1, he.2 ▸ Below.refl _ _⟩
  · have hv' : v' = .iface 131 (.int .i64 i') := by
      rcases hv' with h | h | h | h | h | ⟨_, _, _, _, _, h⟩
      · exact absurd h.1 (by decide)
      · exact absurd h.1 (by decide)
      · exact absurd h.1 (by decide)
      · exact h.2
      all_goals first | exact absurd h.1 (by decide) | (rcases h with h | h | h | h <;> exact absurd h.1 (by decide))
    subst hv'
    rw [fit_5] at hf hf'
    simp only [Bool.and_eq_true, decide_eq_true_eq] at hf hf'
    rw [cmp_plain (by decide) (by decide) (empty_eq hf.1.2 hf'.1.2) hf.2 hf'.2]
    exact orderOf_eq dyn_pid dyn_pid _ _ w _ trivial trivial fun w1 _ => (order_pid i i' w1).mono fun e w' he => ⟨he.1, he.2 ▸ Below.refl _ _⟩
  · have hv' : v' = .iface 137 (.string s') := by
      rcases hv' with h | h | h | h | h | ⟨_, _, _, _, _, h⟩
      · exact absurd h.1 (by decide)
      · exact absurd h.1 (by decide)
      · exact absurd h.1 (by decide)
      · exact absurd h.1 (by decide)
      · exact h.2
      all_goals first | exact absurd h.1 (by decide) | (rcases h with h | h | h | h <;> exact absurd h.1 (by decide))
    subst hv'
    rw [fit_9] at hf hf'
    simp only [Bool.and_eq_true, decide_eq_true_eq] at hf hf'
    rw [cmp_str (by decide) (by decide) (hf.1.1.trans hf'.1.1.symm) hf.2 hf'.2]
    exact orderOf_eq dyn_bin dyn_bin _ _ w _ trivial trivial fun w1 _ => (order_bin s s' w1).mono fun e w' he => ⟨he.1, he.2 ▸ Below.refl _ _⟩
  · rcases hv' with h | h | h | h | h | ⟨a', cap', hK', hc1', hc2', hv'⟩
    all_goals try (rcases hv with h4 | h4 | h4 | h4 <;> exact absurd (h4.1.symm.trans h.1) (by decide))
    have hR : Rows2 n m ks ls a a' cap cap' w := ⟨hK, hK', hc1, hc2, hc1', hc2', hall, hall'⟩
    rcases hv with ⟨rfl, rfl⟩ | ⟨rfl, rfl⟩ | ⟨rfl, rfl⟩ | ⟨rfl, rfl⟩
    · have hv' : v' = .iface 130 (.agg #[.int .i64 i', .slice a' ls.length cap']) := by
        rcases hv' with h | h | h | h
        · exact h.2
        all_goals exact absurd h.1 (by decide)
      subst hv'
      rw [fit_4] at hf hf'
      simp only [Bool.and_eq_true, decide_eq_true_eq] at hf hf'
      rw [cmp_cnt (by decide) (by decide) (empty_eq hf.2 hf'.2)]
      exact orderOf_eq dyn_fun dyn_fun _ _ w _ ⟨_, _, rfl⟩ ⟨_, _, rfl⟩ fun w1 hb => order_fun hV i i' ks ls a a' cap cap' w1 (hR.up hb)
    · have hv' : v' = .iface 132 (.slice a' ls.length cap') := by
        rcases hv' with h | h | h | h
        · exact absurd h.1 (by decide)
        · exact h.2
        all_goals exact absurd h.1 (by decide)
      subst hv'
      rw [fit_6] at hf hf'
      simp only [Bool.and_eq_true, decide_eq_true_eq] at hf hf'
      rw [cmp_cnt (by decide) (by decide) (empty_eq hf.2 hf'.2), funT_same (hf.1.trans hf'.1.symm)]
      exact orderOf_eq dyn_tup dyn_tup _ _ w _ trivial trivial fun w1 hb => order_tup hV ks ls a a' cap cap' w1 (hR.up hb)
    · have hv' : v' = .iface 136 (.slice a' ls.length cap') := by
        rcases hv' with h | h | h | h
        · exact absurd h.1 (by decide)
        · exact absurd h.1 (by decide)
        · exact h.2
        · exact absurd h.1 (by decide)
      subst hv'
      rw [fit_8] at hf hf'
      simp only [Bool.and_eq_true, decide_eq_true_eq] at hf hf'
      obtain rfl : i = i' := hf.1.trans hf'.1.symm
      obtain rfl : s = s' := empty_eq hf.2 hf'.2
      rw [cmp_list]
      exact orderOf_eq dyn_lst dyn_lst _ _ w _ trivial trivial fun w1 hb => order_lst hL ks ls a a' cap cap' w1 (hR.up hb)
    · have hv' : v' = .iface 134 (.slice a' (ls.length / 2) cap') := by
        rcases hv' with h | h | h | h
        · exact absurd h.1 (by decide)
        · exact absurd h.1 (by decide)
        · exact absurd h.1 (by decide)
        · exact h.2
      subst hv'
      rw [fit_7] at hf hf'
      simp only [Bool.and_eq_true, decide_eq_true_eq] at hf hf'
      obtain rfl : i = i' := hf.1.1.trans hf'.1.1.symm
      obtain rfl : s = s' := empty_eq hf.1.2 hf'.1.2
      have hc : cmpT (n + 1) (m + 1) (7, i, s, ks) (7, i, s, ls) = cntT (mapT (eachI (cmpT n m) ks ls 2 ks.length 0) (eachI (cmpT n m) ks ls 2 ks.length 1)) ks.length ls.length := by
        by_cases hl : ks.length = ls.length
        · rw [cntT_same hl, cmp_map hl]; rfl
        · rw [cntT_ne hl, cmp_len (by decide) hl]
      rw [hc]
      exact orderOf_eq dyn_map dyn_map _ _ w _ trivial trivial fun w1 hb => order_map hP0 hP1 ks ls a a' cap cap' w1 (hR.up hb) hf.2 hf'.2

theorem ord_any : ∀ n m, OrdSaid n m
  | 0, _ => fun t => t.elim
  | _ + 1, 0 => fun _ u => u.elim
  | n + 1, m + 1 => ord_of (ord_any n m)

end Go.Proofs.YthikciimaegphaaGreatDoor
