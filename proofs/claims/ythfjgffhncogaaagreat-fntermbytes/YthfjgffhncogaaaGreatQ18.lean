/- impl's order of values that stand for right terms is spec's of the terms. -/
import Derived.Test.YthfjgffhncogaaaGreatMeth
import Derived.Test.YthfjgffhncogaaaGreatQ13
import Derived.Test.YthfjgffhncogaaaGreatQ1
import Derived.Deep.OwnRows
import Derived.Lib.AppendStr
import Derived.Test.YthfjgffhncogaaaGreatQ2
namespace Go.Proofs.YthfjgffhncogaaaGreat
open Go.RowKit

theorem less_self : ∀ l : List UInt8, Op.bytesLess l l = false
  | [] => rfl
  | b :: l => by simp [Op.bytesLess, less_self l]
theorem ordS_self (s : ByteArray) : ordS s s = 0 := by
  unfold ordS; rw [less_self]; simp
theorem sgn_self (a : Int) : sgn a a = 0 := by unfold sgn; rw [if_neg (by omega), if_neg (by omega)]
theorem empty_eq {s s' : ByteArray} (h : s.size = 0) (h' : s'.size = 0) : s = s' := by
  cases s; cases s'
  rename_i a b
  have ha : a = #[] := Array.size_eq_zero_iff.1 h
  have hb : b = #[] := Array.size_eq_zero_iff.1 h'
  rw [ha, hb]

theorem right_parts {n : Nat} {k i : Int} {s : ByteArray} {ks : List (Tm n)} (h : rightB (n + 1) (k, i, s, ks) = true) : fitB k i s ks.length = true ∧ ks.all (rightB n) = true := by
  have : (fitB k i s ks.length && ks.all (rightB n) && (if k = 7 then risesB (cmpT n n) ks else true)) = true := h
  simp only [Bool.and_eq_true] at this
  exact this.1

theorem VAt.dyn {S : Nat → Prop} {w : World} {n : Nat} {k i : Int} {s : ByteArray} {ks : List (Tm n)} {v : Value} (h : VAt S w (n + 1) (k, i, s, ks) v) : ∃ u x, ∃ D : Dyn u k, v = .iface u x ∧ D.good x := by
  obtain ⟨_, _, h⟩ := h
  rcases h with ⟨rfl, rfl⟩ | ⟨rfl, rfl⟩ | ⟨rfl, rfl⟩ | ⟨rfl, rfl⟩ | ⟨rfl, rfl⟩ | ⟨a, cap, _, _, _, h⟩
  · exact ⟨_, _, dyn_int, rfl, trivial⟩
  · exact ⟨_, _, dyn_atom, rfl, trivial⟩
  · exact ⟨_, _, dyn_ref, rfl, trivial⟩
  · exact ⟨_, _, dyn_pid, rfl, trivial⟩
  · exact ⟨_, _, dyn_bin, rfl, trivial⟩
  · rcases h with ⟨rfl, rfl⟩ | ⟨rfl, rfl⟩ | ⟨rfl, rfl⟩ | ⟨rfl, rfl⟩
    · exact ⟨_, _, dyn_fun, rfl, _, _, rfl⟩
    · exact ⟨_, _, dyn_tup, rfl, trivial⟩
    · exact ⟨_, _, dyn_lst, rfl, trivial⟩
    · exact ⟨_, _, dyn_map, rfl, trivial⟩

theorem cmp_plain {n m : Nat} {k i i' : Int} {s s' : ByteArray} {ks : List (Tm n)} {ls : List (Tm m)} (h8 : k ≠ 8) (h7 : k ≠ 7) (hs : s = s') (h1 : ks.length = 0) (h2 : ls.length = 0) :
    cmpT (n + 1) (m + 1) (k, i, s, ks) (k, i', s', ls) = sgn i i' := by
  subst hs
  by_cases hi : i = i'
  · subst hi
    rw [cmp_rest h8 h7 (by omega), eachI_out _ _ _ _ _ _ (.inl (by omega)), sgn_self]
  · exact cmp_num hi
theorem cmp_str {n m : Nat} {k i i' : Int} {s s' : ByteArray} {ks : List (Tm n)} {ls : List (Tm m)} (h8 : k ≠ 8) (h7 : k ≠ 7) (hi : i = i') (h1 : ks.length = 0) (h2 : ls.length = 0) :
    cmpT (n + 1) (m + 1) (k, i, s, ks) (k, i', s', ls) = ordS s s' := by
  subst hi
  by_cases hs : s = s'
  · subst hs
    rw [cmp_rest h8 h7 (by omega), eachI_out _ _ _ _ _ _ (.inl (by omega)), ordS_self]
  · exact cmp_text hs
theorem cmp_cnt {n m : Nat} {k i i' : Int} {s s' : ByteArray} {ks : List (Tm n)} {ls : List (Tm m)} (h8 : k ≠ 8) (h7 : k ≠ 7) (hs : s = s') :
    cmpT (n + 1) (m + 1) (k, i, s, ks) (k, i', s', ls) = funT (cntT (eachI (cmpT n m) ks ls 1 ks.length 0) ks.length ls.length) i i' := by
  subst hs
  by_cases hi : i = i'
  · subst hi
    rw [funT_same rfl]
    by_cases hl : ks.length = ls.length
    · rw [cntT_same hl, cmp_rest h8 h7 hl]
    · rw [cntT_ne hl, cmp_len h8 hl]
  · rw [funT_ne hi, cmp_num hi]

theorem ord_of {n m : Nat} (h : OrdSaid n m) : OrdSaid (n + 1) (m + 1) := by
  have hV := cfV_of h
  have hL := cfL_of h
  have hP0 := cfP0_of h
  have hP1 := cfP1_of h
  rintro ⟨k, i, s, ks⟩ ⟨k', i', s', ls⟩ v v' w hv hv' hr hr'
  obtain ⟨hf, hall⟩ := right_parts hr
  obtain ⟨hf', hall'⟩ := right_parts hr'
  by_cases hk : k = k'
  case neg =>
    obtain ⟨u, x, D, rfl, hg⟩ := hv.dyn
    obtain ⟨u', x', D', rfl, hg'⟩ := hv'.dyn
    rw [cmp_kind hk]
    exact orderOf_ne D D' x x' w hg hg' hk
  subst hk
  obtain ⟨hi64, hss, hv⟩ := hv
  obtain ⟨hi64', hss', hv'⟩ := hv'
  rcases hv with ⟨rfl, rfl⟩ | ⟨rfl, rfl⟩ | ⟨rfl, rfl⟩ | ⟨rfl, rfl⟩ | ⟨rfl, rfl⟩ | ⟨a, cap, hK, hc1, hc2, hv⟩
  · have hv' : v' = .iface 101 (.int .i64 i') := by
      rcases hv' with h | h | h | h | h | ⟨_, _, _, _, _, h⟩
      · exact h.2
      all_goals first | exact absurd h.1 (by decide) | (rcases h with h | h | h | h <;> exact absurd h.1 (by decide))
    subst hv'
    rw [fit_1] at hf hf'
    simp only [Bool.and_eq_true, decide_eq_true_eq] at hf hf'
    rw [cmp_plain (by decide) (by decide) (empty_eq hf.1.2 hf'.1.2) hf.2 hf'.2]
    exact orderOf_eq dyn_int dyn_int _ _ w _ trivial trivial fun w1 _ => (order_int i i' w1).mono fun e w' he => ⟨he.1, he.2 ▸ Below.refl _ _⟩
  · have hv' : v' = .iface 100 (.string s') := by
      rcases hv' with h | h | h | h | h | ⟨_, _, _, _, _, h⟩
      · exact absurd h.1 (by decide)
      · exact h.2
      all_goals first | exact absurd h.1 (by decide) | (rcases h with h | h | h | h <;> exact absurd h.1 (by decide))
    subst hv'
    rw [fit_2] at hf hf'
    simp only [Bool.and_eq_true, decide_eq_true_eq] at hf hf'
    rw [cmp_str (by decide) (by decide) (hf.1.1.trans hf'.1.1.symm) hf.2 hf'.2]
    exact orderOf_eq dyn_atom dyn_atom _ _ w _ trivial trivial fun w1 _ => (order_atom s s' w1).mono fun e w' he => ⟨he.1, he.2 ▸ Below.refl _ _⟩
  · have hv' : v' = .iface 102 (.int .i64 i') := by
      rcases hv' with h | h | h | h | h | ⟨_, _, _, _, _, h⟩
      · exact absurd h.1 (by decide)
      · exact absurd h.1 (by decide)
      · exact h.2
      all_goals first | exact absurd h.1 (by decide) | (rcases h with h | h | h | h <;> exact absurd h.1 (by decide))
    subst hv'
    rw [fit_3] at hf hf'
    simp only [Bool.and_eq_true, decide_eq_true_eq] at hf hf'
    rw [cmp_plain (by decide) (by decide) (empty_eq hf.1.2 hf'.1.2) hf.2 hf'.2]
    exact orderOf_eq dyn_ref dyn_ref _ _ w _ trivial trivial fun w1 _ => (order_ref i i' w1).mono fun e w' he => ⟨he.1, he.2 ▸ Below.refl _ _⟩
  · have hv' : v' = .iface 103 (.int .i64 i') := by
      rcases hv' with h | h | h | h | h | ⟨_, _, _, _, _, h⟩
      · exact absurd h.1 (by decide)
      · exact absurd h.1 (by decide)
      · exact absurd h.1 (by decide)
      · exact h.2
      all_goals first | exact absurd h.1 (by decide) | (rcases h with h | h | h | h <;> exact absurd h.1 (by decide))
    subst hv'
    rw [fit_5] at hf hf'
    simp only [Bool.and_eq_true, decide_eq_true_eq] at hf hf'
    rw [cmp_plain (by decide) (by decide) (empty_eq hf.1.2 hf'.1.2) hf.2 hf'.2]
    exact orderOf_eq dyn_pid dyn_pid _ _ w _ trivial trivial fun w1 _ => (order_pid i i' w1).mono fun e w' he => ⟨he.1, he.2 ▸ Below.refl _ _⟩
  · have hv' : v' = .iface 116 (.string s') := by
      rcases hv' with h | h | h | h | h | ⟨_, _, _, _, _, h⟩
      · exact absurd h.1 (by decide)
      · exact absurd h.1 (by decide)
      · exact absurd h.1 (by decide)
      · exact absurd h.1 (by decide)
      · exact h.2
      all_goals first | exact absurd h.1 (by decide) | (rcases h with h | h | h | h <;> exact absurd h.1 (by decide))
    subst hv'
    rw [fit_9] at hf hf'
    simp only [Bool.and_eq_true, decide_eq_true_eq] at hf hf'
    rw [cmp_str (by decide) (by decide) (hf.1.1.trans hf'.1.1.symm) hf.2 hf'.2]
    exact orderOf_eq dyn_bin dyn_bin _ _ w _ trivial trivial fun w1 _ => (order_bin s s' w1).mono fun e w' he => ⟨he.1, he.2 ▸ Below.refl _ _⟩
  · rcases hv' with h | h | h | h | h | ⟨a', cap', hK', hc1', hc2', hv'⟩
    all_goals try (rcases hv with h4 | h4 | h4 | h4 <;> exact absurd (h4.1.symm.trans h.1) (by decide))
    have hR : Rows2 n m ks ls a a' cap cap' w := ⟨hK, hK', hc1, hc2, hc1', hc2', hall, hall'⟩
    rcases hv with ⟨rfl, rfl⟩ | ⟨rfl, rfl⟩ | ⟨rfl, rfl⟩ | ⟨rfl, rfl⟩
    · have hv' : v' = .iface 108 (.agg #[.int .i64 i', .slice a' ls.length cap']) := by
        rcases hv' with h | h | h | h
        · exact h.2
        all_goals exact absurd h.1 (by decide)
      subst hv'
      rw [fit_4] at hf hf'
      simp only [Bool.and_eq_true, decide_eq_true_eq] at hf hf'
      rw [cmp_cnt (by decide) (by decide) (empty_eq hf.2 hf'.2)]
      exact orderOf_eq dyn_fun dyn_fun _ _ w _ ⟨_, _, rfl⟩ ⟨_, _, rfl⟩ fun w1 hb => order_fun hV i i' ks ls a a' cap cap' w1 (hR.up hb)
    · have hv' : v' = .iface 111 (.slice a' ls.length cap') := by
        rcases hv' with h | h | h | h
        · exact absurd h.1 (by decide)
        · exact h.2
        all_goals exact absurd h.1 (by decide)
      subst hv'
      rw [fit_6] at hf hf'
      simp only [Bool.and_eq_true, decide_eq_true_eq] at hf hf'
      rw [cmp_cnt (by decide) (by decide) (empty_eq hf.2 hf'.2), funT_same (hf.1.trans hf'.1.symm)]
      exact orderOf_eq dyn_tup dyn_tup _ _ w _ trivial trivial fun w1 hb => order_tup hV ks ls a a' cap cap' w1 (hR.up hb)
    · have hv' : v' = .iface 115 (.slice a' ls.length cap') := by
        rcases hv' with h | h | h | h
        · exact absurd h.1 (by decide)
        · exact absurd h.1 (by decide)
        · exact h.2
        · exact absurd h.1 (by decide)
      subst hv'
      rw [fit_8] at hf hf'
      simp only [Bool.and_eq_true, decide_eq_true_eq] at hf hf'
      obtain rfl : i = i' := hf.1.trans hf'.1.symm
      obtain rfl : s = s' := empty_eq hf.2 hf'.2
      rw [cmp_list]
      exact orderOf_eq dyn_lst dyn_lst _ _ w _ trivial trivial fun w1 hb => order_lst hL ks ls a a' cap cap' w1 (hR.up hb)
    · have hv' : v' = .iface 113 (.slice a' (ls.length / 2) cap') := by
        rcases hv' with h | h | h | h
        · exact absurd h.1 (by decide)
        · exact absurd h.1 (by decide)
        · exact absurd h.1 (by decide)
        · exact h.2
      subst hv'
      rw [fit_7] at hf hf'
      simp only [Bool.and_eq_true, decide_eq_true_eq] at hf hf'
      obtain rfl : i = i' := hf.1.1.trans hf'.1.1.symm
      obtain rfl : s = s' := empty_eq hf.1.2 hf'.1.2
      have hc : cmpT (n + 1) (m + 1) (7, i, s, ks) (7, i, s, ls) = cntT (mapT (eachI (cmpT n m) ks ls 2 ks.length 0) (eachI (cmpT n m) ks ls 2 ks.length 1)) ks.length ls.length := by
        by_cases hl : ks.length = ls.length
        · rw [cntT_same hl, cmp_map hl]; rfl
        · rw [cntT_ne hl, cmp_len (by decide) hl]
      rw [hc]
      exact orderOf_eq dyn_map dyn_map _ _ w _ trivial trivial fun w1 hb => order_map hP0 hP1 ks ls a a' cap cap' w1 (hR.up hb) hf.2 hf'.2

theorem ord_any : ∀ n m, OrdSaid n m
  | 0, _ => fun t => t.elim
  | _ + 1, 0 => fun _ u => u.elim
  | n + 1, m + 1 => ord_of (ord_any n m)

end Go.Proofs.YthfjgffhncogaaaGreat
/- Plain facts: the bytes of a term. -/
namespace Go.Proofs.YthfjgffhncogaaaGreat
open Go.RowKit

/-- An Int that needs but one byte. -/
def smallB : (n : Nat) → Tm n → Bool
  | 0, t => t.elim
  | _ + 1, (k, m, _, _) => decide (k = 1) && (decide (0 ≤ m) && decide (m ≤ 255))
def numT : (n : Nat) → Tm n → Int
  | 0, t => t.elim
  | _ + 1, (_, m, _, _) => m

/-- The bytes of a term's own, ahead of its kids. -/
def headL (k m : Int) (s : ByteArray) (len : Nat) (small : Bool) : List Int :=
  if k = 1 then (if 0 ≤ m ∧ m ≤ 255 then [97, m] else if m < 0 then 98 :: 1 :: beL (-m) 7 else 98 :: 0 :: beL m 7)
  else if k = 2 then 119 :: (s.size : Int) % 256 :: txtL s
  else if k = 3 then 114 :: beL m 7
  else if k = 5 then 103 :: beL m 7
  else if k = 4 then 112 :: (beL m 7 ++ beL len 2)
  else if k = 6 then (if len ≤ 255 then [104, (len : Int)] else 105 :: beL len 2)
  else if k = 7 then 116 :: beL ((len / 2 : Nat) : Int) 2
  else if k = 9 then 109 :: (beL s.size 2 ++ txtL s)
  else if len = 0 then [106] else if small then 107 :: beL len 2 else 108 :: beL len 2

/-- The bytes of a term. -/
def packT : (n : Nat) → Tm n → List Int
  | 0, t => t.elim
  | n + 1, (k, m, s, ks) => headL k m s ks.length (ks.all (smallB n)) ++ if k = 8 ∧ ks.all (smallB n) = true then ks.map (numT n) else ks.flatMap (packT n)
def packS {n : Nat} (ks : List (Tm n)) : List Int := ks.flatMap (packT n)

theorem packS_take {n : Nat} (ks : List (Tm n)) (i : Nat) (hi : i < ks.length) : packS (ks.take (i + 1)) = packS (ks.take i) ++ packT n ks[i] := by
  unfold packS; rw [List.take_succ_eq_append_getElem hi, List.flatMap_append]; simp
theorem numS_take {n : Nat} (ks : List (Tm n)) (i : Nat) (hi : i < ks.length) : (ks.take (i + 1)).map (numT n) = (ks.take i).map (numT n) ++ [numT n ks[i]] := by
  rw [List.take_succ_eq_append_getElem hi, List.map_append]; rfl

theorem headL_length (k m : Int) (s : ByteArray) (len : Nat) (b : Bool) : (headL k m s len b).length ≤ 10 + s.size := by
  unfold headL
  repeat' split
  all_goals simp [beL_length, txtL_length]
  all_goals omega

theorem sum_le {α : Type} (f g : α → Nat) : ∀ l : List α, (∀ x ∈ l, f x ≤ g x) → (l.map f).sum ≤ (l.map g).sum
  | [], _ => Nat.le_refl _
  | x :: l, h => by
    simp only [List.map_cons, List.sum_cons]
    exact Nat.add_le_add (h x (by simp)) (sum_le f g l fun y hy => h y (by simp [hy]))
theorem sum_lin {α : Type} (f : α → Nat) : ∀ l : List α, (l.map fun x => 10 + 10 * f x).sum = 10 * l.length + 10 * (l.map f).sum
  | [] => rfl
  | x :: l => by simp only [List.map_cons, List.sum_cons, List.length_cons, sum_lin f l]; omega

theorem packT_length : ∀ (n : Nat) (t : Tm n), (packT n t).length ≤ 10 + 10 * tot n t
  | 0, t => t.elim
  | n + 1, (k, m, s, ks) => by
    have hh := headL_length k m s ks.length (ks.all (smallB n))
    have hs : (ks.flatMap (packT n)).length ≤ 10 * ks.length + 10 * (ks.map (tot n)).sum := by
      rw [List.length_flatMap, ← sum_lin]
      exact sum_le _ _ ks fun t _ => packT_length n t
    show (headL k m s ks.length (ks.all (smallB n)) ++ if k = 8 ∧ ks.all (smallB n) = true then ks.map (numT n) else ks.flatMap (packT n)).length ≤ 10 + 10 * (s.size + (ks.length + (ks.map (tot n)).sum))
    rw [List.length_append]
    split
    · rw [List.length_map]; omega
    · omega

/-- A byte's number. -/
def B8 (x : Int) : Prop := 0 ≤ x ∧ x < 256
theorem txtL_byte (s : ByteArray) : ∀ x ∈ txtL s, B8 x := by
  intro x hx
  obtain ⟨b, _, rfl⟩ := List.mem_map.1 hx
  exact ⟨by omega, by have := b.toNat_lt; omega⟩
theorem headL_byte (k m : Int) (s : ByteArray) (len : Nat) (b : Bool) : ∀ x ∈ headL k m s len b, B8 x := by
  have hb := fun n k x hx => beL_byte n k x hx
  have ht := txtL_byte s
  unfold headL B8
  unfold B8 at ht
  repeat' split
  all_goals
    intro x hx
    simp only [List.mem_cons, List.mem_append, List.not_mem_nil, or_false] at hx
  · rcases hx with rfl | rfl <;> omega
  · rcases hx with rfl | rfl | hx
    · omega
    · omega
    · exact hb _ _ _ hx
  · rcases hx with rfl | rfl | hx
    · omega
    · omega
    · exact hb _ _ _ hx
  · rcases hx with rfl | rfl | hx
    · omega
    · omega
    · exact ht _ hx
  · rcases hx with rfl | hx
    · omega
    · exact hb _ _ _ hx
  · rcases hx with rfl | hx
    · omega
    · exact hb _ _ _ hx
  · rcases hx with rfl | hx | hx
    · omega
    · exact hb _ _ _ hx
    · exact hb _ _ _ hx
  · rcases hx with rfl | rfl <;> omega
  · rcases hx with rfl | hx
    · omega
    · exact hb _ _ _ hx
  · rcases hx with rfl | hx
    · omega
    · exact hb _ _ _ hx
  · rcases hx with rfl | hx | hx
    · omega
    · exact hb _ _ _ hx
    · exact ht _ hx
  · subst hx; omega
  · rcases hx with rfl | hx
    · omega
    · exact hb _ _ _ hx
  · rcases hx with rfl | hx
    · omega
    · exact hb _ _ _ hx

theorem small_num {n : Nat} {t : Tm n} (h : smallB n t = true) : B8 (numT n t) := by
  match n, t, h with
  | n + 1, (k, m, s, ks), h =>
    have h' : (decide (k = 1) && (decide (0 ≤ m) && decide (m ≤ 255))) = true := h
    simp only [Bool.and_eq_true, decide_eq_true_eq] at h'
    show 0 ≤ m ∧ m < 256
    omega

theorem packT_byte : ∀ (n : Nat) (t : Tm n), ∀ x ∈ packT n t, B8 x
  | 0, t => t.elim
  | n + 1, (k, m, s, ks) => by
    intro x hx
    have hx' : x ∈ headL k m s ks.length (ks.all (smallB n)) ++ if k = 8 ∧ ks.all (smallB n) = true then ks.map (numT n) else ks.flatMap (packT n) := hx
    rcases List.mem_append.1 hx' with h | h
    · exact headL_byte _ _ _ _ _ x h
    · split at h
      · rename_i hc
        obtain ⟨t, ht, rfl⟩ := List.mem_map.1 h
        exact small_num (List.all_eq_true.1 hc.2 t ht)
      · obtain ⟨t, ht, hx⟩ := List.mem_flatMap.1 h
        exact packT_byte n t x hx

/-- What is packed, as the cells of a row of bytes. -/
def u8c (xs : List Int) : List Value := xs.map (Value.int .u8)
theorem u8c_append (xs ys : List Int) : u8c (xs ++ ys) = u8c xs ++ u8c ys := List.map_append
theorem u8c_length (xs : List Int) : (u8c xs).length = xs.length := List.length_map _

theorem strCells_txt (s : ByteArray) : Lib.strCells s = u8c (txtL s) := by
  unfold Lib.strCells u8c txtL; rw [List.map_map]; rfl

theorem all_take {α : Type} (f : α → Bool) (l : List α) (i : Nat) (h : i < l.length) (h1 : (l.take i).all f = true) (h2 : f l[i] = true) : (l.take (i + 1)).all f = true := by
  rw [List.take_succ_eq_append_getElem h, List.all_append, h1]; simp [h2]
theorem all_no {α : Type} (f : α → Bool) (l : List α) (i : Nat) (h : i < l.length) (h2 : f l[i] = false) : l.all f = false := by
  rw [← Bool.not_eq_true, List.all_eq_true]
  intro h1
  rw [h1 _ (List.getElem_mem h)] at h2
  cases h2

end Go.Proofs.YthfjgffhncogaaaGreat
/- impl's writer: what it holds, and what is kept beside it. -/
namespace Go.Proofs.YthfjgffhncogaaaGreat
open Go.RowKit

/-- The blocks of K are as they were; the streams too; no block has gone. -/
structure Stay (K : Nat → Prop) (w w' : World) : Prop where
  os : w'.os = w.os
  tape : w'.tape = w.tape
  output : w'.output = w.output
  size : w.heap.size ≤ w'.heap.size
  block : ∀ k, K k → w'.heap[k]? = w.heap[k]?
theorem Stay.refl (K : Nat → Prop) (w : World) : Stay K w w := ⟨rfl, rfl, rfl, Nat.le_refl _, fun _ _ => rfl⟩
theorem Stay.trans {K : Nat → Prop} {a b c : World} (h : Stay K a b) (k : Stay K b c) : Stay K a c :=
  ⟨k.os.trans h.os, k.tape.trans h.tape, k.output.trans h.output, Nat.le_trans h.size k.size, fun i hi => (k.block i hi).trans (h.block i hi)⟩
theorem Stay.mono {K K' : Nat → Prop} {w w' : World} (h : Stay K w w') (hK : ∀ k, K' k → K k) : Stay K' w w' := ⟨h.os, h.tape, h.output, h.size, fun k hk => h.block k (hK k hk)⟩
theorem Stay.drew {K : Nat → Prop} {a w : World} (h : Stay K a w) : Stay K a w.drew := ⟨h.os, h.tape, h.output, h.size, h.block⟩
theorem Stay.alloc {K : Nat → Prop} {a w : World} (h : Stay K a w) (hK : ∀ k, K k → k < w.heap.size) (o : Obj) : Stay K a (w.alloc o) :=
  h.trans ⟨rfl, rfl, rfl, by simp, fun k hk => Below.heap_alloc _ _ _ (hK k hk)⟩
theorem Stay.setCell {K : Nat → Prop} {a w : World} (h : Stay K a w) {p : Addr} (hp : ¬ K p.block) (u : Value) : Stay K a (w.setCell p u) :=
  h.trans ⟨rfl, rfl, rfl, by simp [World.setCell], fun k hk => Below.heap_setCell _ _ _ _ (fun e => hp (e ▸ hk))⟩
theorem Stay.grown {K : Nat → Prop} {a w w' : World} {row : Option Nat} (h : Stay K a w) (hg : w.grownBy w' row) (hK : ∀ k, K k → k < w.heap.size) (hr : ∀ g, row = some g → ¬ K g) : Stay K a w' :=
  h.trans ⟨hg.os, hg.tape, hg.output, hg.size, fun k hk => hg.block k (hK k hk) fun e => hr k e.symm hk⟩
theorem Stay.below {K : Nat → Prop} {w w' : World} (h : Below w.heap.size w w') (hK : ∀ k, K k → k < w.heap.size) : Stay K w w' := ⟨h.os, h.tape, h.output, h.size, fun k hk => h.block k (hK k hk)⟩
theorem Stay.toBelow {K : Nat → Prop} {B : Nat} {w w' : World} (h : Stay K w w') (hK : ∀ k, k < B → K k) : Below B w w' := ⟨h.os, h.tape, h.output, h.size, fun k hk => h.block k (hK k hk)⟩
theorem Stay.cell {K : Nat → Prop} {w w' : World} (h : Stay K w w') {k : Nat} (hk : K k) (o : Nat) : w'.cell? ⟨k, o, none⟩ = w.cell? ⟨k, o, none⟩ := World.cell?_of_block (w := w) (h.block k hk)

/-- The writer in block b: its limit, and the bytes that are there; its row lies in no block of K. -/
structure Wri (K : Nat → Prop) (b most : Nat) (xs : List Int) (w : World) : Prop where
  lt : ∀ k, K k → k < w.heap.size
  self : ¬ K b
  few : xs.length ≤ most
  row : ∃ a cap, w.heap[b]? = some (.cells #[.int .i64 most, .slice a xs.length cap] 54 (0, 0)) ∧ w.ownsRow (b + 1) 5 1 (.slice a xs.length cap) xs.length (u8c xs) ∧ ∀ g, (Value.slice a xs.length cap).ownBlock = some g → ¬ K g

theorem Wri.b_lt {K : Nat → Prop} {b most : Nat} {xs : List Int} {w : World} (h : Wri K b most xs w) : b < w.heap.size := by
  obtain ⟨a, cap, hb, _⟩ := h.row
  exact (Array.getElem?_eq_some_iff.1 hb).1
theorem Wri.mono {K K' : Nat → Prop} {b most : Nat} {xs : List Int} {w : World} (h : Wri K b most xs w) (hK : ∀ k, K' k → K k) : Wri K' b most xs w := by
  obtain ⟨a, cap, hb, ho, hs⟩ := h.row
  exact ⟨fun k hk => h.lt k (hK k hk), fun hk => h.self (hK b hk), h.few, a, cap, hb, ho, fun g hg hk => hs g hg (hK g hk)⟩
/-- Behind a step that makes new memory alone; what is new may be kept from then on. -/
theorem Wri.more {K K' : Nat → Prop} {b most : Nat} {xs : List Int} {w w' : World} (h : Wri K b most xs w) (hb : Below w.heap.size w w') (hK : ∀ k, K' k → K k ∨ (w.heap.size ≤ k ∧ k < w'.heap.size)) : Wri K' b most xs w' := by
  have hbl := h.b_lt
  obtain ⟨a, cap, hh, ho, hs⟩ := h.row
  refine ⟨fun k hk => ?_, fun hk => ?_, h.few, a, cap, (hb.block b hbl).trans hh, ?_, fun g hg hk => ?_⟩
  · rcases hK k hk with h1 | h1
    · exact Nat.lt_of_lt_of_le (h.lt k h1) hb.size
    · exact h1.2
  · rcases hK b hk with h1 | h1
    · exact h.self h1
    · omega
  · refine ⟨ho.1, ?_⟩
    rcases ho.2 with hn | ⟨g, cap', cur, hv, hbg, hg, rest⟩
    · exact .inl hn
    · exact .inr ⟨g, cap', cur, hv, hbg, (hb.block g (Array.getElem?_eq_some_iff.1 hg).1).trans hg, rest⟩
  · have hlt := (ho.lt g hg).2
    rcases hK g hk with h1 | h1
    · exact hs g hg h1
    · omega
theorem Wri.same {K : Nat → Prop} {b most : Nat} {xs : List Int} {w w' : World} (h : Wri K b most xs w) (hb : Below w.heap.size w w') : Wri K b most xs w' := h.more hb fun _ hk => .inl hk

/-- What ends a walk that writes too much. -/
def fullV : Value := .iface 50 (.agg #[.int .i64 3, .int .i64 0])
def fullE : Ending := .panicked [{ v := fullV, recovered := false }]

/-- Behind writing ys: they are there, or the walk has ended, because they are too many. -/
def WEnd (K : Nat → Prop) (b most : Nat) (xs ys : List Int) (w : World) (e : Ending) (w' : World) : Prop :=
  Stay K w w' ∧ ((xs.length + ys.length ≤ most ∧ e = .returned (.tuple #[]) ∧ Wri K b most (xs ++ ys) w') ∨ (most < xs.length + ys.length ∧ e = fullE))

end Go.Proofs.YthfjgffhncogaaaGreat
/- spec's l01Bytes. -/
namespace Go.Proofs.YthfjgffhncogaaaGreat
open Go.RowKit Go.Deep

theorem info_byte : (Tryz.prog.info? 5).map (fun i => (i.zero, i.size, i.bytes)) = some (some (.int .u8 0), 1, 1) := by kernel_rfl

theorem set_front (q : Nat) (X : List Int) (y : Int) :
    ((List.replicate (q + 1) 0 ++ X).map (Value.int .u8)).set q (.int .u8 y) = (List.replicate q 0 ++ y :: X).map (Value.int .u8) := by
  rw [List.replicate_succ', List.append_assoc, List.map_append, List.map_append]
  rw [List.set_append_right _ _ (by simp)]
  simp

set_option maxRecDepth 40000 in
theorem bytes_any (n : Int) (size : Nat) (w : World) (hn : 0 ≤ n) (hn1 : n ≤ 9223372036854775807) (hs : size ≤ 8) :
    Calls Tryz.prog 80 #[.int .i64 n, .int .i64 size] w fun e w' => e = .returned (.string (strOfNums (beL n size))) ∧ Below w.heap.size w w' := by
  have hmk := fun w : World => run_make_row' (P := Tryz.prog) 22 5 (.int .u8 0) 1 Tryz.underlying22 info_byte rfl .i64 .i64 size (by omega) (by omega) w
  have Hn1 := hide hn1
  clear hn1
  go_enter Tryz.func80, Tryz.ntmps80
  go_wp2_with fail
  go_loopw [0, 6] (fun nv iv wr => ∃ q : Nat, q ≤ size ∧ iv = .int .i64 ((q : Int) - 1) ∧ nv = .int .i64 (n / 2 ^ (8 * (size - q))) ∧ wr.ownsRow w.heap.size 5 1 (.slice (some ⟨w.heap.size, 0, none⟩) size size) size ((List.replicate q 0 ++ beL n (size - q)).map (Value.int .u8)) ∧ Below w.heap.size w wr) (fun _ iv _ => (intOf iv + 1).toNat)
  case atStart =>
    refine ⟨size, Nat.le_refl _, rfl, by simp, ?_, (Below.refl w.heap.size w).alloc (Nat.le_refl _) _⟩
    have h := World.ownsRow_lit (base := w.heap.size) (e := 5) (size := 1) w (madeCells #[.int .u8 0] size) size (Nat.le_refl _) (by unfold maxLen; omega) (by simp [size_madeCells])
    have e : (List.replicate size 0 ++ beL n (size - size)).map (Value.int .u8) = (madeCells #[Value.int .u8 0] size).toList := by
      rw [Nat.sub_self]
      apply List.ext_getElem?
      intro i
      by_cases h : i < size <;> simp [madeCells, h, Nat.mod_one, beL]
    rw [e]
    exact h
  case round =>
    obtain ⟨q, hq, rfl, rfl, hown, hb⟩ := hrel
    cases q with
    | zero =>
      have e0 : ((0 : Nat) : Int) - 1 = -1 := rfl
      rw [e0]
      rw [Nat.sub_zero] at hown ⊢
      simp only [List.replicate_zero, List.nil_append] at hown
      have hcv := run_convert_bytes_arg (P := Tryz.prog) wr 22 5 Tryz.underlying22 Tryz.underlying5 w.heap.size 0 size size (beL n size) (beL_length n size) (fun i hi => by
        rw [Nat.zero_add, hown.cellAt i (by omega), List.getElem?_map]
        have hl : i < (beL n size).length := by rw [beL_length]; exact hi
        rw [List.getElem?_eq_getElem hl, List.getD_eq_getElem?_getD, List.getElem?_eq_getElem hl]; rfl) 9 Tryz.underlying9
      obtain ⟨S, hS⟩ : ∃ S, S = strOfNums (beL n size) := ⟨_, rfl⟩
      rw [← hS] at hcv
      have HO := hide hown
      have HS := hide hS
      clear hS hown
      go_wp2_with fail
      go_ret
      exact ⟨by rw [unhide HS]; rfl, hb⟩
    | succ q =>
      have e0 : ((q + 1 : Nat) : Int) - 1 = q := by omega
      rw [e0]
      have hc : ∃ x, wr.cell? ⟨w.heap.size, q, none⟩ = some x := by
        rw [hown.cellAt q (by omega)]
        have hl : q < ((List.replicate (q + 1) 0 ++ beL n (size - (q + 1))).map (Value.int .u8)).length := by simp; omega
        exact ⟨_, List.getElem?_eq_getElem hl⟩
      obtain ⟨x, hc⟩ := hc
      have hf := hown.frozenAt q
      have hst := hide (hown.stored q (.int .u8 (n / 2 ^ (8 * (size - (q + 1))) % 256))).1
      have hcons := hide (beL_cons n (size - (q + 1)))
      have hdiv := hide (pow8_div n (size - (q + 1)))
      have hnn : 0 ≤ n / 2 ^ (8 * (size - (q + 1))) := Int.ediv_nonneg hn (Int.le_of_lt (Int.pow_pos (by decide)))
      have hnm : n / 2 ^ (8 * (size - (q + 1))) ≤ 9223372036854775807 := Int.le_trans (Int.ediv_le_self _ hn) (unhide Hn1)
      obtain ⟨r, hr⟩ : ∃ r, r = n / 2 ^ (8 * (size - (q + 1))) := ⟨_, rfl⟩
      rw [← hr] at hst hcons hdiv hnn hnm ⊢
      have HB := hide hb
      clear hown hr hb
      go_wp2_with fail
      go_roundw
      case rel =>
        have eq1 : size - q = size - (q + 1) + 1 := by omega
        refine ⟨q, by omega, by go_num, by rw [eq1, unhide hdiv], ?_, (unhide HB).setCell (Nat.le_refl _) _⟩
        rw [eq1, unhide hcons, ← set_front]
        exact unhide hst
      case measure => simp [intOf]

end Go.Proofs.YthfjgffhncogaaaGreat
