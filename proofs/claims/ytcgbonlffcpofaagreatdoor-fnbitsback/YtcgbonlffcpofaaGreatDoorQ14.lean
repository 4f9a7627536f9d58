/- impl's order of values that stand for right terms is spec's of the terms. -/
import Derived.Test.YtcgbonlffcpofaaGreatDoorMeth
namespace Go.Proofs.YtcgbonlffcpofaaGreatDoor
open Go.RowKit

theorem less_self : ∀ l : List UInt8, Op.bytesLess l l = false
  | [] => rfl
  | b :: l => by simp [Op.bytesLess, less_self l]
theorem ordS_self (s : ByteArray) : ordS s s = 0 := by
  unfold ordS; rw [less_self]; simp
theorem sgn_self (a : Int) : sgn a a = 0 := by unfold sgn; rw [if_neg (by omega), if_neg (by omega)]
theorem empty_eq {s s' : ByteArray} (h : s.size = 0) (h' : s'.size = 0) : s = s' := by
  cases s; cases s'
  rename_i a b
  have ha : a = #[] := Array.size_eq_zero_iff.1 h
  have hb : b = #[] := Array.size_eq_zero_iff.1 h'
  rw [ha, hb]

theorem right_parts {n : Nat} {k i : Int} {s : ByteArray} {ks : List (Tm n)} (h : rightB (n + 1) (k, i, s, ks) = true) : fitB k i s ks.length = true ∧ ks.all (rightB n) = true := by
  have : (fitB k i s ks.length && ks.all (rightB n) && (if k = 7 then risesB (cmpT n n) ks else true)) = true := h
  simp only [Bool.and_eq_true] at this
  exact this.1

theorem VAt.dyn {S : Nat → Prop} {w : World} {n : Nat} {k i : Int} {s : ByteArray} {ks : List (Tm n)} {v : Value} (h : VAt S w (n + 1) (k, i, s, ks) v) : ∃ u x, ∃ D : Dyn u k, v = .iface u x ∧ D.good x := by
  obtain ⟨_, _, h⟩ := h
  rcases h with ⟨rfl, rfl⟩ | ⟨rfl, rfl⟩ | ⟨rfl, rfl⟩ | ⟨rfl, rfl⟩ | ⟨rfl, rfl⟩ | ⟨a, cap, _, _, _, h⟩
  · exact ⟨_, _, dyn_int, rfl, trivial⟩
  · exact ⟨_, _, dyn_atom, rfl, trivial⟩
  · exact ⟨_, _, dyn_ref, rfl, trivial⟩
  · exact ⟨_, _, dyn_pid, rfl, trivial⟩
  · exact ⟨_, _, dyn_bin, rfl, trivial⟩
  · rcases h with ⟨rfl, rfl⟩ | ⟨rfl, rfl⟩ | ⟨rfl, rfl⟩ | ⟨rfl, rfl⟩
    · exact ⟨_, _, dyn_fun, rfl, _, _, rfl⟩
    · exact ⟨_, _, dyn_tup, rfl, trivial⟩
    · exact ⟨_, _, dyn_lst, rfl, trivial⟩
    · exact ⟨_, _, dyn_map, rfl, trivial⟩

theorem cmp_plain {n m : Nat} {k i i' : Int} {s s' : ByteArray} {ks : List (Tm n)} {ls : List (Tm m)} (h8 : k ≠ 8) (h7 : k ≠ 7) (hs : s = s') (h1 : ks.length = 0) (h2 : ls.length = 0) :
    cmpT (n + 1) (m + 1) (k, i, s, ks) (k, i', s', ls) = sgn i i' := by
  subst hs
  by_cases hi : i = i'
  · subst hi
    rw [cmp_rest h8 h7 (by omega), eachI_out _ _ _ _ _ _ (.inl (by omega)), sgn_self]
  · exact cmp_num hi
theorem cmp_str {n m : Nat} {k i i' : Int} {s s' : ByteArray} {ks : List (Tm n)} {ls : List (Tm m)} (h8 : k ≠ 8) (h7 : k ≠ 7) (hi : i = i') (h1 : ks.length = 0) (h2 : ls.length = 0) :
    cmpT (n + 1) (m + 1) (k, i, s, ks) (k, i', s', ls) = ordS s s' := by
  subst hi
  by_cases hs : s = s'
  · subst hs
    rw [cmp_rest h8 h7 (by omega), eachI_out _ _ _ _ _ _ (.inl (by omega)), ordS_self]
  · exact cmp_text hs
theorem cmp_cnt {n m : Nat} {k i i' : Int} {s s' : ByteArray} {ks : List (Tm n)} {ls : List (Tm m)} (h8 : k ≠ 8) (h7 : k ≠ 7) (hs : s = s') :
    cmpT (n + 1) (m + 1) (k, i, s, ks) (k, i', s', ls) = funT (cntT (eachI (cmpT n m) ks ls 1 ks.length 0) ks.length ls.length) i i' := by
  subst hs
  by_cases hi : i = i'
  · subst hi
    rw [funT_same rfl]
    by_cases hl : ks.length = ls.length
    · rw [cntT_same hl, cmp_rest h8 h7 hl]
    · rw [cntT_ne hl, cmp_len h8 hl]
  · rw [funT_ne hi, cmp_num hi]

theorem ord_of {n m : Nat} (h : OrdSaid n m) : OrdSaid (n + 1) (m + 1) := by
  have hV := cfV_of h
  have hL := cfL_of h
  have hP0 := cfP0_of h
  have hP1 := cfP1_of h
  rintro ⟨k, i, s, ks⟩ ⟨k', i', s', ls⟩ v v' w hv hv' hr hr'
  obtain ⟨hf, hall⟩ := right_parts hr
  obtain ⟨hf', hall'⟩ := right_parts hr'
  by_cases hk : k = k'
  case neg =>
    obtain ⟨u, x, D, rfl, hg⟩ := hv.dyn
    obtain ⟨u', x', D', rfl, hg'⟩ := hv'.dyn
    rw [cmp_kind hk]
    exact orderOf_ne D D' x x' w hg hg' hk
  subst hk
  obtain ⟨hi64, hss, hv⟩ := hv
  obtain ⟨hi64', hss', hv'⟩ := hv'
  rcases hv with ⟨rfl, rfl⟩ | ⟨rfl, rfl⟩ | ⟨rfl, rfl⟩ | ⟨rfl, rfl⟩ | ⟨rfl, rfl⟩ | ⟨a, cap, hK, hc1, hc2, hv⟩
  · have hv' : v' = .iface 104 (.int .i64 i') := by
      rcases hv' with h | h | h | h | h | ⟨_, _, _, _, _, h⟩
      · exact h.2
      all_goals first | exact absurd h.1 (by decide) | (rcases h with h | h | h | h <;> exact absurd h.1 (by decide))
    subst hv'
    rw [fit_1] at hf hf'
    simp only [Bool.and_eq_true, decide_eq_true_eq] at hf hf'
    rw [cmp_plain (by decide) (by decide) (empty_eq hf.1.2 hf'.1.2) hf.2 hf'.2]
    exact orderOf_eq dyn_int dyn_int _ _ w _ trivial trivial fun w1 _ => (order_int i i' w1).mono fun e w' he => ⟨he.1, he.2 ▸ Below.refl _ _⟩
  · have hv' : v' = .iface 105 (.string s') := by
      rcases hv' with h | h | h | h | h | ⟨_, _, _, _, _, h⟩
      · exact absurd h.1 (by decide)
      · exact h.2
      all_goals first | exact absurd h.1 (by decide) | (rcases h with h | h | h | h <;> exact absurd h.1 (by decide))
    subst hv'
    rw [fit_2] at hf hf'
    simp only [Bool.and_eq_true, decide_eq_true_eq] at hf hf'
    rw [cmp_str (by decide) (by decide) (hf.1.1.trans hf'.1.1.symm) hf.2 hf'.2]
    exact orderOf_eq dyn_atom dyn_atom _ _ w _ trivial trivial fun w1 _ => (order_atom s s' w1).mono fun e w' he => ⟨he.1, he.2 ▸ Below.refl _ _⟩
  · have hv' : v' = .iface 106 (.int .i64 i') := by
      rcases hv' with h | h | h | h | h | ⟨_, _, _, _, _, h⟩
      · exact absurd h.1 (by decide)
      · exact absurd h.1 (by decide)
      · exact h.2
      all_goals first | exact absurd h.1 (by decide) | (rcases h with h | h | h | h <;> exact absurd h.1 (by decide))
    subst hv'
    rw [fit_3] at hf hf'
    simp only [Bool.and_eq_true, decide_eq_true_eq] at hf hf'
    rw [cmp_plain (by decide) (by decide) (empty_eq hf.1.2 hf'.1.2) hf.2 hf'.2]
    exact orderOf_eq dyn_ref dyn_ref _ _ w _ trivial trivial fun w1 _ => (order_ref i i' w1).mono fun e w' he => ⟨he.1, he.2 ▸ Below.refl _ _⟩
  · have hv' : v' = .iface 111 (.int .i64 i') := by
      rcases hv' with h | h | h | h | h | ⟨_, _, _, _, _, h⟩
      · exact absurd h.1 (by decide)
      · exact absurd h.1 (by decide)
      · exact absurd h.1 (by decide)
      · exact h.2
      all_goals first | exact absurd h.1 (by decide) | (rcases h with h | h | h | h <;> exact absurd h.1 (by decide))
    subst hv'
    rw [fit_5] at hf hf'
    simp only [Bool.and_eq_true, decide_eq_true_eq] at hf hf'
    rw [cmp_plain (by decide) (by decide) (empty_eq hf.1.2 hf'.1.2) hf.2 hf'.2]
    exact orderOf_eq dyn_pid dyn_pid _ _ w _ trivial trivial fun w1 _ => (order_pid i i' w1).mono fun e w' he => ⟨he.1, he.2 ▸ Below.refl _ _⟩
  · have hv' : v' = .iface 117 (.string s') := by
      rcases hv' with h | h | h | h | h | ⟨_, _, _, _, _, h⟩
      · exact absurd h.1 (by decide)
      · exact absurd h.1 (by decide)
      · exact absurd h.1 (by decide)
      · exact absurd h.1 (by decide)
      · exact h.2
      all_goals first | exact absurd h.1 (by decide) | (rcases h with h | h | h | h <;> exact absurd h.1 (by decide))
    subst hv'
    rw [fit_9] at hf hf'
    simp only [Bool.and_eq_true, decide_eq_true_eq] at hf hf'
    rw [cmp_str (by decide) (by decide) (hf.1.1.trans hf'.1.1.symm) hf.2 hf'.2]
    exact orderOf_eq dyn_bin dyn_bin _ _ w _ trivial trivial fun w1 _ => (order_bin s s' w1).mono fun e w' he => ⟨he.1, he.2 ▸ Below.refl _ _⟩
  · rcases hv' with h | h | h | h | h | ⟨a', cap', hK', hc1', hc2', hv'⟩
    all_goals try (rcases hv with h4 | h4 | h4 | h4 <;> exact absurd (h4.1.symm.trans h.1) (by decide))
    have hR : Rows2 n m ks ls a a' cap cap' w := ⟨hK, hK', hc1, hc2, hc1', hc2', hall, hall'⟩
    rcases hv with ⟨rfl, rfl⟩ | ⟨rfl, rfl⟩ | ⟨rfl, rfl⟩ | ⟨rfl, rfl⟩
    · have hv' : v' = .iface 110 (.agg #[.int .i64 i', .slice a' ls.length cap']) := by
        rcases hv' with h | h | h | h
        · exact h.2
        all_goals exact absurd h.1 (by decide)
      subst hv'
      rw [fit_4] at hf hf'
      simp only [Bool.and_eq_true, decide_eq_true_eq] at hf hf'
      rw [cmp_cnt (by decide) (by decide) (empty_eq hf.2 hf'.2)]
      exact orderOf_eq dyn_fun dyn_fun _ _ w _ ⟨_, _, rfl⟩ ⟨_, _, rfl⟩ fun w1 hb => order_fun hV i i' ks ls a a' cap cap' w1 (hR.up hb)
    · have hv' : v' = .iface 112 (.slice a' ls.length cap') := by
        rcases hv' with h | h | h | h
        · exact absurd h.1 (by decide)
        · exact h.2
        all_goals exact absurd h.1 (by decide)
      subst hv'
      rw [fit_6] at hf hf'
      simp only [Bool.and_eq_true, decide_eq_true_eq] at hf hf'
      rw [cmp_cnt (by decide) (by decide) (empty_eq hf.2 hf'.2), funT_same (hf.1.trans hf'.1.symm)]
      exact orderOf_eq dyn_tup dyn_tup _ _ w _ trivial trivial fun w1 hb => order_tup hV ks ls a a' cap cap' w1 (hR.up hb)
    · have hv' : v' = .iface 116 (.slice a' ls.length cap') := by
        rcases hv' with h | h | h | h
        · exact absurd h.1 (by decide)
        · exact absurd h.1 (by decide)
        · exact h.2
        · exact absurd h.1 (by decide)
      subst hv'
      rw [fit_8] at hf hf'
      simp only [Bool.and_eq_true, decide_eq_true_eq] at hf hf'
      obtain rfl : i = i' := hf.1.trans hf'.1.symm
      obtain rfl : s = s' := empty_eq hf.2 hf'.2
      rw [cmp_list]
      exact orderOf_eq dyn_lst dyn_lst _ _ w _ trivial trivial fun w1 hb => order_lst hL ks ls a a' cap cap' w1 (hR.up hb)
    · have hv' : v' = .iface 114 (.slice a' (ls.length / 2) cap') := by
        rcases hv' with h | h | h | h
        · exact absurd h.1 (by decide)
        · exact absurd h.1 (by decide)
        · exact absurd h.1 (by decide)
        · exact h.2
      subst hv'
      rw [fit_7] at hf hf'
      simp only [Bool.and_eq_true, decide_eq_true_eq] at hf hf'
      obtain rfl : i = i' := hf.1.1.trans hf'.1.1.symm
      obtain rfl : s = s' := empty_eq hf.1.2 hf'.1.2
      have hc : cmpT (n + 1) (m + 1) (7, i, s, ks) (7, i, s, ls) = cntT (mapT (eachI (cmpT n m) ks ls 2 ks.length 0) (eachI (cmpT n m) ks ls 2 ks.length 1)) ks.length ls.length := by
        by_cases hl : ks.length = ls.length
        · rw [cntT_same hl, cmp_map hl]; rfl
        · rw [cntT_ne hl, cmp_len (by decide) hl]
      rw [hc]
      exact orderOf_eq dyn_map dyn_map _ _ w _ trivial trivial fun w1 hb => order_map hP0 hP1 ks ls a a' cap cap' w1 (hR.up hb) hf.2 hf'.2

theorem ord_any : ∀ n m, OrdSaid n m
  | 0, _ => fun t => t.elim
  | _ + 1, 0 => fun _ u => u.elim
  | n + 1, m + 1 => ord_of (ord_any n m)

end Go.Proofs.YtcgbonlffcpofaaGreatDoor
/- impl's looks at one term's own fields: isName, fieldsFit; the counter. -/
namespace Go.Proofs.YtcgbonlffcpofaaGreatDoor
open Go.RowKit

set_option maxHeartbeats 400000 in
theorem ilower_any (b : Int) (w : World) : Calls Tryz.prog 76 #[.int .u8 b] w fun e w' => e = .returned (.bool (lowB b)) ∧ w' = w := by
  by_cases h1 : 97 ≤ b
  · by_cases h2 : b ≤ 122
    all_goals
      go_enter Tryz.func76, Tryz.ntmps76
      go_wp2
      go_ret
      exact ⟨ret_bool (by simp only [lowB]; simp; omega), rfl⟩
  · go_enter Tryz.func76, Tryz.ntmps76
    go_wp2
    go_ret
    exact ⟨ret_bool (by simp only [lowB]; simp; omega), rfl⟩

set_option maxHeartbeats 400000 in
theorem idigit_any (b : Int) (w : World) : Calls Tryz.prog 79 #[.int .u8 b] w fun e w' => e = .returned (.bool (digB b)) ∧ w' = w := by
  by_cases h1 : 48 ≤ b
  · by_cases h2 : b ≤ 57
    all_goals
      go_enter Tryz.func79, Tryz.ntmps79
      go_wp2
      go_ret
      exact ⟨ret_bool (by simp only [digB]; simp; omega), rfl⟩
  · go_enter Tryz.func79, Tryz.ntmps79
    go_wp2
    go_ret
    exact ⟨ret_bool (by simp only [digB]; simp; omega), rfl⟩

/-- A byte that may stand in a name, as a number. -/
def nbI (b : Int) : Bool := letB b || digB b
theorem nbI_true {b : Int} : nbI b = true ↔ (97 ≤ b ∧ b ≤ 122) ∨ (65 ≤ b ∧ b ≤ 90) ∨ b = 95 ∨ (48 ≤ b ∧ b ≤ 57) := by
  unfold nbI; rw [Bool.or_eq_true, letB_true, digB_true]; omega

set_option maxHeartbeats 1000000 in
theorem nameByte_any (b : Int) (w : World) : Calls Tryz.prog 77 #[.int .u8 b] w fun e w' => e = .returned (.bool (nbI b)) ∧ w' = w := by
  by_cases h1 : lowB b = true
  · have h2 := lowB_true.1 h1
    go_enter Tryz.func77, Tryz.ntmps77
    go_wp2_with (go_at_call 76; refine (ilower_any _ _).mono ?_; rintro e w' ⟨rfl, rfl⟩; rw [h1])
    go_ret
    exact ⟨ret_bool (nbI_true.2 (by omega)).symm, rfl⟩
  · have h2 : ¬ (97 ≤ b ∧ b ≤ 122) := fun h => h1 (lowB_true.2 h)
    have h1 : lowB b = false := by simpa using h1
    by_cases h5 : digB b = true
    · have h6 := digB_true.1 h5
      have hn : ¬ 65 ≤ b := by omega
      go_enter Tryz.func77, Tryz.ntmps77
      go_wp2_with (first | (go_at_call 76; refine (ilower_any _ _).mono ?_; rintro e w' ⟨rfl, rfl⟩; rw [h1]) | (go_at_call 79; refine (idigit_any _ _).mono ?_; rintro e w' ⟨rfl, rfl⟩; rw [h5]))
      go_ret
      exact ⟨ret_bool (nbI_true.2 (by omega)).symm, rfl⟩
    · have h6 : ¬ (48 ≤ b ∧ b ≤ 57) := fun h => h5 (digB_true.2 h)
      have h5 : digB b = false := by simpa using h5
      have H26 := hide (And.intro h2 h6)
      clear h2 h6
      by_cases h3 : 65 ≤ b
      · by_cases h4 : b ≤ 90
        · go_enter Tryz.func77, Tryz.ntmps77
          go_wp2_with (first | (go_at_call 76; refine (ilower_any _ _).mono ?_; rintro e w' ⟨rfl, rfl⟩; rw [h1]) | (go_at_call 79; refine (idigit_any _ _).mono ?_; rintro e w' ⟨rfl, rfl⟩; rw [h5]))
          go_ret
          exact ⟨ret_bool (nbI_true.2 (by omega)).symm, rfl⟩
        · go_enter Tryz.func77, Tryz.ntmps77
          go_wp2_with (first | (go_at_call 76; refine (ilower_any _ _).mono ?_; rintro e w' ⟨rfl, rfl⟩; rw [h1]) | (go_at_call 79; refine (idigit_any _ _).mono ?_; rintro e w' ⟨rfl, rfl⟩; rw [h5]))
          go_ret
          exact ⟨ret_bool (by obtain ⟨g1, g2⟩ := unhide H26; rw [Bool.eq_iff_iff, nbI_true]; simp; omega), rfl⟩
      · go_enter Tryz.func77, Tryz.ntmps77
        go_wp2_with (first | (go_at_call 76; refine (ilower_any _ _).mono ?_; rintro e w' ⟨rfl, rfl⟩; rw [h1]) | (go_at_call 79; refine (idigit_any _ _).mono ?_; rintro e w' ⟨rfl, rfl⟩; rw [h5]))
        go_ret
        exact ⟨ret_bool (by obtain ⟨g1, g2⟩ := unhide H26; rw [Bool.eq_iff_iff, nbI_true]; simp; omega), rfl⟩

set_option maxHeartbeats 1000000 in
theorem isName_any (s : ByteArray) (w : World) (hs : s.size ≤ 2 ^ 47) : Calls Tryz.prog 73 #[.string s] w fun e w' => e = .returned (.bool (nameB s)) ∧ w' = w := by
  by_cases h1 : s.size = 0
  · have hz : Hid (nameB s = false) := by show nameB s = false; unfold nameB; rw [decide_eq_false (by omega)]; rfl
    go_enter Tryz.func73, Tryz.ntmps73
    go_wp2_with fail
    go_ret
    exact ⟨ret_bool (unhide hz).symm, rfl⟩
  · have h1' : ((s.size : Int) == 0) = false := by simpa using h1
    have hpos : 0 < s.size := by omega
    clear h1
    by_cases h2 : s.size ≤ 30
    case neg =>
      have hz : Hid (nameB s = false) := by show nameB s = false; unfold nameB; rw [decide_eq_false h2, Bool.and_false]; rfl
      go_enter Tryz.func73, Tryz.ntmps73
      go_wp2_with fail
      go_ret
      exact ⟨ret_bool (unhide hz).symm, rfl⟩
    by_cases h3 : lowB s[0].toNat = true
    case neg =>
      have h3' : lowB s[0].toNat = false := by simpa using h3
      have hz : Hid (nameB s = false) := by show nameB s = false; unfold nameB; rw [first_of hpos, h3', Bool.and_false]
      clear h3
      go_enter Tryz.func73, Tryz.ntmps73
      go_wp2_with (go_at_call 76; refine (ilower_any _ _).mono ?_; rintro e w' ⟨rfl, rfl⟩; rw [h3'])
      go_ret
      exact ⟨ret_bool (unhide hz).symm, rfl⟩
    have hnm : Hid (nameB s = s.data.toList.all nbB) := by
      show nameB s = _
      unfold nameB; rw [first_of hpos, h3, decide_eq_true hpos, decide_eq_true h2]; simp
    go_enter Tryz.func73, Tryz.ntmps73
    go_wp2_with (go_at_call 76; refine (ilower_any _ _).mono ?_; rintro e w' ⟨rfl, rfl⟩; rw [h3])
    go_loop [20] (fun i => ∃ k : Nat, k ≤ s.size ∧ i = .int .i64 k ∧ ∀ j (h : j < s.size), j < k → nbB s[j] = true) (fun i => s.size - (intOf i).toNat)
    case atStart => exact ⟨0, Nat.zero_le _, rfl, fun j _ h => absurd h (by omega)⟩
    case round =>
      obtain ⟨k, hk, rfl, hall⟩ := hrel
      have HALL := hide hall
      clear hall
      by_cases hlt : k < s.size
      · have hnb : nbB s[k] = nbI s[k].toNat := rfl
        by_cases g1 : nbI s[k].toNat = true
        · have HN := hide (hnb.trans g1)
          clear hnb
          go_wp2_with (go_at_call 77; refine (nameByte_any _ _).mono ?_; rintro e w' ⟨rfl, rfl⟩; rw [g1])
          go_round
          case rel => exact ⟨k + 1, hlt, by go_num, fun j hj hjk => if h : j = k then by subst h; exact unhide HN else unhide HALL j hj (by omega)⟩
          case measure => simp [intOf]; omega
        · have g1' : nbI s[k].toNat = false := by simpa using g1
          have HN := hide (hnb.trans g1')
          clear hnb g1
          go_wp2_with (go_at_call 77; refine (nameByte_any _ _).mono ?_; rintro e w' ⟨rfl, rfl⟩; rw [g1'])
          go_ret
          refine ⟨ret_bool ?_, rfl⟩
          have : s.data.toList.all nbB = false := by
            rw [← Bool.not_eq_true, all_of]; intro h; have := h k hlt; rw [unhide HN] at this; cases this
          rw [unhide hnm, this]
      · have hks : k = s.size := by omega
        subst hks
        go_wp2_with fail
        go_ret
        exact ⟨ret_bool (by rw [unhide hnm, all_of.2 fun j h => unhide HALL j h h]), rfl⟩

/-- fieldsFit looks as fitB says. -/
def FitsSaid : Prop := ∀ (k i : Int) (s : ByteArray) (a : Option Addr) (l cap : Nat) (w : World), s.size ≤ 2 ^ 47 → l ≤ cap → l ≤ 2 ^ 47 →
  Calls Tryz.prog 70 #[.agg #[.int .i64 k, .int .i64 i, .string s, .slice a l cap]] w fun e w' => e = .returned (.bool (fitB k i s l)) ∧ Below w.heap.size w w'

theorem str_empty {s : ByteArray} (h : s.size = 0) : s.toList.isEmpty = true := by
  have h1 : s.data = #[] := Array.size_eq_zero_iff.1 h
  rw [ByteArray.toList_eq, h1]; rfl
theorem str_full {s : ByteArray} (h : s.size ≠ 0) : s.toList.isEmpty = false := by
  rw [ByteArray.toList_eq, ← Bool.not_eq_true, List.isEmpty_iff]
  intro h'
  have h2 : s.data.toList.length = 0 := by rw [h']; rfl
  exact h h2

set_option maxRecDepth 100000 in
set_option maxHeartbeats 4000000 in
theorem fieldsFit_any : FitsSaid := by
  intro k i s a l cap w hs hl hc
  have hbx := fun x : Obj => (Below.refl w.heap.size w).alloc (Nat.le_refl _) x
  by_cases g1 : k = 1
  case pos =>
    subst g1
    by_cases hlo : (-1000000000000000 : Int) ≤ i
    case neg =>
      have HF : Hid (fitB 1 i s l = false) := by
        show fitB 1 i s l = false
        rw [fit_1, decide_eq_false hlo]; simp
      go_enter Tryz.func70, Tryz.ntmps70
      go_wp2_with fail
      go_ret
      exact ⟨ret_bool (by first | (rw [unhide HF]; done) | (have hq := unhide HF; rw [hi0] at hq; rw [hq])), hbx _⟩
    by_cases hhi : i ≤ 1000000000000000
    case neg =>
      have HF : Hid (fitB 1 i s l = false) := by
        show fitB 1 i s l = false
        rw [fit_1, decide_eq_true hlo, decide_eq_false hhi]; simp
      go_enter Tryz.func70, Tryz.ntmps70
      go_wp2_with fail
      go_ret
      exact ⟨ret_bool (by first | (rw [unhide HF]; done) | (have hq := unhide HF; rw [hi0] at hq; rw [hq])), hbx _⟩
    by_cases hse : s.size = 0
    case neg =>
      have HF : Hid (fitB 1 i s l = false) := by
        show fitB 1 i s l = false
        rw [fit_1, decide_eq_true hlo, decide_eq_true hhi, decide_eq_false hse]; simp
      have hse' := str_full hse
      go_enter Tryz.func70, Tryz.ntmps70
      go_wp2_with fail
      go_ret
      exact ⟨ret_bool (by first | (rw [unhide HF]; done) | (have hq := unhide HF; rw [hi0] at hq; rw [hq])), hbx _⟩
    have hse' := str_empty hse
    by_cases hle : l = 0
    case neg =>
      have HF : Hid (fitB 1 i s l = false) := by
        show fitB 1 i s l = false
        rw [fit_1, decide_eq_true hlo, decide_eq_true hhi, decide_eq_true hse, decide_eq_false hle]; simp
      have hle' : ((l : Int) == 0) = false := by simpa using hle
      go_enter Tryz.func70, Tryz.ntmps70
      go_wp2_with fail
      go_ret
      exact ⟨ret_bool (by first | (rw [unhide HF]; done) | (have hq := unhide HF; rw [hi0] at hq; rw [hq])), hbx _⟩
    have hle' : ((l : Int) == 0) = true := by simp [hle]
    have HF : Hid (fitB 1 i s l = true) := by
      show fitB 1 i s l = true
      rw [fit_1, decide_eq_true hlo, decide_eq_true hhi, decide_eq_true hse, decide_eq_true hle]; rfl
    go_enter Tryz.func70, Tryz.ntmps70
    go_wp2_with fail
    go_ret
    exact ⟨ret_bool (by first | (rw [unhide HF]; done) | (have hq := unhide HF; rw [hi0] at hq; rw [hq])), hbx _⟩
  have g1' : (k == 1) = false := by simpa using g1
  by_cases g3 : k = 3
  case pos =>
    subst g3
    by_cases hlo : (0 : Int) ≤ i
    case neg =>
      have HF : Hid (fitB 3 i s l = false) := by
        show fitB 3 i s l = false
        rw [fit_3, decide_eq_false hlo]; simp
      go_enter Tryz.func70, Tryz.ntmps70
      go_wp2_with fail
      go_ret
      exact ⟨ret_bool (by first | (rw [unhide HF]; done) | (have hq := unhide HF; rw [hi0] at hq; rw [hq])), hbx _⟩
    by_cases hhi : i ≤ 1000000000000000
    case neg =>
      have HF : Hid (fitB 3 i s l = false) := by
        show fitB 3 i s l = false
        rw [fit_3, decide_eq_true hlo, decide_eq_false hhi]; simp
      go_enter Tryz.func70, Tryz.ntmps70
      go_wp2_with fail
      go_ret
      exact ⟨ret_bool (by first | (rw [unhide HF]; done) | (have hq := unhide HF; rw [hi0] at hq; rw [hq])), hbx _⟩
    by_cases hse : s.size = 0
    case neg =>
      have HF : Hid (fitB 3 i s l = false) := by
        show fitB 3 i s l = false
        rw [fit_3, decide_eq_true hlo, decide_eq_true hhi, decide_eq_false hse]; simp
      have hse' := str_full hse
      go_enter Tryz.func70, Tryz.ntmps70
      go_wp2_with fail
      go_ret
      exact ⟨ret_bool (by first | (rw [unhide HF]; done) | (have hq := unhide HF; rw [hi0] at hq; rw [hq])), hbx _⟩
    have hse' := str_empty hse
    by_cases hle : l = 0
    case neg =>
      have HF : Hid (fitB 3 i s l = false) := by
        show fitB 3 i s l = false
        rw [fit_3, decide_eq_true hlo, decide_eq_true hhi, decide_eq_true hse, decide_eq_false hle]; simp
      have hle' : ((l : Int) == 0) = false := by simpa using hle
      go_enter Tryz.func70, Tryz.ntmps70
      go_wp2_with fail
      go_ret
      exact ⟨ret_bool (by first | (rw [unhide HF]; done) | (have hq := unhide HF; rw [hi0] at hq; rw [hq])), hbx _⟩
    have hle' : ((l : Int) == 0) = true := by simp [hle]
    have HF : Hid (fitB 3 i s l = true) := by
      show fitB 3 i s l = true
      rw [fit_3, decide_eq_true hlo, decide_eq_true hhi, decide_eq_true hse, decide_eq_true hle]; rfl
    go_enter Tryz.func70, Tryz.ntmps70
    go_wp2_with fail
    go_ret
    exact ⟨ret_bool (by first | (rw [unhide HF]; done) | (have hq := unhide HF; rw [hi0] at hq; rw [hq])), hbx _⟩
  have g3' : (k == 3) = false := by simpa using g3
  by_cases g5 : k = 5
  case pos =>
    subst g5
    by_cases hlo : (0 : Int) ≤ i
    case neg =>
      have HF : Hid (fitB 5 i s l = false) := by
        show fitB 5 i s l = false
        rw [fit_5, decide_eq_false hlo]; simp
      go_enter Tryz.func70, Tryz.ntmps70
      go_wp2_with fail
      go_ret
      exact ⟨ret_bool (by first | (rw [unhide HF]; done) | (have hq := unhide HF; rw [hi0] at hq; rw [hq])), hbx _⟩
    by_cases hhi : i ≤ 1000000000000000
    case neg =>
      have HF : Hid (fitB 5 i s l = false) := by
        show fitB 5 i s l = false
        rw [fit_5, decide_eq_true hlo, decide_eq_false hhi]; simp
      go_enter Tryz.func70, Tryz.ntmps70
      go_wp2_with fail
      go_ret
      exact ⟨ret_bool (by first | (rw [unhide HF]; done) | (have hq := unhide HF; rw [hi0] at hq; rw [hq])), hbx _⟩
    by_cases hse : s.size = 0
    case neg =>
      have HF : Hid (fitB 5 i s l = false) := by
        show fitB 5 i s l = false
        rw [fit_5, decide_eq_true hlo, decide_eq_true hhi, decide_eq_false hse]; simp
      have hse' := str_full hse
      go_enter Tryz.func70, Tryz.ntmps70
      go_wp2_with fail
      go_ret
      exact ⟨ret_bool (by first | (rw [unhide HF]; done) | (have hq := unhide HF; rw [hi0] at hq; rw [hq])), hbx _⟩
    have hse' := str_empty hse
    by_cases hle : l = 0
    case neg =>
      have HF : Hid (fitB 5 i s l = false) := by
        show fitB 5 i s l = false
        rw [fit_5, decide_eq_true hlo, decide_eq_true hhi, decide_eq_true hse, decide_eq_false hle]; simp
      have hle' : ((l : Int) == 0) = false := by simpa using hle
      go_enter Tryz.func70, Tryz.ntmps70
      go_wp2_with fail
      go_ret
      exact ⟨ret_bool (by first | (rw [unhide HF]; done) | (have hq := unhide HF; rw [hi0] at hq; rw [hq])), hbx _⟩
    have hle' : ((l : Int) == 0) = true := by simp [hle]
    have HF : Hid (fitB 5 i s l = true) := by
      show fitB 5 i s l = true
      rw [fit_5, decide_eq_true hlo, decide_eq_true hhi, decide_eq_true hse, decide_eq_true hle]; rfl
    go_enter Tryz.func70, Tryz.ntmps70
    go_wp2_with fail
    go_ret
    exact ⟨ret_bool (by first | (rw [unhide HF]; done) | (have hq := unhide HF; rw [hi0] at hq; rw [hq])), hbx _⟩
  have g5' : (k == 5) = false := by simpa using g5
  by_cases g4 : k = 4
  case pos =>
    subst g4
    by_cases hlo : (0 : Int) ≤ i
    case neg =>
      have HF : Hid (fitB 4 i s l = false) := by
        show fitB 4 i s l = false
        rw [fit_4, decide_eq_false hlo]; simp
      go_enter Tryz.func70, Tryz.ntmps70
      go_wp2_with fail
      go_ret
      exact ⟨ret_bool (by first | (rw [unhide HF]; done) | (have hq := unhide HF; rw [hi0] at hq; rw [hq])), hbx _⟩
    by_cases hhi : i ≤ 1000000000000000
    case neg =>
      have HF : Hid (fitB 4 i s l = false) := by
        show fitB 4 i s l = false
        rw [fit_4, decide_eq_true hlo, decide_eq_false hhi]; simp
      go_enter Tryz.func70, Tryz.ntmps70
      go_wp2_with fail
      go_ret
      exact ⟨ret_bool (by first | (rw [unhide HF]; done) | (have hq := unhide HF; rw [hi0] at hq; rw [hq])), hbx _⟩
    by_cases hse : s.size = 0
    case neg =>
      have HF : Hid (fitB 4 i s l = false) := by
        show fitB 4 i s l = false
        rw [fit_4, decide_eq_true hlo, decide_eq_true hhi, decide_eq_false hse]; simp
      have hse' := str_full hse
      go_enter Tryz.func70, Tryz.ntmps70
      go_wp2_with fail
      go_ret
      exact ⟨ret_bool (by first | (rw [unhide HF]; done) | (have hq := unhide HF; rw [hi0] at hq; rw [hq])), hbx _⟩
    have hse' := str_empty hse
    have HF : Hid (fitB 4 i s l = true) := by
      show fitB 4 i s l = true
      rw [fit_4, decide_eq_true hlo, decide_eq_true hhi, decide_eq_true hse]; rfl
    go_enter Tryz.func70, Tryz.ntmps70
    go_wp2_with fail
    go_ret
    exact ⟨ret_bool (by first | (rw [unhide HF]; done) | (have hq := unhide HF; rw [hi0] at hq; rw [hq])), hbx _⟩
  have g4' : (k == 4) = false := by simpa using g4
  by_cases g6 : k = 6
  case pos =>
    subst g6
    by_cases hi0 : i = 0
    case neg =>
      have HF : Hid (fitB 6 i s l = false) := by
        show fitB 6 i s l = false
        rw [fit_6, decide_eq_false hi0]; simp
      have hi0' : (i == 0) = false := by simpa using hi0
      go_enter Tryz.func70, Tryz.ntmps70
      go_wp2_with fail
      go_ret
      exact ⟨ret_bool (by first | (rw [unhide HF]; done) | (have hq := unhide HF; rw [hi0] at hq; rw [hq])), hbx _⟩
    by_cases hse : s.size = 0
    case neg =>
      have HF : Hid (fitB 6 i s l = false) := by
        show fitB 6 i s l = false
        rw [fit_6, decide_eq_true hi0, decide_eq_false hse]; simp
      have hse' := str_full hse
      go_enter Tryz.func70, Tryz.ntmps70
      go_wp2_with fail
      go_ret
      exact ⟨ret_bool (by first | (rw [unhide HF]; done) | (have hq := unhide HF; rw [hi0] at hq; rw [hq])), hbx _⟩
    have hse' := str_empty hse
    have HF : Hid (fitB 6 i s l = true) := by
      show fitB 6 i s l = true
      rw [fit_6, decide_eq_true hi0, decide_eq_true hse]; rfl
    go_enter Tryz.func70, Tryz.ntmps70
    go_wp2_with fail
    go_ret
    exact ⟨ret_bool (by first | (rw [unhide HF]; done) | (have hq := unhide HF; rw [hi0] at hq; rw [hq])), hbx _⟩
  have g6' : (k == 6) = false := by simpa using g6
  by_cases g8 : k = 8
  case pos =>
    subst g8
    by_cases hi0 : i = 0
    case neg =>
      have HF : Hid (fitB 8 i s l = false) := by
        show fitB 8 i s l = false
        rw [fit_8, decide_eq_false hi0]; simp
      have hi0' : (i == 0) = false := by simpa using hi0
      go_enter Tryz.func70, Tryz.ntmps70
      go_wp2_with fail
      go_ret
      exact ⟨ret_bool (by first | (rw [unhide HF]; done) | (have hq := unhide HF; rw [hi0] at hq; rw [hq])), hbx _⟩
    by_cases hse : s.size = 0
    case neg =>
      have HF : Hid (fitB 8 i s l = false) := by
        show fitB 8 i s l = false
        rw [fit_8, decide_eq_true hi0, decide_eq_false hse]; simp
      have hse' := str_full hse
      go_enter Tryz.func70, Tryz.ntmps70
      go_wp2_with fail
      go_ret
      exact ⟨ret_bool (by first | (rw [unhide HF]; done) | (have hq := unhide HF; rw [hi0] at hq; rw [hq])), hbx _⟩
    have hse' := str_empty hse
    have HF : Hid (fitB 8 i s l = true) := by
      show fitB 8 i s l = true
      rw [fit_8, decide_eq_true hi0, decide_eq_true hse]; rfl
    go_enter Tryz.func70, Tryz.ntmps70
    go_wp2_with fail
    go_ret
    exact ⟨ret_bool (by first | (rw [unhide HF]; done) | (have hq := unhide HF; rw [hi0] at hq; rw [hq])), hbx _⟩
  have g8' : (k == 8) = false := by simpa using g8
  by_cases g7 : k = 7
  case pos =>
    subst g7
    by_cases hi0 : i = 0
    case neg =>
      have HF : Hid (fitB 7 i s l = false) := by
        show fitB 7 i s l = false
        rw [fit_7, decide_eq_false hi0]; simp
      have hi0' : (i == 0) = false := by simpa using hi0
      go_enter Tryz.func70, Tryz.ntmps70
      go_wp2_with fail
      go_ret
      exact ⟨ret_bool (by first | (rw [unhide HF]; done) | (have hq := unhide HF; rw [hi0] at hq; rw [hq])), hbx _⟩
    by_cases hse : s.size = 0
    case neg =>
      have HF : Hid (fitB 7 i s l = false) := by
        show fitB 7 i s l = false
        rw [fit_7, decide_eq_true hi0, decide_eq_false hse]; simp
      have hse' := str_full hse
      go_enter Tryz.func70, Tryz.ntmps70
      go_wp2_with fail
      go_ret
      exact ⟨ret_bool (by first | (rw [unhide HF]; done) | (have hq := unhide HF; rw [hi0] at hq; rw [hq])), hbx _⟩
    have hse' := str_empty hse
    by_cases hev : l % 2 = 0
    case neg =>
      have HF : Hid (fitB 7 i s l = false) := by
        show fitB 7 i s l = false
        rw [fit_7, decide_eq_true hi0, decide_eq_true hse, decide_eq_false hev]; simp
      have hev' : ((l : Int) % 2 == 0) = false := by simp; omega
      go_enter Tryz.func70, Tryz.ntmps70
      go_wp2_with fail
      go_ret
      exact ⟨ret_bool (by first | (rw [unhide HF]; done) | (have hq := unhide HF; rw [hi0] at hq; rw [hq])), hbx _⟩
    have hev' : ((l : Int) % 2 == 0) = true := by simp; omega
    have HF : Hid (fitB 7 i s l = true) := by
      show fitB 7 i s l = true
      rw [fit_7, decide_eq_true hi0, decide_eq_true hse, decide_eq_true hev]; rfl
    go_enter Tryz.func70, Tryz.ntmps70
    go_wp2_with fail
    go_ret
    exact ⟨ret_bool (by first | (rw [unhide HF]; done) | (have hq := unhide HF; rw [hi0] at hq; rw [hq])), hbx _⟩
  have g7' : (k == 7) = false := by simpa using g7
  by_cases g9 : k = 9
  case pos =>
    subst g9
    by_cases hi0 : i = 0
    case neg =>
      have HF : Hid (fitB 9 i s l = false) := by
        show fitB 9 i s l = false
        rw [fit_9, decide_eq_false hi0]; simp
      have hi0' : (i == 0) = false := by simpa using hi0
      go_enter Tryz.func70, Tryz.ntmps70
      go_wp2_with fail
      go_ret
      exact ⟨ret_bool (by first | (rw [unhide HF]; done) | (have hq := unhide HF; rw [hi0] at hq; rw [hq])), hbx _⟩
    by_cases h4k : s.size ≤ 4000
    case neg =>
      have HF : Hid (fitB 9 i s l = false) := by
        show fitB 9 i s l = false
        rw [fit_9, decide_eq_true hi0, decide_eq_false h4k]; simp
      go_enter Tryz.func70, Tryz.ntmps70
      go_wp2_with fail
      go_ret
      exact ⟨ret_bool (by first | (rw [unhide HF]; done) | (have hq := unhide HF; rw [hi0] at hq; rw [hq])), hbx _⟩
    by_cases hle : l = 0
    case neg =>
      have HF : Hid (fitB 9 i s l = false) := by
        show fitB 9 i s l = false
        rw [fit_9, decide_eq_true hi0, decide_eq_true h4k, decide_eq_false hle]; simp
      have hle' : ((l : Int) == 0) = false := by simpa using hle
      go_enter Tryz.func70, Tryz.ntmps70
      go_wp2_with fail
      go_ret
      exact ⟨ret_bool (by first | (rw [unhide HF]; done) | (have hq := unhide HF; rw [hi0] at hq; rw [hq])), hbx _⟩
    have hle' : ((l : Int) == 0) = true := by simp [hle]
    have HF : Hid (fitB 9 i s l = true) := by
      show fitB 9 i s l = true
      rw [fit_9, decide_eq_true hi0, decide_eq_true h4k, decide_eq_true hle]; rfl
    go_enter Tryz.func70, Tryz.ntmps70
    go_wp2_with fail
    go_ret
    exact ⟨ret_bool (by first | (rw [unhide HF]; done) | (have hq := unhide HF; rw [hi0] at hq; rw [hq])), hbx _⟩
  have g9' : (k == 9) = false := by simpa using g9
  by_cases g2 : k = 2
  case pos =>
    subst g2
    by_cases hi0 : i = 0
    case neg =>
      have HF : Hid (fitB 2 i s l = false) := by
        show fitB 2 i s l = false
        rw [fit_2, decide_eq_false hi0]; simp
      have hi0' : (i == 0) = false := by simpa using hi0
      go_enter Tryz.func70, Tryz.ntmps70
      go_wp2_with fail
      go_ret
      exact ⟨ret_bool (by rw [unhide HF]), hbx _⟩
    subst hi0
    by_cases hnm : nameB s = true
    case neg =>
      have hnm' : nameB s = false := by simpa using hnm
      have HF : Hid (fitB 2 0 s l = false) := by
        show fitB 2 0 s l = false
        rw [fit_2, hnm']; simp
      clear hnm
      go_enter Tryz.func70, Tryz.ntmps70
      go_wp2_with (go_at_call 73; refine (isName_any _ _ hs).mono ?_; rintro e w' ⟨rfl, rfl⟩; rw [hnm'])
      go_ret
      exact ⟨ret_bool (by rw [unhide HF]), hbx _⟩
    by_cases hle : l = 0
    case neg =>
      have HF : Hid (fitB 2 0 s l = false) := by
        show fitB 2 0 s l = false
        rw [fit_2, decide_eq_false hle]; simp
      have hle' : ((l : Int) == 0) = false := by simpa using hle
      go_enter Tryz.func70, Tryz.ntmps70
      go_wp2_with (go_at_call 73; refine (isName_any _ _ hs).mono ?_; rintro e w' ⟨rfl, rfl⟩; rw [hnm])
      go_ret
      exact ⟨ret_bool (by rw [unhide HF]), hbx _⟩
    have HF : Hid (fitB 2 0 s l = true) := by
      show fitB 2 0 s l = true
      rw [fit_2, hnm, decide_eq_true hle]; rfl
    have hle' : ((l : Int) == 0) = true := by simp [hle]
    go_enter Tryz.func70, Tryz.ntmps70
    go_wp2_with (go_at_call 73; refine (isName_any _ _ hs).mono ?_; rintro e w' ⟨rfl, rfl⟩; rw [hnm])
    go_ret
    exact ⟨ret_bool (by rw [unhide HF]), hbx _⟩
  have g2' : (k == 2) = false := by simpa using g2
  have HF : Hid (fitB k i s l = false) := fit_else g1 g2 g3 g4 g5 g6 g7 g8 g9
  clear g1 g2 g3 g4 g5 g6 g7 g8 g9
  go_enter Tryz.func70, Tryz.ntmps70
  go_wp2_with fail
  go_ret
  exact ⟨ret_bool (by rw [unhide HF]), hbx _⟩

end Go.Proofs.YtcgbonlffcpofaaGreatDoor
