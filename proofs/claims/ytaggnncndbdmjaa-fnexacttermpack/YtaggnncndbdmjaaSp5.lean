/- spec's l01Pack, by induction on the depth; spec.TermPack. -/
import Derived.Test.YtaggnncndbdmjaaSp4
import Derived.Test.YtaggnncndbdmjaaVal2
import Derived.Test.YtaggnncndbdmjaaPkf
namespace Go.Proofs.Ytaggnncndbdmjaa
open Go.RowKit Go.Deep

theorem sp_of {n : Nat} (h : SpSaid n) : SpSaid (n + 1) := by
  rintro ⟨k, m, s, ks⟩ c0 c1 c2 c3 v N xs B w ⟨rfl, rfl, rfl, hk, hm, hs, hks⟩ hr hz hv hB hN
  obtain ⟨hf, hall⟩ := right_parts hr
  obtain ⟨hlen, hkz⟩ := siz_kid hz
  have hks' := hks
  obtain ⟨a, cap, rfl, _, _, _⟩ := hks
  have hN' : N + 10 + 10 * (s.size + (ks.length + totS ks)) ≤ 2 ^ 40 := hN
  have hNN : N + 10 + 10 * ks.length + 10 * totS ks ≤ 2 ^ 40 := by omega
  rcases fit_kinds hf with rfl | rfl | rfl | rfl | rfl | rfl | rfl | rfl | rfl
  · rw [fit_1] at hf
    simp only [Bool.and_eq_true, decide_eq_true_eq] at hf
    rw [packT_leaf hf.2 (by decide)]
    by_cases h1 : 0 ≤ m ∧ m ≤ 255
    · have e : headL 1 m s 0 true = [97, m] := if_pos h1
      rw [e]
      exact sp_int0 m s a ks.length cap v N B xs w hv hB (by omega) h1.1 h1.2
    · by_cases h2 : m < 0
      · have e : headL 1 m s 0 true = 98 :: 1 :: beL (-m) 7 := by
          show (if 0 ≤ m ∧ m ≤ 255 then [97, m] else if m < 0 then 98 :: 1 :: beL (-m) 7 else 98 :: 0 :: beL m 7) = _
          rw [if_neg h1, if_pos h2]
        rw [e]
        exact sp_int1 m s a ks.length cap v N B xs w hv hB (by omega) h2 hf.1.1.1
      · have e : headL 1 m s 0 true = 98 :: 0 :: beL m 7 := by
          show (if 0 ≤ m ∧ m ≤ 255 then [97, m] else if m < 0 then 98 :: 1 :: beL (-m) 7 else 98 :: 0 :: beL m 7) = _
          rw [if_neg h1, if_neg h2]
        rw [e]
        exact sp_int2 m s a ks.length cap v N B xs w hv hB (by omega) (by omega) hf.1.1.2
  · rw [fit_2] at hf
    simp only [Bool.and_eq_true, decide_eq_true_eq] at hf
    rw [packT_leaf hf.2 (by decide)]
    exact sp_atom m s a ks.length cap v N B xs w hv hB (by omega) (by omega)
  · rw [fit_3] at hf
    simp only [Bool.and_eq_true, decide_eq_true_eq] at hf
    rw [packT_leaf hf.2 (by decide)]
    exact sp_ref m s a ks.length cap v N B xs w hv hB (by omega) hf.1.1.1 hf.1.1.2
  · rw [fit_4] at hf
    simp only [Bool.and_eq_true, decide_eq_true_eq] at hf
    rw [packT_kids (by decide)]
    exact sp_fun h ks m s a cap v N B xs w hks' hall hkz hv hB hNN hf.1.1 hf.1.2 (by omega)
  · rw [fit_5] at hf
    simp only [Bool.and_eq_true, decide_eq_true_eq] at hf
    rw [packT_leaf hf.2 (by decide)]
    exact sp_pid m s a ks.length cap v N B xs w hv hB (by omega) hf.1.1.1 hf.1.1.2
  · rw [packT_kids (by decide)]
    by_cases h1 : ks.length ≤ 255
    · have e : headL 6 m s ks.length (ks.all (smallB n)) = [104, (ks.length : Int)] := by
        show (if ks.length ≤ 255 then [104, (ks.length : Int)] else 105 :: beL ks.length 2) = _
        rw [if_pos h1]
      rw [e]
      exact sp_tup0 h ks m s a cap v N B xs w hks' hall hkz hv hB hNN h1
    · have e : headL 6 m s ks.length (ks.all (smallB n)) = 105 :: beL ks.length 2 := by
        show (if ks.length ≤ 255 then [104, (ks.length : Int)] else 105 :: beL ks.length 2) = _
        rw [if_neg h1]
      rw [e]
      exact sp_tup1 h ks m s a cap v N B xs w hks' hall hkz hv hB hNN h1 (by omega)
  · obtain ⟨p, hp⟩ := fit_even hf
    have hp2 : ks.length / 2 = p := by omega
    rw [packT_kids (by decide)]
    have e : headL 7 m s ks.length (ks.all (smallB n)) = 116 :: beL p 2 := by
      show 116 :: beL ((ks.length / 2 : Nat) : Int) 2 = _
      rw [hp2]
    rw [e]
    exact sp_map h ks m s a cap v N B xs w hks' hall hkz hv hB hNN p hp (by omega)
  · rw [packT_list]
    by_cases h0 : ks.length = 0
    · have hk0 : ks = [] := List.eq_nil_of_length_eq_zero h0
      subst hk0
      exact sp_nil m s a 0 cap v N B xs w hv hB (by omega) rfl
    · cases hsm : ks.all (smallB n)
      · have e : lstL ks.length false ++ lstS ks = 108 :: beL ks.length 2 ++ packS ks := by
          unfold lstL lstS
          rw [if_neg h0, hsm]
          rfl
        rw [e]
        exact sp_lst1 h ks m s a cap v N B xs w hks' hall hkz hv hB hNN h0 hsm (by omega)
      · have e : lstL ks.length true ++ lstS ks = 107 :: (beL ks.length 2 ++ ks.map (numT n)) := by
          unfold lstL lstS
          rw [if_neg h0, hsm]
          rfl
        rw [e]
        exact sp_lst2 h ks m s a cap v N B xs w hks' hall hkz hv hB hNN h0 hsm (by omega)
  · rw [fit_9] at hf
    simp only [Bool.and_eq_true, decide_eq_true_eq] at hf
    rw [packT_leaf hf.2 (by decide)]
    exact sp_bin m s a ks.length cap v N B xs w hv hB (by omega) (by omega)

theorem sp_any : ∀ n, SpSaid n
  | 0 => fun t => t.elim
  | n + 1 => sp_of (sp_any n)

end Go.Proofs.Ytaggnncndbdmjaa
