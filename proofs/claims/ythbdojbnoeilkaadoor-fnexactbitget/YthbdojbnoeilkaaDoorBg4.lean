/- spec.BitGet, impl.BitGet. -/
import Derived.Test.YthbdojbnoeilkaaDoorBg2
import Derived.Test.YthbdojbnoeilkaaDoorBg3
import Derived.Test.YthbdojbnoeilkaaDoorBik
namespace Go.Proofs.YthbdojbnoeilkaaDoor
open Go.RowKit Go.Deep

abbrev getOK (n : Int) (s : ByteArray) (f k : Int) : Prop := k ≤ 49 ∧ cutOK n s f k
/-- What BitGet answers. -/
def getAns (n : Int) (s : ByteArray) (f k : Int) (sg li : Bool) : Value := match decide (getOK n s f k) with
  | true => .tuple #[.int .i64 (signed sg k.toNat (orN (gbit s f.toNat) k.toNat li k.toNat)), .int .i64 0]
  | false => .tuple #[.int .i64 0, .int .i64 1]
theorem getAns_no {n : Int} {s : ByteArray} {f k : Int} {sg li : Bool} (h : ¬ getOK n s f k) : getAns n s f k sg li = .tuple #[.int .i64 0, .int .i64 1] := by unfold getAns; rw [decide_eq_false h]
theorem getAns_yes {n : Int} {s : ByteArray} {f k : Int} {sg li : Bool} (h : getOK n s f k) : getAns n s f k sg li = .tuple #[.int .i64 (signed sg k.toNat (orN (gbit s f.toNat) k.toNat li k.toNat)), .int .i64 0] := by unfold getAns; rw [decide_eq_true h]

theorem xbit_cut (s : ByteArray) (f k : Nat) (li : Bool) : orN (xbit (cutBits s f k)) k li k = orN (gbit s f) k li k :=
  orN_congr k li k fun j hj => by unfold xbit; rw [cutBits_getD s f k j hj]

set_option maxRecDepth 100000 in
set_option maxHeartbeats 1000000 in
theorem sBitGet_any (n : Int) (s : ByteArray) (f k : Int) (sg li : Bool) (w : World) :
    Calls Tryd.prog 19 #[.agg #[.int .i64 n, .string s], .int .i64 f, .int .i64 k, .bool sg, .bool li] w fun e w' => e = .returned (getAns n s f k sg li) ∧ Below w.heap.size w w' := by
  have hbx := hide ((Below.refl w.heap.size w).alloc (Nat.le_refl _) (.cells #[.int .i64 n, .string s] 26))
  by_cases h49 : 49 < k
  · have hr := hide (getAns_no (n := n) (s := s) (f := f) (k := k) (sg := sg) (li := li) (fun h => by have := h.1; omega))
    go_enter Tryd.func19, Tryd.ntmps19
    go_wp2_with fail
    go_ret2
    exact ⟨by rw [unhide hr]; rfl, unhide hbx⟩
  have hcut := sBitsCut_any n s f k
  by_cases hc : cutOK n s f k
  · have hr := hide (getAns_yes (n := n) (s := s) (f := f) (k := k) (sg := sg) (li := li) ⟨by omega, hc⟩)
    simp only [cutAns_yes hc] at hcut
    have Hcut := hide hcut
    obtain ⟨F, rfl⟩ := Int.eq_ofNat_of_zero_le hc.2.1
    obtain ⟨K, rfl⟩ := Int.eq_ofNat_of_zero_le hc.2.2.1
    have hK : K ≤ 49 := by omega
    clear hcut hc
    simp only [Int.toNat_natCast] at hr Hcut
    have hX := hide (xbit_cut s F K li)
    have h01 := hide (cutBits_01 s F K)
    have hl := hide (cutBits_length s F K)
    have hrow := hide (bitsOf_strB (cutBits s F K) (unhide h01))
    rw [unhide hl] at hrow
    have hsz := hide (strB_size (cutBits s F K))
    rw [unhide hl] at hsz
    obtain ⟨xs, hxs⟩ : ∃ xs, xs = cutBits s F K := ⟨_, rfl⟩
    rw [← hxs] at Hcut hX h01 hl hrow hsz
    clear hxs
    obtain ⟨S, hS⟩ : ∃ S, S = strB xs := ⟨_, rfl⟩
    rw [← hS] at Hcut hrow hsz
    clear hS
    go_enter Tryd.func19, Tryd.ntmps19
    go_wp2_with fail
    refine (unhide Hcut _).mono ?_
    rintro e w1 ⟨rfl, hb1⟩
    have hB1 := (unhide hbx).trans (hb1.mono (show w.heap.size ≤ _ by simp))
    have hbc := hB1.alloc hB1.size (.cells #[.int .i64 K, .string S] 26)
    have HB := hide hbc
    clear hb1 hB1 hbc
    go_wp2_with fail
    refine (row_any K S _ (by have := unhide hsz; omega) (by omega)).mono ?_
    rintro e w2 ⟨v, rfl, hown, hb2⟩
    rw [Int.toNat_natCast, unhide hrow] at hown
    have hra := hide (RowAt.of_own (xs := xs) (by rw [unhide hl]; exact hown))
    have HB2 := hide ((unhide HB).trans (hb2.mono (unhide HB).size))
    clear hown hb2
    cases li
    · go_wp2_with fail
      refine (getBig_any v xs K sg w2 (unhide hra) (unhide h01) (unhide hl) hK).mono ?_
      rintro e w3 ⟨rfl, hb3⟩
      rw [big_eq, unhide hX]
      obtain ⟨g, hg⟩ : ∃ g, g = signed sg K (orN (gbit s F) K false K) := ⟨_, rfl⟩
      rw [← hg] at hr ⊢
      have HB3 := hide ((unhide HB2).trans (hb3.mono (unhide HB2).size))
      clear hb3 hg
      go_wp2_with fail
      go_ret2
      exact ⟨by rw [unhide hr]; rfl, unhide HB3⟩
    · go_wp2_with fail
      refine (getLittle_any v xs K sg w2 (unhide hra) (unhide h01) (unhide hl) hK).mono ?_
      rintro e w3 ⟨rfl, hb3⟩
      rw [unhide hX]
      obtain ⟨g, hg⟩ : ∃ g, g = signed sg K (orN (gbit s F) K true K) := ⟨_, rfl⟩
      rw [← hg] at hr ⊢
      have HB3 := hide ((unhide HB2).trans (hb3.mono (unhide HB2).size))
      clear hb3 hg
      go_wp2_with fail
      go_ret2
      exact ⟨by rw [unhide hr]; rfl, unhide HB3⟩
  · have hr := hide (getAns_no (n := n) (s := s) (f := f) (k := k) (sg := sg) (li := li) (fun h => hc h.2))
    simp only [cutAns_no hc] at hcut
    have Hcut := hide hcut
    clear hcut hc
    go_enter Tryd.func19, Tryd.ntmps19
    go_wp2_with fail
    refine (unhide Hcut _).mono ?_
    rintro e w1 ⟨rfl, hb1⟩
    have hB1 := (unhide hbx).trans (hb1.mono (show w.heap.size ≤ _ by simp))
    have HB := hide (hB1.alloc hB1.size (.cells #[.int .i64 0, .string ⟨#[]⟩] 26))
    clear hb1 hB1
    go_wp2_with fail
    go_ret2
    exact ⟨by rw [unhide hr]; rfl, unhide HB⟩

set_option maxRecDepth 100000 in
set_option maxHeartbeats 1000000 in
theorem iBitGet_any (n : Int) (s : ByteArray) (f k : Int) (sg li : Bool) (w : World) (hm : Masks 0 w) (hss : s.size ≤ 1048576) (hf0 : -9223372036854775808 ≤ f) (hf1 : f ≤ 9223372036854775807) :
    Calls Tryd.prog 20 #[.agg #[.int .i64 n, .string s], .int .i64 f, .int .i64 k, .bool sg, .bool li] w fun e w' => e = .returned (getAns n s f k sg li) ∧ Below w.heap.size w w' := by
  have Hm := hide hm
  obtain ⟨W0, hW0⟩ : ∃ W0, W0 = (w.alloc (.cells #[.int .i64 n, .string s] 26)).alloc (.cells #[.int .i64 k, .bool sg, .bool li] 53) := ⟨_, rfl⟩
  have hs0 : W0.heap.size = w.heap.size + 2 := by rw [hW0]; simp
  have hb0 : Below w.heap.size w W0 := by rw [hW0]; exact ((Below.refl w.heap.size w).alloc (Nat.le_refl _) _).alloc (by simp) _
  have F : ∀ w', Below W0.heap.size W0 w' → w'.cell? ⟨w.heap.size, 0, none⟩ = some (.int .i64 n) ∧ w'.cell? ⟨w.heap.size, 1, none⟩ = some (.string s) := fun w' hb => by
    rw [hW0] at hb
    exact box2 w _ _ _ ((((Below.refl (w.heap.size + 1) (w.alloc (.cells #[.int .i64 n, .string s] 26))).alloc (by simp) _)).trans (hb.mono (by simp)))
  have G : ∀ w', Below W0.heap.size W0 w' → w'.cell? ⟨w.heap.size + 1, 0, none⟩ = some (.int .i64 k) ∧ w'.cell? ⟨w.heap.size + 1, 1, none⟩ = some (.bool sg) ∧ w'.cell? ⟨w.heap.size + 1, 2, none⟩ = some (.bool li) := fun w' hb => by
    have h := box3 (w.alloc (.cells #[.int .i64 n, .string s] 26)) (.int .i64 k) (.bool sg) (.bool li) 53 (w' := w') (B := W0.heap.size) (by rw [hs0]; simp) (by rw [hW0] at hb ⊢; exact hb)
    simp only [World.size_alloc] at h
    exact h
  have HF := hide F
  have HG := hide G
  have Hb0 := hide hb0
  have HW := hide hW0
  have hm0 := (unhide Hm).keep hb0
  have hok := hide (iOK_any n s W0 hm0 hss)
  clear hm F G hb0 hm0
  cases hS : okS n s
  · have hr := hide (getAns_no (n := n) (s := s) (f := f) (k := k) (sg := sg) (li := li) (fun h => by have := h.2.1; rw [hS] at this; cases this))
    go_enter Tryd.func20, Tryd.ntmps20
    go_wp2_with fail
    rw [← unhide HW]
    clear hW0
    refine (unhide hok).mono ?_
    rintro e w1 ⟨rfl, hb1⟩
    have hB1 := (Below.refl W0.heap.size W0).trans (hb1.mono (Below.refl W0.heap.size W0).size)
    rw [hS]
    obtain ⟨f0, f1⟩ := unhide HF w1 hB1
    obtain ⟨g0, g1, g2⟩ := unhide HG w1 hB1
    have Hb1 := hide hB1
    clear hb1 hB1
    go_wp2_with fail
    go_ret2
    exact ⟨by rw [unhide hr]; rfl, (unhide Hb0).trans ((unhide Hb1).mono (unhide Hb0).size)⟩
  obtain ⟨hl0, hl1, hl2⟩ := okS_len hS
  cases hfit : (decide (0 ≤ k) && decide (k ≤ 49))
  · have hr := hide (getAns_no (n := n) (s := s) (f := f) (k := k) (sg := sg) (li := li) (fun h => by have h1 := h.1; have h2 := h.2.2.2.1; rw [← Bool.not_eq_true] at hfit; apply hfit; simp; omega))
    go_enter Tryd.func20, Tryd.ntmps20
    go_wp2_with fail
    rw [← unhide HW]
    clear hW0
    refine (unhide hok).mono ?_
    rintro e w1 ⟨rfl, hb1⟩
    have hB1 := (Below.refl W0.heap.size W0).trans (hb1.mono (Below.refl W0.heap.size W0).size)
    rw [hS]
    obtain ⟨f0, f1⟩ := unhide HF w1 hB1
    obtain ⟨g0, g1, g2⟩ := unhide HG w1 hB1
    have Hb1 := hide hB1
    clear hb1 hB1
    go_wp2_with fail
    refine (fits_any k sg li w1).mono ?_
    rintro e w2 ⟨rfl, hb2⟩
    have hB2 := (unhide Hb1).trans (hb2.mono (unhide Hb1).size)
    rw [hfit]
    obtain ⟨f0, f1⟩ := unhide HF w2 hB2
    obtain ⟨g0, g1, g2⟩ := unhide HG w2 hB2
    have Hb2 := hide hB2
    clear hb2 hB2
    go_wp2_with fail
    go_ret2
    exact ⟨by rw [unhide hr]; rfl, (unhide Hb0).trans ((unhide Hb2).mono (unhide Hb0).size)⟩
  have hk : 0 ≤ k ∧ k ≤ 49 := by simpa using hfit
  cases hhold : holdB n f k
  · have hr := hide (getAns_no (n := n) (s := s) (f := f) (k := k) (sg := sg) (li := li) (fun h => by have h2 := h.2.2; rw [holdB_yes ⟨h2.1, h2.2.1, h2.2.2⟩] at hhold; cases hhold))
    go_enter Tryd.func20, Tryd.ntmps20
    go_wp2_with fail
    rw [← unhide HW]
    clear hW0
    refine (unhide hok).mono ?_
    rintro e w1 ⟨rfl, hb1⟩
    have hB1 := (Below.refl W0.heap.size W0).trans (hb1.mono (Below.refl W0.heap.size W0).size)
    rw [hS]
    obtain ⟨f0, f1⟩ := unhide HF w1 hB1
    obtain ⟨g0, g1, g2⟩ := unhide HG w1 hB1
    have Hb1 := hide hB1
    clear hb1 hB1
    go_wp2_with fail
    refine (fits_any k sg li w1).mono ?_
    rintro e w2 ⟨rfl, hb2⟩
    have hB2 := (unhide Hb1).trans (hb2.mono (unhide Hb1).size)
    rw [hfit]
    obtain ⟨f0, f1⟩ := unhide HF w2 hB2
    obtain ⟨g0, g1, g2⟩ := unhide HG w2 hB2
    have Hb2 := hide hB2
    clear hb2 hB2
    go_wp2_with fail
    refine (holds_any n s f k w2 hl0 hl1 hf0 hf1).mono ?_
    rintro e w3 ⟨rfl, hb3⟩
    have hB3 := (unhide Hb2).trans (hb3.mono (unhide Hb2).size)
    rw [hhold]
    obtain ⟨f0, f1⟩ := unhide HF w3 hB3
    obtain ⟨g0, g1, g2⟩ := unhide HG w3 hB3
    have Hb3 := hide hB3
    clear hb3 hB3
    go_wp2_with fail
    go_ret2
    exact ⟨by rw [unhide hr]; rfl, (unhide Hb0).trans ((unhide Hb3).mono (unhide Hb0).size)⟩
  have hh : 0 ≤ f ∧ 0 ≤ k ∧ k ≤ n - f := by unfold holdB at hhold; simpa using hhold
  have hr := hide (getAns_yes (n := n) (s := s) (f := f) (k := k) (sg := sg) (li := li) ⟨hk.2, hS, hh.1, hh.2.1, hh.2.2⟩)
  obtain ⟨N, rfl⟩ := Int.eq_ofNat_of_zero_le hl0
  obtain ⟨F, rfl⟩ := Int.eq_ofNat_of_zero_le hh.1
  obtain ⟨K, rfl⟩ := Int.eq_ofNat_of_zero_le hk.1
  simp only [Int.toNat_natCast] at hr
  have hK : K ≤ 49 := by omega
  have hFK : F + K ≤ 8 * s.size := by omega
  clear hh hk
  go_enter Tryd.func20, Tryd.ntmps20
  go_wp2_with fail
  rw [← unhide HW]
  clear hW0
  refine (unhide hok).mono ?_
  rintro e w1 ⟨rfl, hb1⟩
  have hB1 := (Below.refl W0.heap.size W0).trans (hb1.mono (Below.refl W0.heap.size W0).size)
  rw [hS]
  obtain ⟨f0, f1⟩ := unhide HF w1 hB1
  obtain ⟨g0, g1, g2⟩ := unhide HG w1 hB1
  have Hb1 := hide hB1
  clear hb1 hB1
  go_wp2_with fail
  refine (fits_any K sg li w1).mono ?_
  rintro e w2 ⟨rfl, hb2⟩
  have hB2 := (unhide Hb1).trans (hb2.mono (unhide Hb1).size)
  rw [hfit]
  obtain ⟨f0, f1⟩ := unhide HF w2 hB2
  obtain ⟨g0, g1, g2⟩ := unhide HG w2 hB2
  have Hb2 := hide hB2
  clear hb2 hB2
  go_wp2_with fail
  refine (holds_any N s F K w2 hl0 hl1 hf0 hf1).mono ?_
  rintro e w3 ⟨rfl, hb3⟩
  have hB3 := (unhide Hb2).trans (hb3.mono (unhide Hb2).size)
  rw [hhold]
  obtain ⟨f0, f1⟩ := unhide HF w3 hB3
  obtain ⟨g0, g1, g2⟩ := unhide HG w3 hB3
  have Hb3 := hide hB3
  clear hb3 hB3
  go_wp2_with fail
  refine (iget_any N s F K sg li w3 ((unhide Hm).keep ((unhide Hb0).trans ((unhide Hb3).mono (unhide Hb0).size))) hK hFK hss).mono ?_
  rintro e w4 ⟨rfl, hb4⟩
  obtain ⟨g, hg⟩ : ∃ g, g = signed sg K (orN (gbit s F) K li K) := ⟨_, rfl⟩
  rw [← hg] at hr ⊢
  have HB4 := hide ((unhide Hb0).trans (((unhide Hb3).trans (hb4.mono (unhide Hb3).size)).mono (unhide Hb0).size))
  clear hb4 hg
  go_wp2_with fail
  go_ret2
  exact ⟨by rw [unhide hr]; rfl, unhide HB4⟩

end Go.Proofs.YthbdojbnoeilkaaDoor
