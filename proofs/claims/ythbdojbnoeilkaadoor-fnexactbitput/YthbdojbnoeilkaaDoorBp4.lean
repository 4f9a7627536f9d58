/- spec.BitPut, impl.BitPut. -/
import Derived.Test.YthbdojbnoeilkaaDoorBp1
import Derived.Test.YthbdojbnoeilkaaDoorBp3
namespace Go.Proofs.YthbdojbnoeilkaaDoor
open Go.RowKit Go.Deep

/-- What BitPut answers. -/
def putAns (v n : Int) (li : Bool) : Value := match decide (0 ≤ n ∧ n ≤ 49) with
  | true => .tuple #[.agg #[.int .i64 n, .string (strB (putBits v n.toNat li))], .int .i64 0]
  | false => .tuple #[.agg #[.int .i64 0, .string ⟨#[]⟩], .int .i64 1]
theorem putAns_no {v n : Int} {li : Bool} (h : ¬ (0 ≤ n ∧ n ≤ 49)) : putAns v n li = .tuple #[.agg #[.int .i64 0, .string ⟨#[]⟩], .int .i64 1] := by unfold putAns; rw [decide_eq_false h]
theorem putAns_yes {v n : Int} {li : Bool} (h : 0 ≤ n ∧ n ≤ 49) : putAns v n li = .tuple #[.agg #[.int .i64 n, .string (strB (putBits v n.toNat li))], .int .i64 0] := by unfold putAns; rw [decide_eq_true h]

set_option maxRecDepth 100000 in
theorem sBitPut_any (v n : Int) (li : Bool) (w : World) :
    Calls Tryd.prog 17 #[.int .i64 v, .int .i64 n, .bool li] w fun e w' => e = .returned (putAns v n li) ∧ Below w.heap.size w w' := by
  have hbx := hide ((Below.refl w.heap.size w).alloc (Nat.le_refl _) (.cells #[.int .i64 0, .string ⟨#[]⟩] 26))
  by_cases h : 0 ≤ n ∧ n ≤ 49
  · have hr := hide (putAns_yes (v := v) (li := li) h)
    obtain ⟨N, rfl⟩ := Int.eq_ofNat_of_zero_le h.1
    have hN : N ≤ 49 := by omega
    clear h
    go_enter Tryd.func17, Tryd.ntmps17
    go_wp2_with fail
    refine (put_any v N li _ hN).mono ?_
    rintro e w1 ⟨u, rfl, hown, hb1⟩
    have hra := hide (RowAt.of_own (xs := putBits v N li) (by rw [putBits_length]; exact hown))
    have HB1 := hide (hb1.mono (show w.heap.size + 1 ≤ _ by simp))
    clear hown hb1
    go_wp2_with fail
    refine (pack_any u (putBits v N li) w1 (unhide hra) (putBits_01 v N li) (by rw [putBits_length]; omega)).mono ?_
    rintro e w2 ⟨rfl, hb2⟩
    have hB2 := (unhide HB1).trans (hb2.mono (by have := (unhide HB1).size; simpa using this))
    obtain ⟨q0, q1⟩ := box2 w _ _ _ hB2
    have q2 := box2f w _ _ _ hB2 0
    have q3 := box2f w _ _ _ hB2 1
    rw [putBits_length]
    obtain ⟨S, hS⟩ : ∃ S, S = strB (putBits v N li) := ⟨_, rfl⟩
    rw [← hS]
    have HS := hide hS
    have HB2 := hide hB2
    clear hb2 hB2 hS
    go_wp2_with fail
    exact bodyPost_ret (v := .tuple #[.agg #[.int .i64 N, .string S], .int .i64 0]) (by simp [results, Tryd.results17, go_sem, q0, q1]) rfl
      ⟨by rw [unhide hr, unhide HS]; rfl, (((unhide hbx).trans ((unhide HB2).mono (by omega))).setCell (Nat.le_refl _) _).setCell (Nat.le_refl _) _⟩
  · have hr := hide (putAns_no (v := v) (li := li) h)
    cases h1 : decide (n < 0)
    · have h2 : decide (49 < n) = true := by simp at h1 ⊢; omega
      clear h
      go_enter Tryd.func17, Tryd.ntmps17
      go_wp2_with fail
      obtain ⟨c0, c1⟩ := two_new w (.int .i64 0) (.string ⟨#[]⟩) 26
      exact bodyPost_ret (v := .tuple #[.agg #[.int .i64 0, .string ⟨#[]⟩], .int .i64 1]) (by simp [results, Tryd.results17, go_sem, c0, c1]) rfl ⟨by rw [unhide hr], unhide hbx⟩
    · clear h
      go_enter Tryd.func17, Tryd.ntmps17
      go_wp2_with fail
      obtain ⟨c0, c1⟩ := two_new w (.int .i64 0) (.string ⟨#[]⟩) 26
      exact bodyPost_ret (v := .tuple #[.agg #[.int .i64 0, .string ⟨#[]⟩], .int .i64 1]) (by simp [results, Tryd.results17, go_sem, c0, c1]) rfl ⟨by rw [unhide hr], unhide hbx⟩

set_option maxRecDepth 100000 in
theorem iBitPut_any (v n : Int) (li : Bool) (w : World) (hm : Masks 0 w) :
    Calls Tryd.prog 18 #[.int .i64 v, .int .i64 n, .bool li] w fun e w' => e = .returned (putAns v n li) ∧ Below w.heap.size w w' := by
  have Hm := hide hm
  obtain ⟨W0, hW0⟩ : ∃ W0, W0 = (w.alloc (.cells #[.int .i64 0, .string ⟨#[]⟩] 26)).alloc (.cells #[.int .i64 n, .bool false, .bool li] 53) := ⟨_, rfl⟩
  have hs0 : W0.heap.size = w.heap.size + 2 := by rw [hW0]; simp
  have hb0 : Below w.heap.size w W0 := by rw [hW0]; exact ((Below.refl w.heap.size w).alloc (Nat.le_refl _) _).alloc (by simp) _
  have F : ∀ w', Below W0.heap.size W0 w' → w'.cell? ⟨w.heap.size + 1, 0, none⟩ = some (.int .i64 n) ∧ w'.cell? ⟨w.heap.size + 1, 1, none⟩ = some (.bool false) ∧ w'.cell? ⟨w.heap.size + 1, 2, none⟩ = some (.bool li) := fun w' hb => by
    have h := box3 (w.alloc (.cells #[.int .i64 0, .string ⟨#[]⟩] 26)) (.int .i64 n) (.bool false) (.bool li) 53 (w' := w') (B := W0.heap.size) (by rw [hs0]; simp) (by rw [hW0] at hb ⊢; exact hb)
    simp only [World.size_alloc] at h
    exact h
  have G : ∀ w', Below W0.heap.size W0 w' → (w'.cell? ⟨w.heap.size, 0, none⟩ = some (.int .i64 0) ∧ w'.cell? ⟨w.heap.size, 1, none⟩ = some (.string ⟨#[]⟩)) ∧ ∀ o, w'.frozen? ⟨w.heap.size, o, none⟩ = false := fun w' hb => by
    have hb' : Below (w.heap.size + 1) (w.alloc (.cells #[.int .i64 0, .string ⟨#[]⟩] 26)) w' := by
      rw [hW0] at hb
      exact ((Below.refl (w.heap.size + 1) (w.alloc (.cells #[.int .i64 0, .string ⟨#[]⟩] 26))).alloc (by simp) _).trans (hb.mono (by simp))
    exact ⟨box2 w _ _ _ hb', box2f w _ _ _ hb'⟩
  have HF := hide F
  have HG := hide G
  have Hb0 := hide hb0
  have HW := hide hW0
  have hfit := hide (fits_any n false li W0)
  clear hm F G hb0
  by_cases h : 0 ≤ n ∧ n ≤ 49
  · have hr := hide (putAns_yes (v := v) (li := li) h)
    obtain ⟨N, rfl⟩ := Int.eq_ofNat_of_zero_le h.1
    have hN : N ≤ 49 := by omega
    have hd : (decide (0 ≤ (N : Int)) && decide ((N : Int) ≤ 49)) = true := by simp; omega
    rw [hd] at hfit
    clear h hd
    go_enter Tryd.func18, Tryd.ntmps18
    go_wp2_with fail
    rw [← unhide HW]
    clear hW0
    refine (unhide hfit).mono ?_
    rintro e w1 ⟨rfl, hb1⟩
    obtain ⟨f0, f1, f2⟩ := unhide HF w1 hb1
    have Hb1 := hide hb1
    clear hb1
    go_wp2_with fail
    refine (iput_any v N false li w1 ((unhide Hm).keep ((unhide Hb0).trans ((unhide Hb1).mono (unhide Hb0).size))) hN).mono ?_
    rintro e w2 ⟨rfl, hb2⟩
    have hB2 := (unhide Hb1).trans (hb2.mono (unhide Hb1).size)
    obtain ⟨⟨q0, q1⟩, q2⟩ := unhide HG w2 hB2
    have q20 := q2 0
    have q21 := q2 1
    obtain ⟨S, hS⟩ : ∃ S, S = strB (putBits v N li) := ⟨_, rfl⟩
    rw [← hS]
    have HS := hide hS
    have HB2 := hide hB2
    clear hb2 hB2 hS q2
    go_wp2_with fail
    exact bodyPost_ret (v := .tuple #[.agg #[.int .i64 N, .string S], .int .i64 0]) (by simp [results, Tryd.results18, go_sem, q0, q1]) rfl
      ⟨by rw [unhide hr, unhide HS]; rfl, (((unhide Hb0).trans ((unhide HB2).mono (unhide Hb0).size)).setCell (Nat.le_refl _) _).setCell (Nat.le_refl _) _⟩
  · have hr := hide (putAns_no (v := v) (li := li) h)
    have hd : (decide (0 ≤ n) && decide (n ≤ 49)) = false := by
      rw [← Bool.not_eq_true]; simp; omega
    rw [hd] at hfit
    clear h hd
    go_enter Tryd.func18, Tryd.ntmps18
    go_wp2_with fail
    rw [← unhide HW]
    clear hW0
    refine (unhide hfit).mono ?_
    rintro e w1 ⟨rfl, hb1⟩
    obtain ⟨⟨q0, q1⟩, q2⟩ := unhide HG w1 hb1
    have q20 := q2 0
    have q21 := q2 1
    have Hb1 := hide hb1
    clear hb1 q2
    go_wp2_with fail
    exact bodyPost_ret (v := .tuple #[.agg #[.int .i64 0, .string ⟨#[]⟩], .int .i64 1]) (by simp [results, Tryd.results18, go_sem, q0, q1]) rfl
      ⟨by rw [unhide hr], (((unhide Hb0).trans ((unhide Hb1).mono (unhide Hb0).size)).setCell (Nat.le_refl _) _).setCell (Nat.le_refl _) _⟩

end Go.Proofs.YthbdojbnoeilkaaDoor
