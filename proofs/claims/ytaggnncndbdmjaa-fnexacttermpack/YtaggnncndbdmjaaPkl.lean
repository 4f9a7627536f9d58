/- impl's pack of the kinds without kids. -/
import Derived.Test.YtaggnncndbdmjaaWr2
namespace Go.Proofs.Ytaggnncndbdmjaa
open Go.RowKit Go.Deep

theorem WEnd.go {K : Nat → Prop} {b most : Nat} {xs ys zs us : List Int} {w w1 : World} {e : Ending} {w' : World} (h : WEnd K b most (xs ++ ys) zs w1 e w') (hs : Stay K w w1) (hu : us = ys ++ zs) : WEnd K b most xs us w e w' := by
  subst hu
  obtain ⟨h1, h2⟩ := h
  refine ⟨hs.trans h1, ?_⟩
  rw [List.length_append] at h2 ⊢
  rcases h2 with ⟨a, b, c⟩ | ⟨a, b⟩
  · exact .inl ⟨by omega, b, by rw [← List.append_assoc]; exact c⟩
  · exact .inr ⟨by omega, b⟩
theorem WEnd.stop {K : Nat → Prop} {b most : Nat} {xs ys zs us : List Int} {w w' : World} (hs : Stay K w w') (hl : most < xs.length + ys.length) (hu : us = ys ++ zs) : WEnd K b most xs us w fullE w' := by
  subst hu
  refine ⟨hs, .inr ⟨by rw [List.length_append]; omega, rfl⟩⟩
theorem WEnd.done {K : Nat → Prop} {b most : Nat} {xs ys : List Int} {w w' : World} (hs : Stay K w w') (hw : Wri K b most (xs ++ ys) w') : WEnd K b most xs ys w (.returned (.tuple #[])) w' :=
  ⟨hs, .inl ⟨by have := hw.few; rwa [List.length_append] at this, rfl, hw⟩⟩

set_option maxRecDepth 40000 in
set_option maxHeartbeats 400000 in
theorem isByte_any (m : Int) (w : World) : Calls Try.prog 62 #[.int .i64 m] w fun e w' => e = .returned (.bool (decide (0 ≤ m) && decide (m ≤ 255))) ∧ w' = w := by
  by_cases h1 : 0 ≤ m
  all_goals
    go_enter Try.func62, Try.ntmps62
    go_wp2_with fail
    go_ret
    refine ⟨ret_bool ?_, rfl⟩
    simp [h1]
    try omega

section
variable (K : Nat → Prop) (b most : Nat) (xs : List Int) (w : World)

set_option maxRecDepth 40000 in
set_option maxHeartbeats 1000000 in
theorem pack_ref (m : Int) (hW : Wri K b most xs w) (hmost : most ≤ 2 ^ 40) :
    Calls Try.prog 78 #[.int .i64 m, .pointer (some ⟨b, 0, none⟩)] w fun e w' => WEnd K b most xs (114 :: beL m 7) w e w' := by
  have h1 := hide (lit_any K b most xs [114] 1 5 w hW rfl (by simp [B8]) hmost (by omega))
  clear hW
  go_enter Try.func78, Try.ntmps78
  go_wp2_with fail
  refine (unhide h1).mono ?_
  rintro e w1 ⟨s1, ⟨l1, rfl, hw1⟩ | ⟨l1, rfl⟩⟩
  rotate_left
  · exact ⟨rfl, WEnd.stop s1 l1 rfl⟩
  have h2 := hide (number_any K b most _ m 7 w1 hw1 hmost (by omega))
  have S1 := hide s1
  clear hw1 s1 l1
  go_wp2_with fail
  refine (unhide h2).mono ?_
  rintro e w2 hend
  have hend' := hend.go (unhide S1) (us := 114 :: beL m 7) rfl
  obtain ⟨s2, ⟨l2, rfl, hw2⟩ | ⟨l2, rfl⟩⟩ := hend
  rotate_left
  · exact ⟨rfl, hend'⟩
  have HE := hide hend'
  clear hend' s2 hw2 l2
  go_wp2_with fail
  exact bodyPost_ret (v := .tuple #[]) (by simp [results, Try.results78, go_sem]) rfl (unhide HE)

set_option maxRecDepth 40000 in
set_option maxHeartbeats 1000000 in
theorem pack_pid (m : Int) (hW : Wri K b most xs w) (hmost : most ≤ 2 ^ 40) :
    Calls Try.prog 91 #[.int .i64 m, .pointer (some ⟨b, 0, none⟩)] w fun e w' => WEnd K b most xs (103 :: beL m 7) w e w' := by
  have h1 := hide (lit_any K b most xs [103] 1 5 w hW rfl (by simp [B8]) hmost (by omega))
  clear hW
  go_enter Try.func91, Try.ntmps91
  go_wp2_with fail
  refine (unhide h1).mono ?_
  rintro e w1 ⟨s1, ⟨l1, rfl, hw1⟩ | ⟨l1, rfl⟩⟩
  rotate_left
  · exact ⟨rfl, WEnd.stop s1 l1 rfl⟩
  have h2 := hide (number_any K b most _ m 7 w1 hw1 hmost (by omega))
  have S1 := hide s1
  clear hw1 s1 l1
  go_wp2_with fail
  refine (unhide h2).mono ?_
  rintro e w2 hend
  have hend' := hend.go (unhide S1) (us := 103 :: beL m 7) rfl
  obtain ⟨s2, ⟨l2, rfl, hw2⟩ | ⟨l2, rfl⟩⟩ := hend
  rotate_left
  · exact ⟨rfl, hend'⟩
  have HE := hide hend'
  clear hend' s2 hw2 l2
  go_wp2_with fail
  exact bodyPost_ret (v := .tuple #[]) (by simp [results, Try.results91, go_sem]) rfl (unhide HE)

set_option maxRecDepth 40000 in
set_option maxHeartbeats 1000000 in
theorem pack_atom (s : ByteArray) (hW : Wri K b most xs w) (hmost : most ≤ 2 ^ 40) (hs : s.size ≤ 2 ^ 47) :
    Calls Try.prog 72 #[.string s, .pointer (some ⟨b, 0, none⟩)] w fun e w' => WEnd K b most xs (119 :: (s.size : Int) % 256 :: txtL s) w e w' := by
  have h1 := hide (lit_any K b most xs [119, (s.size : Int) % 256] 2 5 w hW rfl (by simp [B8]; omega) hmost (by omega))
  clear hW
  go_enter Try.func72, Try.ntmps72
  go_wp2_with fail
  refine (unhide h1).mono ?_
  rintro e w1 ⟨s1, ⟨l1, rfl, hw1⟩ | ⟨l1, rfl⟩⟩
  rotate_left
  · exact ⟨rfl, WEnd.stop s1 l1 rfl⟩
  have h2 := hide (write_one K b most _ s 9 w1 hw1 hmost hs)
  have S1 := hide s1
  clear hw1 s1 l1
  go_wp2_with fail
  refine (unhide h2).mono ?_
  rintro e w2 hend
  have hend' := hend.go (unhide S1) (us := 119 :: (s.size : Int) % 256 :: txtL s) rfl
  obtain ⟨s2, ⟨l2, rfl, hw2⟩ | ⟨l2, rfl⟩⟩ := hend
  rotate_left
  · exact ⟨rfl, hend'⟩
  have HE := hide hend'
  clear hend' s2 hw2 l2
  go_wp2_with fail
  exact bodyPost_ret (v := .tuple #[]) (by simp [results, Try.results72, go_sem]) rfl (unhide HE)

set_option maxRecDepth 40000 in
set_option maxHeartbeats 1000000 in
theorem pack_bin (s : ByteArray) (hW : Wri K b most xs w) (hmost : most ≤ 2 ^ 40) (hs : s.size ≤ 2 ^ 47) :
    Calls Try.prog 115 #[.string s, .pointer (some ⟨b, 0, none⟩)] w fun e w' => WEnd K b most xs (109 :: (beL s.size 2 ++ txtL s)) w e w' := by
  have h1 := hide (lit_any K b most xs [109] 1 5 w hW rfl (by simp [B8]) hmost (by omega))
  clear hW
  go_enter Try.func115, Try.ntmps115
  go_wp2_with fail
  refine (unhide h1).mono ?_
  rintro e w1 ⟨s1, ⟨l1, rfl, hw1⟩ | ⟨l1, rfl⟩⟩
  rotate_left
  · exact ⟨rfl, WEnd.stop s1 l1 rfl⟩
  have h2 := hide (number_any K b most _ s.size 2 w1 hw1 hmost (by omega))
  have S1 := hide s1
  clear hw1 s1 l1
  go_wp2_with fail
  refine (unhide h2).mono ?_
  rintro e w2 hend
  have hend' := hend.go (unhide S1) (us := 109 :: beL s.size 2) rfl
  obtain ⟨s2, ⟨l2, rfl, hw2⟩ | ⟨l2, rfl⟩⟩ := hend'
  rotate_left
  · exact ⟨rfl, WEnd.stop s2 l2 (zs := txtL s) (by simp)⟩
  clear hend
  have h3 := hide (write_one K b most _ s 9 w2 hw2 hmost hs)
  have S2 := hide s2
  clear hw2 s2 l2
  go_wp2_with fail
  refine (unhide h3).mono ?_
  rintro e w3 hend
  have hend' := hend.go (unhide S2) (us := 109 :: (beL s.size 2 ++ txtL s)) (by simp)
  obtain ⟨s3, ⟨l3, rfl, hw3⟩ | ⟨l3, rfl⟩⟩ := hend
  rotate_left
  · exact ⟨rfl, hend'⟩
  have HE := hide hend'
  clear hend' s3 hw3 l3
  go_wp2_with fail
  exact bodyPost_ret (v := .tuple #[]) (by simp [results, Try.results115, go_sem]) rfl (unhide HE)

/-- The bytes of an Int. -/
def intL (m : Int) : List Int := if 0 ≤ m ∧ m ≤ 255 then [97, m] else if m < 0 then 98 :: 1 :: beL (-m) 7 else 98 :: 0 :: beL m 7

set_option maxRecDepth 40000 in
set_option maxHeartbeats 1000000 in
theorem pack_int (m : Int) (hW : Wri K b most xs w) (hmost : most ≤ 2 ^ 40) (hm0 : -1000000000000000 ≤ m) (hm1 : m ≤ 1000000000000000) :
    Calls Try.prog 65 #[.int .i64 m, .pointer (some ⟨b, 0, none⟩)] w fun e w' => WEnd K b most xs (intL m) w e w' := by
  have hib := isByte_any m
  by_cases hb : 0 ≤ m ∧ m ≤ 255
  · have hdec : (decide (0 ≤ m) && decide (m ≤ 255)) = true := by simpa using hb
    rw [hdec] at hib
    have hmm : m % 256 = m := by omega
    have h1 := hide (lit_any K b most xs [97, m] 2 5 w hW rfl (by simp [B8]; omega) hmost (by omega))
    have hL := hide (show intL m = [97, m] from if_pos hb)
    have HI := hide hib
    clear hW hib hb hdec
    go_enter Try.func65, Try.ntmps65
    go_wp2_with (go_at_call 62; refine ((unhide HI) _).mono ?_; rintro e w' ⟨rfl, rfl⟩)
    refine (unhide h1).mono ?_
    rintro e w1 ⟨s1, ⟨l1, rfl, hw1⟩ | ⟨l1, rfl⟩⟩
    rotate_left
    · refine ⟨rfl, ?_⟩
      rw [unhide hL]
      exact ⟨s1, .inr ⟨l1, rfl⟩⟩
    have HW := hide hw1
    have HS := hide s1
    clear hw1 s1
    go_wp2_with fail
    refine bodyPost_ret (v := .tuple #[]) (by simp [results, Try.results65, go_sem]) rfl ?_
    rw [unhide hL]
    exact WEnd.done (unhide HS) (unhide HW)
  · have hdec : (decide (0 ≤ m) && decide (m ≤ 255)) = false := by
      rw [Bool.eq_false_iff]; intro h; simp at h; exact hb h
    rw [hdec] at hib
    have HI := hide hib
    by_cases hneg : m < 0
    · have h1 := hide (lit_any K b most xs [98, 1] 2 5 w hW rfl (by simp [B8]) hmost (by omega))
      have hL := hide (show intL m = 98 :: 1 :: beL (-m) 7 by unfold intL; rw [if_neg hb, if_pos hneg])
      clear hW hib hb hdec
      go_enter Try.func65, Try.ntmps65
      go_wp2_with (go_at_call 62; refine ((unhide HI) _).mono ?_; rintro e w' ⟨rfl, rfl⟩)
      refine (unhide h1).mono ?_
      rintro e w1 ⟨s1, ⟨l1, rfl, hw1⟩ | ⟨l1, rfl⟩⟩
      rotate_left
      · refine ⟨rfl, ?_⟩
        rw [unhide hL]
        exact WEnd.stop s1 l1 rfl
      have h2 := hide (number_any K b most _ (-m) 7 w1 hw1 hmost (by omega))
      have S1 := hide s1
      clear hw1 s1 l1
      go_wp2_with fail
      refine (unhide h2).mono ?_
      rintro e w2 hend
      have hend' := hend.go (unhide S1) (us := 98 :: 1 :: beL (-m) 7) rfl
      rw [← unhide hL] at hend'
      obtain ⟨s2, ⟨l2, rfl, hw2⟩ | ⟨l2, rfl⟩⟩ := hend
      rotate_left
      · exact ⟨rfl, hend'⟩
      have HE := hide hend'
      clear hend' s2 hw2 l2
      go_wp2_with fail
      exact bodyPost_ret (v := .tuple #[]) (by simp [results, Try.results65, go_sem]) rfl (unhide HE)
    · have h1 := hide (lit_any K b most xs [98, 0] 2 5 w hW rfl (by simp [B8]) hmost (by omega))
      have hL := hide (show intL m = 98 :: 0 :: beL m 7 by unfold intL; rw [if_neg hb, if_neg hneg])
      clear hW hib hb hdec
      go_enter Try.func65, Try.ntmps65
      go_wp2_with (go_at_call 62; refine ((unhide HI) _).mono ?_; rintro e w' ⟨rfl, rfl⟩)
      refine (unhide h1).mono ?_
      rintro e w1 ⟨s1, ⟨l1, rfl, hw1⟩ | ⟨l1, rfl⟩⟩
      rotate_left
      · refine ⟨rfl, ?_⟩
        rw [unhide hL]
        exact WEnd.stop s1 l1 rfl
      have h2 := hide (number_any K b most _ m 7 w1 hw1 hmost (by omega))
      have S1 := hide s1
      clear hw1 s1 l1
      go_wp2_with fail
      refine (unhide h2).mono ?_
      rintro e w2 hend
      have hend' := hend.go (unhide S1) (us := 98 :: 0 :: beL m 7) rfl
      rw [← unhide hL] at hend'
      obtain ⟨s2, ⟨l2, rfl, hw2⟩ | ⟨l2, rfl⟩⟩ := hend
      rotate_left
      · exact ⟨rfl, hend'⟩
      have HE := hide hend'
      clear hend' s2 hw2 l2
      go_wp2_with fail
      exact bodyPost_ret (v := .tuple #[]) (by simp [results, Try.results65, go_sem]) rfl (unhide HE)

end
end Go.Proofs.Ytaggnncndbdmjaa
