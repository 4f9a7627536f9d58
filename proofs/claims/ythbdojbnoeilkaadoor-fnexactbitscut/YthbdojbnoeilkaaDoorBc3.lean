/- impl.BitsCut. -/
import Derived.Test.YthbdojbnoeilkaaDoorBc2
import Derived.Test.YthbdojbnoeilkaaDoorBg3
import Derived.Test.YthbdojbnoeilkaaDoorBik
namespace Go.Proofs.YthbdojbnoeilkaaDoor
open Go.RowKit Go.Deep

set_option maxRecDepth 100000 in
set_option maxHeartbeats 1000000 in
theorem iBitsCut_any (n : Int) (s : ByteArray) (f k : Int) (w : World) (hm : Masks 0 w) (hss : s.size ≤ 1048576) (hf0 : -9223372036854775808 ≤ f) (hf1 : f ≤ 9223372036854775807) :
    Calls Tryd.prog 16 #[.agg #[.int .i64 n, .string s], .int .i64 f, .int .i64 k] w fun e w' => e = .returned (cutAns n s f k) ∧ Below w.heap.size w w' := by
  have Hm := hide hm
  obtain ⟨W0, hW0⟩ : ∃ W0, W0 = (w.alloc (.cells #[.int .i64 n, .string s] 26)).alloc (.cells #[.int .i64 0, .string ⟨#[]⟩] 26) := ⟨_, rfl⟩
  have hs0 : W0.heap.size = w.heap.size + 2 := by rw [hW0]; simp
  have hb0 : Below w.heap.size w W0 := by rw [hW0]; exact ((Below.refl w.heap.size w).alloc (Nat.le_refl _) _).alloc (by simp) _
  have F : ∀ w', Below W0.heap.size W0 w' → w'.cell? ⟨w.heap.size, 0, none⟩ = some (.int .i64 n) ∧ w'.cell? ⟨w.heap.size, 1, none⟩ = some (.string s) := fun w' hb => by
    rw [hW0] at hb
    exact box2 w _ _ _ ((((Below.refl (w.heap.size + 1) (w.alloc (.cells #[.int .i64 n, .string s] 26))).alloc (by simp) _)).trans (hb.mono (by simp)))
  have G : ∀ w', Below W0.heap.size W0 w' → (w'.cell? ⟨w.heap.size + 1, 0, none⟩ = some (.int .i64 0) ∧ w'.cell? ⟨w.heap.size + 1, 1, none⟩ = some (.string ⟨#[]⟩)) ∧ ∀ o, w'.frozen? ⟨w.heap.size + 1, o, none⟩ = false := fun w' hb => by
    have h := box2 (w.alloc (.cells #[.int .i64 n, .string s] 26)) (.int .i64 0) (.string ⟨#[]⟩) 26 (w' := w') (by rw [hW0] at hb; simpa using hb)
    have h' := box2f (w.alloc (.cells #[.int .i64 n, .string s] 26)) (.int .i64 0) (.string ⟨#[]⟩) 26 (w' := w') (by rw [hW0] at hb; simpa using hb)
    simp only [World.size_alloc] at h h'
    exact ⟨h, h'⟩
  have HF := hide F
  have HG := hide G
  have Hb0 := hide hb0
  have HW := hide hW0
  have hm0 := (unhide Hm).keep hb0
  have hok := hide (iOK_any n s W0 hm0 hss)
  clear hm F G hb0 hm0
  cases hS : okS n s
  · have hr := hide (cutAns_no (n := n) (s := s) (f := f) (k := k) (fun h => by have := h.1; rw [hS] at this; cases this))
    go_enter Tryd.func16, Tryd.ntmps16
    go_wp2_with fail
    rw [← unhide HW]
    clear hW0
    refine (unhide hok).mono ?_
    rintro e w1 ⟨rfl, hb1⟩
    have hB1 := (Below.refl W0.heap.size W0).trans (hb1.mono (Below.refl W0.heap.size W0).size)
    rw [hS]
    obtain ⟨f0, f1⟩ := unhide HF w1 hB1
    obtain ⟨⟨q0, q1⟩, q2⟩ := unhide HG w1 hB1
    have q20 := q2 0
    have q21 := q2 1
    have Hb1 := hide hB1
    clear hb1 hB1 q2
    go_wp2_with fail
    exact bodyPost_ret (v := .tuple #[.agg #[.int .i64 0, .string ⟨#[]⟩], .int .i64 1]) (by simp [results, Tryd.results16, go_sem, q0, q1]) rfl
      ⟨by rw [unhide hr], (((unhide Hb0).trans ((unhide Hb1).mono (unhide Hb0).size)).setCell (by show w.heap.size ≤ w.heap.size + 1; omega) _).setCell (by show w.heap.size ≤ w.heap.size + 1; omega) _⟩
  obtain ⟨hl0, hl1, hl2⟩ := okS_len hS
  cases hhold : holdB n f k
  · have hr := hide (cutAns_no (n := n) (s := s) (f := f) (k := k) (fun h => by rw [holdB_yes ⟨h.2.1, h.2.2.1, h.2.2.2⟩] at hhold; cases hhold))
    go_enter Tryd.func16, Tryd.ntmps16
    go_wp2_with fail
    rw [← unhide HW]
    clear hW0
    refine (unhide hok).mono ?_
    rintro e w1 ⟨rfl, hb1⟩
    have hB1 := (Below.refl W0.heap.size W0).trans (hb1.mono (Below.refl W0.heap.size W0).size)
    rw [hS]
    obtain ⟨f0, f1⟩ := unhide HF w1 hB1
    obtain ⟨⟨q0, q1⟩, q2⟩ := unhide HG w1 hB1
    have q20 := q2 0
    have q21 := q2 1
    have Hb1 := hide hB1
    clear hb1 hB1 q2
    go_wp2_with fail
    refine (holds_any n s f k w1 hl0 hl1 hf0 hf1).mono ?_
    rintro e w2 ⟨rfl, hb2⟩
    have hB2 := (unhide Hb1).trans (hb2.mono (unhide Hb1).size)
    rw [hhold]
    obtain ⟨f0, f1⟩ := unhide HF w2 hB2
    obtain ⟨⟨q0, q1⟩, q2⟩ := unhide HG w2 hB2
    have q20 := q2 0
    have q21 := q2 1
    have Hb2 := hide hB2
    clear hb2 hB2 q2
    go_wp2_with fail
    exact bodyPost_ret (v := .tuple #[.agg #[.int .i64 0, .string ⟨#[]⟩], .int .i64 1]) (by simp [results, Tryd.results16, go_sem, q0, q1]) rfl
      ⟨by rw [unhide hr], (((unhide Hb0).trans ((unhide Hb2).mono (unhide Hb0).size)).setCell (by show w.heap.size ≤ w.heap.size + 1; omega) _).setCell (by show w.heap.size ≤ w.heap.size + 1; omega) _⟩
  have hh : 0 ≤ f ∧ 0 ≤ k ∧ k ≤ n - f := by unfold holdB at hhold; simpa using hhold
  have hr := hide (cutAns_yes (n := n) (s := s) (f := f) (k := k) ⟨hS, hh.1, hh.2.1, hh.2.2⟩)
  obtain ⟨N, rfl⟩ := Int.eq_ofNat_of_zero_le hl0
  obtain ⟨F, rfl⟩ := Int.eq_ofNat_of_zero_le hh.1
  obtain ⟨K, rfl⟩ := Int.eq_ofNat_of_zero_le hh.2.1
  simp only [Int.toNat_natCast] at hr
  have hFK : F + K ≤ 8 * s.size := by omega
  have hK : K ≤ 100000 := by omega
  clear hh
  go_enter Tryd.func16, Tryd.ntmps16
  go_wp2_with fail
  rw [← unhide HW]
  clear hW0
  refine (unhide hok).mono ?_
  rintro e w1 ⟨rfl, hb1⟩
  have hB1 := (Below.refl W0.heap.size W0).trans (hb1.mono (Below.refl W0.heap.size W0).size)
  rw [hS]
  obtain ⟨f0, f1⟩ := unhide HF w1 hB1
  obtain ⟨⟨q0, q1⟩, q2⟩ := unhide HG w1 hB1
  have q20 := q2 0
  have q21 := q2 1
  have Hb1 := hide hB1
  clear hb1 hB1 q2
  go_wp2_with fail
  refine (holds_any N s F K w1 hl0 hl1 hf0 hf1).mono ?_
  rintro e w2 ⟨rfl, hb2⟩
  have hB2 := (unhide Hb1).trans (hb2.mono (unhide Hb1).size)
  rw [hhold]
  obtain ⟨f0, f1⟩ := unhide HF w2 hB2
  obtain ⟨⟨q0, q1⟩, q2⟩ := unhide HG w2 hB2
  have q20 := q2 0
  have q21 := q2 1
  have Hb2 := hide hB2
  clear hb2 hB2 q2
  go_wp2_with fail
  refine (icut_any N s F K w2 ((unhide Hm).keep ((unhide Hb0).trans ((unhide Hb2).mono (unhide Hb0).size))) hFK hss hK).mono ?_
  rintro e w3 ⟨rfl, hb3⟩
  have hB3 := (unhide Hb2).trans (hb3.mono (unhide Hb2).size)
  obtain ⟨⟨q0, q1⟩, q2⟩ := unhide HG w3 hB3
  have q20 := q2 0
  have q21 := q2 1
  obtain ⟨S, hS3⟩ : ∃ S, S = strB (cutBits s F K) := ⟨_, rfl⟩
  rw [← hS3] at hr ⊢
  have Hb3 := hide hB3
  clear hb3 hB3 q2 hS3
  go_wp2_with fail
  exact bodyPost_ret (v := .tuple #[.agg #[.int .i64 K, .string S], .int .i64 0]) (by simp [results, Tryd.results16, go_sem, q0, q1]) rfl
    ⟨by rw [unhide hr], (((unhide Hb0).trans ((unhide Hb3).mono (unhide Hb0).size)).setCell (by show w.heap.size ≤ w.heap.size + 1; omega) _).setCell (by show w.heap.size ≤ w.heap.size + 1; omega) _⟩

end Go.Proofs.YthbdojbnoeilkaaDoor
