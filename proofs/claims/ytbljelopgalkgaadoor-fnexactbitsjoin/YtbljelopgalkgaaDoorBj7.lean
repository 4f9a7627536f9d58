/- impl.BitsJoin: two rows of bits put one behind the other. -/
import Derived.Test.YtbljelopgalkgaaDoorBj6
import Derived.Test.YtbljelopgalkgaaDoorBik
namespace Go.Proofs.YtbljelopgalkgaaDoor
open Go.RowKit Go.Deep

set_option maxRecDepth 100000 in
theorem rbits_nil (R : Nat) (n : Int) (w : World) (h0 : w.cell? ⟨R, 0, none⟩ = some (.int .i64 n)) (h1 : w.cell? ⟨R, 1, none⟩ = some (.slice none 0 0)) (hR : R < w.heap.size) :
    Calls Tryd.prog 26 #[.pointer (some ⟨R, 0, none⟩)] w fun e w' => e = .returned (.agg #[.int .i64 n, .string ⟨#[]⟩]) ∧ Below w.heap.size w w' := by
  have hcv := run_convert_bytes_nil (P := Tryd.prog) (w := (w.alloc (.cells #[.int .i64 0, .string ⟨#[]⟩] 26)).drew) 41 5 Tryd.underlying41 Tryd.underlying5 0 0 9 Tryd.underlying9
  have hE : (ByteArray.empty : ByteArray) = ⟨#[]⟩ := rfl
  rw [hE] at hcv
  go_enter Tryd.func26, Tryd.ntmps26
  go_wp2_with fail
  go_region
  go_wp2_with fail
  have hc0 : ((w.alloc (.cells #[.int .i64 n, .string ⟨#[]⟩] 26)).drew).cell? ⟨w.heap.size, 0, none⟩ = some (.int .i64 n) := (two_new w _ _ _).1
  have hc1 : ((w.alloc (.cells #[.int .i64 n, .string ⟨#[]⟩] 26)).drew).cell? ⟨w.heap.size, 1, none⟩ = some (.string ⟨#[]⟩) := (two_new w _ _ _).2
  exact bodyPost_ret (v := .agg #[.int .i64 n, .string ⟨#[]⟩]) (by simp [results, Tryd.results26, go_sem, hc0, hc1]) rfl ⟨rfl, ((Below.refl w.heap.size w).alloc (Nat.le_refl _) _).drew⟩

/-- bits of what join left. -/
theorem rbits_join (R base n : Nat) (X : List Int) (w w' : World) (hX : X.length = n) (hR : R < w'.heap.size) (h : JoinEnd R base n X w w') :
    Calls Tryd.prog 26 #[.pointer (some ⟨R, 0, none⟩)] w' fun e w2 => e = .returned (.agg #[.int .i64 n, .string (strB X)]) ∧ Below w'.heap.size w' w2 := by
  obtain ⟨v, h0, h1, f0, f1, hown, hb⟩ := h
  have hs : strB X = strOfNums (bytesAt X n) := by unfold strB; rw [hX]
  rcases hown.2 with ⟨rfl, hm⟩ | ⟨g, cap, cur, rfl, hbg, hh, hnc, hcm, hsz, htk⟩
  · have hnil : bytesAt X n = [] := List.eq_nil_of_length_eq_zero (by rw [bytesAt_length]; omega)
    rw [hs, hnil]
    exact rbits_nil R n w' h0 h1 hR
  · rw [hs]
    exact rbits_any R g ((n + 7) / 8) cap n (bytesAt X n) w' h0 h1 hR (by rw [bytesAt_length, hX]) (fun i hi => own_cell hown i hi) (Array.getElem?_eq_some_iff.1 hh).1

/-- What the two boxes and the place of the answer hold, behind anything that leaves them be. -/
theorem three_boxes (w : World) (a b c d e f : Value) (T1 T2 T3 : TypeId) {w' : World} (h : Below (w.heap.size + 3) (((w.alloc (.cells #[a, b] T1)).alloc (.cells #[c, d] T2)).alloc (.cells #[e, f] T3)) w') :
    (w'.cell? ⟨w.heap.size, 0, none⟩ = some a ∧ w'.cell? ⟨w.heap.size, 1, none⟩ = some b) ∧ (w'.cell? ⟨w.heap.size + 1, 0, none⟩ = some c ∧ w'.cell? ⟨w.heap.size + 1, 1, none⟩ = some d) ∧
      (w'.cell? ⟨w.heap.size + 2, 0, none⟩ = some e ∧ w'.cell? ⟨w.heap.size + 2, 1, none⟩ = some f) ∧ w'.frozen? ⟨w.heap.size + 2, 0, none⟩ = false ∧ w'.frozen? ⟨w.heap.size + 2, 1, none⟩ = false := by
  obtain ⟨k0, k1, k2⟩ := heap_three w (.cells #[a, b] T1) (.cells #[c, d] T2) (.cells #[e, f] T3)
  have q0 := (h.block w.heap.size (by omega)).trans k0
  have q1 := (h.block (w.heap.size + 1) (by omega)).trans k1
  have q2 := (h.block (w.heap.size + 2) (by omega)).trans k2
  exact ⟨⟨cell_of_heap q0 0, cell_of_heap q0 1⟩, ⟨cell_of_heap q1 0, cell_of_heap q1 1⟩, ⟨cell_of_heap q2 0, cell_of_heap q2 1⟩, by simp [World.frozen?, q2], by simp [World.frozen?, q2]⟩

/-- The answer is stored. -/
theorem below_answer {w W0 w' : World} (h0 : Below w.heap.size w W0) (h : Below W0.heap.size W0 w') (a b : Value) : Below w.heap.size w ((w'.setCell ⟨w.heap.size + 2, 0, none⟩ a).setCell ⟨w.heap.size + 2, 1, none⟩ b) :=
  ((h0.trans (h.mono h0.size)).setCell (p := ⟨w.heap.size + 2, 0, none⟩) (by show w.heap.size ≤ w.heap.size + 2; omega) _).setCell (p := ⟨w.heap.size + 2, 1, none⟩) (by show w.heap.size ≤ w.heap.size + 2; omega) _

set_option maxRecDepth 100000 in
set_option maxHeartbeats 2000000 in
theorem iBitsJoin_any (n : Int) (s : ByteArray) (m : Int) (t : ByteArray) (w : World) (hm : Masks 0 w) (hss : s.size ≤ 1048576) (hts : t.size ≤ 1048576) :
    Calls Tryd.prog 13 #[.agg #[.int .i64 n, .string s], .agg #[.int .i64 m, .string t]] w fun e w' => e = .returned (joinAns n s m t) ∧ Below w.heap.size w w' := by
  have Hm := hide hm
  obtain ⟨W0, hW0⟩ : ∃ W0, W0 = ((w.alloc (.cells #[.int .i64 n, .string s] 26)).alloc (.cells #[.int .i64 m, .string t] 26)).alloc (.cells #[.int .i64 0, .string ⟨#[]⟩] 26) := ⟨_, rfl⟩
  have hs0 : W0.heap.size = w.heap.size + 3 := by rw [hW0]; simp
  have hb0 : Below w.heap.size w W0 := by rw [hW0]; exact (((Below.refl w.heap.size w).alloc (Nat.le_refl _) _).alloc (by simp) _).alloc (by simp; omega) _
  have F := hide (fun w' (hb : Below W0.heap.size W0 w') => three_boxes w (.int .i64 n) (.string s) (.int .i64 m) (.string t) (.int .i64 0) (.string ⟨#[]⟩) 26 26 26 (w' := w') (by rw [← hW0, ← hs0]; exact hb))
  have Hb0 := hide hb0
  have HW := hide hW0
  have hm0 := (unhide Hm).keep hb0
  have HM0 := hide hm0
  have hok := hide (iOK_any n s W0 hm0 hss)
  clear hm hb0 hm0
  cases hS : okS n s
  · have hr := hide (joinAns_no (n := n) (s := s) (m := m) (t := t) (by rw [hS]; rfl))
    obtain ⟨⟨f0, f1⟩, ⟨f2, f3⟩, ⟨f4, f5⟩, f6, f7⟩ := unhide F W0 (Below.refl _ _)
    go_enter Tryd.func13, Tryd.ntmps13
    go_wp2_with fail
    rw [← unhide HW]
    clear hW0
    refine (unhide hok).mono ?_
    rintro e w1 ⟨rfl, hb1⟩
    rw [hS]
    obtain ⟨⟨f0, f1⟩, ⟨f2, f3⟩, ⟨f4, f5⟩, f6, f7⟩ := unhide F w1 hb1
    have Hb1 := hide hb1
    clear hb1
    go_wp2_with fail
    exact bodyPost_ret (v := .tuple #[.agg #[.int .i64 0, .string ⟨#[]⟩], .int .i64 1]) (by simp [results, Tryd.results13, go_sem, f4, f5]) rfl ⟨by rw [unhide hr], below_answer (unhide Hb0) (unhide Hb1) _ _⟩
  cases hT : okS m t
  · have hr := hide (joinAns_no (n := n) (s := s) (m := m) (t := t) (by rw [hS, hT]; rfl))
    obtain ⟨⟨f0, f1⟩, ⟨f2, f3⟩, ⟨f4, f5⟩, f6, f7⟩ := unhide F W0 (Below.refl _ _)
    go_enter Tryd.func13, Tryd.ntmps13
    go_wp2_with fail
    rw [← unhide HW]
    clear hW0
    refine (unhide hok).mono ?_
    rintro e w1 ⟨rfl, hb1⟩
    rw [hS]
    obtain ⟨⟨f0, f1⟩, ⟨f2, f3⟩, ⟨f4, f5⟩, f6, f7⟩ := unhide F w1 hb1
    have Hb1 := hide hb1
    clear hb1
    go_wp2_with fail
    refine (iOK_any m t w1 ((unhide HM0).keep (unhide Hb1)) hts).mono ?_
    rintro e w2 ⟨rfl, hb2⟩
    rw [hT]
    have hB2 := (unhide Hb1).trans (hb2.mono (unhide Hb1).size)
    obtain ⟨⟨f0, f1⟩, ⟨f2, f3⟩, ⟨f4, f5⟩, f6, f7⟩ := unhide F w2 hB2
    have Hb2 := hide hB2
    clear hb2 hB2
    go_wp2_with fail
    exact bodyPost_ret (v := .tuple #[.agg #[.int .i64 0, .string ⟨#[]⟩], .int .i64 1]) (by simp [results, Tryd.results13, go_sem, f4, f5]) rfl ⟨by rw [unhide hr], below_answer (unhide Hb0) (unhide Hb2) _ _⟩
  obtain ⟨hl0, hl1, hl2⟩ := okS_len hS
  obtain ⟨hm0, hm1, hm2⟩ := okS_len hT
  have eSum : IntKind.i64.wrap (n + m) = n + m := by simp [IntKind.wrap, IntKind.bits, IntKind.signed]; omega
  by_cases hfull : n + m ≤ 32000
  · have hr := hide (joinAns_yes (n := n) (s := s) (m := m) (t := t) hS hT hfull)
    have hfullI : ¬ 32000 < n + m := by omega
    have hz1 : ∀ i, n.toNat ≤ i → i < 8 * s.size → bit s i = 0 := (okS_iff n.toNat s (by rw [Int.toNat_of_nonneg hl0]; exact okS_len hS)).1 (by rw [Int.toNat_of_nonneg hl0]; exact hS)
    have hz2 : ∀ i, m.toNat ≤ i → i < 8 * t.size → bit t i = 0 := (okS_iff m.toNat t (by rw [Int.toNat_of_nonneg hm0]; exact okS_len hT)).1 (by rw [Int.toNat_of_nonneg hm0]; exact hT)
    obtain ⟨N, rfl⟩ := Int.eq_ofNat_of_zero_le hl0
    obtain ⟨M, rfl⟩ := Int.eq_ofNat_of_zero_le hm0
    simp only [Int.toNat_natCast] at hz1 hz2 hr
    have HZ1 := hide hz1
    have HZ2 := hide hz2
    clear hz1 hz2
    obtain ⟨⟨f0, f1⟩, ⟨f2, f3⟩, ⟨f4, f5⟩, f6, f7⟩ := unhide F W0 (Below.refl _ _)
    go_enter Tryd.func13, Tryd.ntmps13
    go_wp2_with fail
    rw [← unhide HW]
    clear hW0
    refine (unhide hok).mono ?_
    rintro e w1 ⟨rfl, hb1⟩
    rw [hS]
    obtain ⟨⟨f0, f1⟩, ⟨f2, f3⟩, ⟨f4, f5⟩, f6, f7⟩ := unhide F w1 hb1
    have Hb1 := hide hb1
    clear hb1
    go_wp2_with fail
    refine (iOK_any M t w1 ((unhide HM0).keep (unhide Hb1)) hts).mono ?_
    rintro e w2 ⟨rfl, hb2⟩
    rw [hT]
    have hB2 := (unhide Hb1).trans (hb2.mono (unhide Hb1).size)
    obtain ⟨⟨f0, f1⟩, ⟨f2, f3⟩, ⟨f4, f5⟩, f6, f7⟩ := unhide F w2 hB2
    have Hb2 := hide hB2
    clear hb2 hB2
    have hB3 := (unhide Hb2).alloc (unhide Hb2).size (.cells #[.int .i64 0, .slice none 0 0] 46)
    have hr2 := two_new w2 (.int .i64 0) (.slice none 0 0) 46
    have hz2 : ∀ o, (w2.alloc (.cells #[.int .i64 0, .slice none 0 0] 46)).frozen? ⟨w2.heap.size, o, none⟩ = false := fun o => by unfold World.frozen?; rw [heap_new]; simp
    have hs3 : (w2.alloc (.cells #[.int .i64 0, .slice none 0 0] 46)).heap.size = w2.heap.size + 1 := by simp
    obtain ⟨⟨g0, g1⟩, ⟨g2, g3⟩, ⟨g4, g5⟩, g6, g7⟩ := unhide F _ hB3
    obtain ⟨w3, hw3⟩ : ∃ w3, w3 = w2.alloc (.cells #[.int .i64 0, .slice none 0 0] 46) := ⟨_, rfl⟩
    have hs2 := (unhide Hb2).size
    have HB3 := hide hB3
    have HR2 := hide hr2
    have HZ3 := hide hz2
    have HS3 := hide hs3
    have HW3 := hide hw3
    clear hB3 hr2 hz2 hs3 hw3
    go_wp2_with fail
    obtain ⟨R, hR⟩ : ∃ R, R = w2.heap.size := ⟨_, rfl⟩
    have hw3 := unhide HW3
    have hB3 := unhide HB3
    have hr2 := unhide HR2
    have hz3 := unhide HZ3
    have hs3 := unhide HS3
    rw [← hw3] at hB3 hr2 hz3 hs3 g0 g1 g2 g3 g4 g5 g6 g7 ⊢
    rw [← hR] at hr2 hz3 hs3 hs2 ⊢
    clear hR
    have hj := join_any R (R + 1) N [] s none 0 w3 hr2.1 hr2.2 (hz3 0) (hz3 1) (World.ownsRow_nil w3 (R + 1) 5 1) (by omega) (by omega) (by simp) (by simp) (by omega) (by omega) (unhide HZ1)
    have e1 : ([] : List Int).length + N = N := by simp
    rw [e1, List.nil_append] at hj
    have Hj := hide hj
    clear hj HB3 HR2 HZ3 HS3 HW3 hw3 hr2 hz3
    refine (unhide Hj).mono ?_
    rintro e w4 ⟨rfl, hend⟩
    have hE := hend
    obtain ⟨v4, k0, k1, k2, k3, k4, k5⟩ := hend
    have hB4 := hB3.trans (k5.mono (show W0.heap.size ≤ R by omega))
    obtain ⟨⟨g0, g1⟩, ⟨g2, g3⟩, ⟨g4, g5⟩, g6, g7⟩ := unhide F _ hB4
    obtain ⟨a4, c4, rfl⟩ := own_shape k4
    have hs4 : R < w4.heap.size := by have := k5.size; omega
    have hj := join_any R (R + 1) M (bitsOf s N) t a4 c4 w4 (by rw [bitsOf_length]; exact k0) (by rw [bitsOf_length]; exact k1) k2 k3 (by rw [bitsOf_length]; exact k4) (by omega) (by omega) (bits_01 s N) (by rw [bitsOf_length]; omega) (by omega) (by omega) (unhide HZ2)
    rw [bitsOf_length] at hj
    have Hj2 := hide hj
    have HB4 := hide hB4
    clear hj hB4 hB3 Hj hE k0 k1 k2 k3 k4 k5 hs3
    go_wp2_with fail
    refine (unhide Hj2).mono ?_
    rintro e w5 ⟨rfl, hend⟩
    have HE := hide hend
    obtain ⟨v5, k0, k1, k2, k3, k4, k5⟩ := hend
    have hB5 := (unhide HB4).trans (k5.mono (show W0.heap.size ≤ R by omega))
    have hs5 : R < w5.heap.size := by have := k5.size; omega
    have HB5 := hide hB5
    clear hB5 k0 k1 k2 k3 k4 k5
    go_wp2_with fail
    have hbits := rbits_join R (R + 1) (N + M) (bitsOf s N ++ bitsOf t M) w4 w5 (by rw [List.length_append, bitsOf_length, bitsOf_length]) hs5 (unhide HE)
    refine hbits.mono ?_
    rintro e w6 ⟨rfl, hb6⟩
    have hB6 := (unhide HB5).trans (hb6.mono (unhide HB5).size)
    obtain ⟨⟨g0, g1⟩, ⟨g2, g3⟩, ⟨g4, g5⟩, g6, g7⟩ := unhide F _ hB6
    have HB6 := hide hB6
    clear hb6 hB6
    obtain ⟨S, hSe⟩ : ∃ S, S = strB (bitsOf s N ++ bitsOf t M) := ⟨_, rfl⟩
    rw [← hSe] at hr ⊢
    clear hSe
    go_wp2_with fail
    exact bodyPost_ret (v := .tuple #[.agg #[.int .i64 ((N : Int) + (M : Int)), .string S], .int .i64 0]) (by simp [results, Tryd.results13, go_sem, g4, g5]) rfl ⟨by rw [unhide hr], below_answer (unhide Hb0) (unhide HB6) _ _⟩
  · have hr := hide (joinAns_full (n := n) (s := s) (m := m) (t := t) hS hT hfull)
    have hfullI : 32000 < n + m := by omega
    obtain ⟨⟨f0, f1⟩, ⟨f2, f3⟩, ⟨f4, f5⟩, f6, f7⟩ := unhide F W0 (Below.refl _ _)
    go_enter Tryd.func13, Tryd.ntmps13
    go_wp2_with fail
    rw [← unhide HW]
    clear hW0
    refine (unhide hok).mono ?_
    rintro e w1 ⟨rfl, hb1⟩
    rw [hS]
    obtain ⟨⟨f0, f1⟩, ⟨f2, f3⟩, ⟨f4, f5⟩, f6, f7⟩ := unhide F w1 hb1
    have Hb1 := hide hb1
    clear hb1
    go_wp2_with fail
    refine (iOK_any m t w1 ((unhide HM0).keep (unhide Hb1)) hts).mono ?_
    rintro e w2 ⟨rfl, hb2⟩
    rw [hT]
    have hB2 := (unhide Hb1).trans (hb2.mono (unhide Hb1).size)
    obtain ⟨⟨f0, f1⟩, ⟨f2, f3⟩, ⟨f4, f5⟩, f6, f7⟩ := unhide F w2 hB2
    have Hb2 := hide hB2
    clear hb2 hB2
    go_wp2_with fail
    exact bodyPost_ret (v := .tuple #[.agg #[.int .i64 0, .string ⟨#[]⟩], .int .i64 3]) (by simp [results, Tryd.results13, go_sem, f4, f5]) rfl ⟨by rw [unhide hr], below_answer (unhide Hb0) (unhide Hb2) _ _⟩

end Go.Proofs.YtbljelopgalkgaaDoor
