/- impl's build of a segment. -/
import Derived.Test.YtcgbonlffcpofaaGreatDoorQ26
import Derived.Test.YtcgbonlffcpofaaGreatDoorSb6
import Derived.Test.YtcgbonlffcpofaaGreatDoorBp3
import Derived.Test.YtcgbonlffcpofaaGreatDoorBc2
import Derived.Deep.RegionWith
namespace Go.Proofs.YtcgbonlffcpofaaGreatDoor
open Go.RowKit Go.Deep

section
variable (g1 g2 g3 : Int) (g4 g5 : Bool) (k m : Int) (s : ByteArray) (ua : Option Addr) (ul uc : Nat) (w : World)

/-- What build answers. -/
def segA (r : Option (List Int)) : Value := match r with
  | some xs => .tuple #[.agg #[.int .i64 xs.length, .string (strB xs)], .int .i64 0]
  | none => .tuple #[.agg #[.int .i64 0, .string ⟨#[]⟩], .int .i64 5]

set_option maxRecDepth 40000 in
set_option maxHeartbeats 2000000 in
theorem segBuild_any {n : Nat} (t : Tm n) (hm : Masks 0 w) (hok : sgOK ((g1, g2, g3, g4, g5, t) : SgT n) = true) (hok2 : okB n t = true) (hkt : k = tK n t ∧ m = tN n t ∧ s = tS n t) :
    Calls Tryz.prog 18 #[sgV g1 g2 g3 g4 g5 k m s ua ul uc] w fun e w' => e = .returned (segA (segX ((g1, g2, g3, g4, g5, t) : SgT n))) ∧ Below w.heap.size w w' := by
  rw [sgOK_eq] at hok
  simp only [Bool.and_eq_true, decide_eq_true_eq] at hok
  obtain ⟨⟨⟨⟨p1, p2⟩, p3⟩, p4⟩, p5⟩ := hok
  obtain ⟨W0, hW0⟩ : ∃ W0, W0 = (w.alloc (.cells #[.int .i64 g1, .int .i64 g2, .int .i64 g3, .bool g4, .bool g5, .int .i64 k, .int .i64 m, .string s, .slice ua ul uc] 34)).alloc (.cells #[.int .i64 0, .string ⟨#[]⟩] 27) := ⟨_, rfl⟩
  have hb0 : Below w.heap.size w W0 := by rw [hW0]; exact below_two _ _ _
  have hs0 : W0.heap.size = w.heap.size + 2 := by rw [hW0]; simp
  have hK : ∀ w', Below W0.heap.size W0 w' → (w'.cell? ⟨w.heap.size + 1, 0, none⟩ = some (.int .i64 0) ∧ w'.cell? ⟨w.heap.size + 1, 1, none⟩ = some (.string ⟨#[]⟩)) ∧ (w'.frozen? ⟨w.heap.size + 1, 0, none⟩ = false ∧ w'.frozen? ⟨w.heap.size + 1, 1, none⟩ = false) := fun w' hb => by
    obtain ⟨_, g1, _, _⟩ := two_news w (sgO g1 g2 g3 g4 g5 k m s ua ul uc) (.cells #[.int .i64 0, .string ⟨#[]⟩] 27)
    rw [← hW0] at g1
    have k1 := (hb.block _ (by omega)).trans g1
    exact ⟨⟨cell_of_heap k1 0, cell_of_heap k1 1⟩, frozen_of_heap k1 0, frozen_of_heap k1 1⟩
  have hM0 := hm.keep hb0
  have HK := hide hK
  have Hb0 := hide hb0
  have HM0 := hide hM0
  have HW := hide hW0
  have HKT := hide hkt
  clear hK hb0 hM0 hm hkt
  by_cases ht : g1 = 1
  · subst ht
    rw [if_pos rfl] at p5
    simp only [Bool.and_eq_true, decide_eq_true_eq] at p5
    obtain ⟨p5, p6⟩ := p5
    by_cases hkind : k = 1
    · subst hkind
      obtain ⟨W, hW⟩ : ∃ W : Nat, g2 * g3 = (W : Int) := ⟨(g2 * g3).toNat, by have := Int.mul_nonneg p5 (by omega : 0 ≤ g3); omega⟩
      have hW9 : W ≤ 49 := by omega
      have hseg : segX ((1, g2, g3, g4, g5, t) : SgT n) = some (putBits m W g5) := by
        obtain ⟨hk1, hk2, _⟩ := unhide HKT
        unfold segX
        rw [if_pos rfl, if_pos hk1.symm]
        show some (putBits (tN n t) (g2 * g3).toNat g5) = _
        rw [← hk2, hW]
        rfl
      rw [hseg]
      have HA := asField_any 1 g2 g3 g4 g5 1 m s ua ul uc
      rw [hW] at HA
      have HAA := hide (fun w => HA w p1 p2 p3 p4)
      have hb1 := hide (fun w' (hb : Below W0.heap.size W0 w') => iput_any m W g4 g5 w' ((unhide HM0).keep hb) hW9)
      have hX := hide (fun w' (hb : Below W0.heap.size W0 w') => (hb.block w.heap.size (by omega)).trans ((congrArg (fun z : World => z.heap[w.heap.size]?) hW0).trans (two_news w (sgO 1 g2 g3 g4 g5 1 m s ua ul uc) (.cells #[.int .i64 0, .string ⟨#[]⟩] 27)).1))
      have HD := hide (show Below W0.heap.size W0 W0.drew from (Below.refl _ _).drew)
      have hans : segA (some (putBits m W g5)) = .tuple #[.agg #[.int .i64 W, .string (strB (putBits m W g5))], .int .i64 0] := by unfold segA; dsimp only; rw [putBits_length]
      rw [hans]
      clear hseg hans HA hW0
      generalize strB (putBits m W g5) = S at hb1 ⊢
      unfold sgV
      go_enter Tryz.func18, Tryz.ntmps18
      go_wp2_with fail
      rw [← unhide HW]
      have z := cell_of_heap (unhide hX W0 (Below.refl _ _))
      have z0 := z 0
      have z1 := z 1
      have z2 := z 2
      have z3 := z 3
      have z4 := z 4
      have z5 := z 5
      have z6 := z 6
      have z7 := z 7
      have z8 := z 8
      clear z
      go_region_with (first
        | (go_at_call 34; refine ((unhide hb1) _ (unhide B1)).mono ?_; rintro e w2 ⟨rfl, hb2⟩; obtain ⟨⟨q0, q1⟩, f0, f1⟩ := unhide HK w2 ((unhide B1).trans (hb2.mono (unhide B1).size)); have B2 := hide ((unhide B1).trans (hb2.mono (unhide B1).size)); clear hb2)
        | (go_at_call 33; refine ((unhide HAA) _).mono ?_; rintro e w1 ⟨rfl, hb1'⟩; have y := cell_of_heap (unhide hX w1 ((unhide HD).trans hb1')); have y6 := y 6; have B1 := hide ((unhide HD).trans hb1'); clear hb1' y))
      all_goals
        go_wp2_with fail
        exact bodyPost_ret (v := .tuple #[.agg #[.int .i64 W, .string S], .int .i64 0]) (by simp [results, Tryz.results18, go_sem, q0, q1]) rfl
          ⟨rfl, (((unhide Hb0).trans ((unhide B2).mono (unhide Hb0).size)).setCell (p := ⟨w.heap.size + 1, 0, none⟩) (Nat.le_succ _) _).setCell (p := ⟨w.heap.size + 1, 1, none⟩) (Nat.le_succ _) _⟩
    · have hkind' : (k != 1) = true := by simpa using hkind
      have hseg : segX ((1, g2, g3, g4, g5, t) : SgT n) = none := by
        unfold segX
        rw [if_pos rfl, if_neg (by show ¬ tK n t = 1; rw [← (unhide HKT).1]; exact hkind)]
      rw [hseg]
      obtain ⟨⟨q0, q1⟩, f0, f1⟩ := unhide HK W0 (Below.refl _ _)
      clear hseg hkind
      unfold sgV
      go_enter Tryz.func18, Tryz.ntmps18
      go_wp2_with fail
      rw [← unhide HW]
      exact bodyPost_ret (v := .tuple #[.agg #[.int .i64 0, .string ⟨#[]⟩], .int .i64 5]) (by simp [results, Tryz.results18, go_sem, q0, q1]) rfl ⟨rfl, unhide Hb0⟩
  · rw [if_neg ht] at p5
    simp only [Bool.and_eq_true, decide_eq_true_eq, Bool.not_eq_true'] at p5
    obtain ⟨⟨rfl, rfl⟩, rfl⟩ := p5
    clear ht
    by_cases hkind : k = 9
    · subst hkind
      have hkt := unhide HKT
      have hsz : s.size ≤ 4000 := by rw [hkt.2.2]; exact bin_size hok2 hkt.1.symm
      obtain ⟨N, hN⟩ : ∃ N : Nat, N = 8 * s.size := ⟨_, rfl⟩
      have hN8 : (8 : Int) * (s.size : Int) = (N : Int) := by omega
      have hNb : N ≤ 32000 := by omega
      have w8 : IntKind.i64.wrap (8 * (s.size : Int)) = (N : Int) := by rw [IntKind.wrap_i64]; omega
      have hsg : segX ((2, g2, g3, false, false, t) : SgT n) = (if sgW ((2, g2, g3, false, false, t) : SgT n) (N : Int) ≤ (N : Int) ∧ sgW ((2, g2, g3, false, false, t) : SgT n) (N : Int) % g3 = 0 then some (bitsOf s (sgW ((2, g2, g3, false, false, t) : SgT n) (N : Int)).toNat) else none) := by
        unfold segX
        rw [if_neg (show ¬ (2 : Int) = 1 by omega), if_pos (show tK n t = 9 from hkt.1.symm)]
        show (if sgW ((2, g2, g3, false, false, t) : SgT n) (8 * (tS n t).size) ≤ 8 * (tS n t).size ∧ sgW ((2, g2, g3, false, false, t) : SgT n) (8 * (tS n t).size) % g3 = 0 then some (bitsOf (tS n t) (sgW ((2, g2, g3, false, false, t) : SgT n) (8 * (tS n t).size)).toNat) else none) = _
        rw [← hkt.2.2, hN8]
      have HSG := hide hsg
      have HNN := hide hN
      have hX := hide (fun w' (hb : Below W0.heap.size W0 w') => (hb.block w.heap.size (by omega)).trans ((congrArg (fun z : World => z.heap[w.heap.size]?) hW0).trans (two_news w (sgO 2 g2 g3 false false 9 m s ua ul uc) (.cells #[.int .i64 0, .string ⟨#[]⟩] 27)).1))
      clear hsg hkt hN hW0
      by_cases hopen : g2 = -1
      · subst hopen
        have hw : sgW ((2, -1, g3, false, false, t) : SgT n) (N : Int) = (N : Int) := if_pos rfl
        have hsg := unhide HSG
        rw [hw, Int.toNat_natCast] at hsg
        have HSH := hide (fun w => share_open 2 g3 false false 9 m s ua ul uc w N (by omega) p1)
        by_cases hrem : (N : Int) % g3 = 0
        · have hr1 : ((N : Int) % g3 == 0) = true := by simpa using hrem
          have hseg : segX ((2, -1, g3, false, false, t) : SgT n) = some (bitsOf s N) := by rw [hsg, if_pos ⟨Int.le_refl _, hrem⟩]
          clear hsg hw hrem
          have hsgA : segA (some (bitsOf s N)) = .tuple #[.agg #[.int .i64 N, .string (strB (bitsOf s N))], .int .i64 0] := by unfold segA; dsimp only; rw [bitsOf_length]
          have hcut := hide (fun w' (hb : Below W0.heap.size W0 w') => icut_any (N : Int) s 0 N w' ((unhide HM0).keep hb) (by have := unhide HNN; omega) (by omega) (by have := unhide HNN; omega))
          rw [show cutBits s 0 N = bitsOf s N by simp [cutBits, bitsOf]] at hcut
          rw [hseg, hsgA]
          clear hseg hsgA
          generalize strB (bitsOf s N) = S at hcut ⊢
          unfold sgV
          go_enter Tryz.func18, Tryz.ntmps18
          go_wp2_with fail
          rw [← unhide HW]
          first | rw [hN8] | skip
          refine ((unhide HSH) _).mono ?_
          rintro e w2 ⟨rfl, hb2⟩
          have hB2 : Below W0.heap.size W0 w2 := ((Below.refl W0.heap.size W0).alloc (Nat.le_refl _) _).trans (hb2.mono (by simp))
          obtain ⟨c0, c1⟩ := box2 W0 (.int .i64 N) (.string s) 27 (hb2.mono (by simp))
          rw [show W0.heap.size = w.heap.size + 1 + 1 from hs0] at c0 c1
          have B2 := hide hB2
          obtain ⟨⟨q0, q1⟩, f0, f1⟩ := unhide HK w2 hB2
          clear hb2 hB2 w8
          rw [hr1]
          go_wp2_with fail
          refine ((unhide hcut) w2 (unhide B2)).mono ?_
          rintro e w3 ⟨rfl, hb3⟩
          have B3 := hide ((unhide B2).trans (hb3.mono (unhide B2).size))
          clear q0 q1 f0 f1 hb3 c0 c1
          obtain ⟨⟨q0, q1⟩, f0, f1⟩ := unhide HK w3 (unhide B3)
          go_wp2_with fail
          exact bodyPost_ret (v := .tuple #[.agg #[.int .i64 N, .string S], .int .i64 0]) (by simp [results, Tryz.results18, go_sem, q0, q1]) rfl
            ⟨rfl, (((unhide Hb0).trans ((unhide B3).mono (unhide Hb0).size)).setCell (p := ⟨w.heap.size + 1, 0, none⟩) (Nat.le_succ _) _).setCell (p := ⟨w.heap.size + 1, 1, none⟩) (Nat.le_succ _) _⟩
        · have hr1 : ((N : Int) % g3 == 0) = false := by simpa using hrem
          have hseg : segX ((2, -1, g3, false, false, t) : SgT n) = none := by rw [hsg, if_neg fun h => hrem h.2]
          rw [hseg]
          clear hseg hsg hw hrem
          unfold sgV
          go_enter Tryz.func18, Tryz.ntmps18
          go_wp2_with fail
          rw [← unhide HW]
          first | rw [hN8] | skip
          refine ((unhide HSH) _).mono ?_
          rintro e w2 ⟨rfl, hb2⟩
          have hB2 : Below W0.heap.size W0 w2 := ((Below.refl W0.heap.size W0).alloc (Nat.le_refl _) _).trans (hb2.mono (by simp))
          obtain ⟨c0, c1⟩ := box2 W0 (.int .i64 N) (.string s) 27 (hb2.mono (by simp))
          rw [show W0.heap.size = w.heap.size + 1 + 1 from hs0] at c0 c1
          have B2 := hide hB2
          obtain ⟨⟨q0, q1⟩, f0, f1⟩ := unhide HK w2 hB2
          clear hb2 hB2 w8
          rw [hr1]
          go_wp2_with fail
          exact bodyPost_ret (v := .tuple #[.agg #[.int .i64 0, .string ⟨#[]⟩], .int .i64 5]) (by simp [results, Tryz.results18, go_sem, q0, q1]) rfl
            ⟨rfl, (((unhide Hb0).trans ((unhide B2).mono (unhide Hb0).size)).setCell (p := ⟨w.heap.size + 1, 0, none⟩) (Nat.le_succ _) _).setCell (p := ⟨w.heap.size + 1, 1, none⟩) (Nat.le_succ _) _⟩
      · have hm0 := Int.mul_nonneg (show 0 ≤ g2 by omega) (show 0 ≤ g3 by omega)
        obtain ⟨W, hW⟩ : ∃ W : Nat, g2 * g3 = (W : Int) := ⟨(g2 * g3).toNat, by omega⟩
        have hw : sgW ((2, g2, g3, false, false, t) : SgT n) (N : Int) = (W : Int) := (if_neg hopen).trans hW
        have hdiv : (W : Int) % g3 = 0 := by rw [← hW]; exact Int.mul_emod_left _ _
        have hsg := unhide HSG
        rw [hw, Int.toNat_natCast] at hsg
        have hsh := share_width 2 g2 g3 false false 9 m s ua ul uc
        rw [hW] at hsh
        have HSH := hide (fun w => hsh w (N : Int) p1 p2 p3 p4 hopen)
        by_cases hle : W ≤ N
        · have hr1 : decide ((W : Int) ≤ (N : Int)) = true := by simp; omega
          have hseg : segX ((2, g2, g3, false, false, t) : SgT n) = some (bitsOf s W) := by rw [hsg, if_pos ⟨by omega, hdiv⟩]
          clear hsg hw hdiv hm0 hsh
          have hsgA : segA (some (bitsOf s W)) = .tuple #[.agg #[.int .i64 W, .string (strB (bitsOf s W))], .int .i64 0] := by unfold segA; dsimp only; rw [bitsOf_length]
          have hcut := hide (fun w' (hb : Below W0.heap.size W0 w') => icut_any (N : Int) s 0 W w' ((unhide HM0).keep hb) (by have := unhide HNN; omega) (by omega) (by have := unhide HNN; omega))
          rw [show cutBits s 0 W = bitsOf s W by simp [cutBits, bitsOf]] at hcut
          rw [hseg, hsgA]
          clear hseg hsgA
          generalize strB (bitsOf s W) = S at hcut ⊢
          unfold sgV
          go_enter Tryz.func18, Tryz.ntmps18
          go_wp2_with fail
          rw [← unhide HW]
          first | rw [hN8] | skip
          refine ((unhide HSH) _).mono ?_
          rintro e w2 ⟨rfl, hb2⟩
          have hB2 : Below W0.heap.size W0 w2 := ((Below.refl W0.heap.size W0).alloc (Nat.le_refl _) _).trans (hb2.mono (by simp))
          obtain ⟨c0, c1⟩ := box2 W0 (.int .i64 N) (.string s) 27 (hb2.mono (by simp))
          rw [show W0.heap.size = w.heap.size + 1 + 1 from hs0] at c0 c1
          have B2 := hide hB2
          obtain ⟨⟨q0, q1⟩, f0, f1⟩ := unhide HK w2 hB2
          clear hb2 hB2 w8
          rw [hr1]
          go_wp2_with fail
          refine ((unhide hcut) w2 (unhide B2)).mono ?_
          rintro e w3 ⟨rfl, hb3⟩
          have B3 := hide ((unhide B2).trans (hb3.mono (unhide B2).size))
          clear q0 q1 f0 f1 hb3 c0 c1
          obtain ⟨⟨q0, q1⟩, f0, f1⟩ := unhide HK w3 (unhide B3)
          go_wp2_with fail
          exact bodyPost_ret (v := .tuple #[.agg #[.int .i64 W, .string S], .int .i64 0]) (by simp [results, Tryz.results18, go_sem, q0, q1]) rfl
            ⟨rfl, (((unhide Hb0).trans ((unhide B3).mono (unhide Hb0).size)).setCell (p := ⟨w.heap.size + 1, 0, none⟩) (Nat.le_succ _) _).setCell (p := ⟨w.heap.size + 1, 1, none⟩) (Nat.le_succ _) _⟩
        · have hr1 : decide ((W : Int) ≤ (N : Int)) = false := by simp; omega
          have hseg : segX ((2, g2, g3, false, false, t) : SgT n) = none := by rw [hsg, if_neg fun h => by have := h.1; omega]
          rw [hseg]
          clear hseg hsg hw hdiv hm0 hsh
          unfold sgV
          go_enter Tryz.func18, Tryz.ntmps18
          go_wp2_with fail
          rw [← unhide HW]
          first | rw [hN8] | skip
          refine ((unhide HSH) _).mono ?_
          rintro e w2 ⟨rfl, hb2⟩
          have hB2 : Below W0.heap.size W0 w2 := ((Below.refl W0.heap.size W0).alloc (Nat.le_refl _) _).trans (hb2.mono (by simp))
          obtain ⟨c0, c1⟩ := box2 W0 (.int .i64 N) (.string s) 27 (hb2.mono (by simp))
          rw [show W0.heap.size = w.heap.size + 1 + 1 from hs0] at c0 c1
          have B2 := hide hB2
          obtain ⟨⟨q0, q1⟩, f0, f1⟩ := unhide HK w2 hB2
          clear hb2 hB2 w8
          rw [hr1]
          go_wp2_with fail
          exact bodyPost_ret (v := .tuple #[.agg #[.int .i64 0, .string ⟨#[]⟩], .int .i64 5]) (by simp [results, Tryz.results18, go_sem, q0, q1]) rfl
            ⟨rfl, (((unhide Hb0).trans ((unhide B2).mono (unhide Hb0).size)).setCell (p := ⟨w.heap.size + 1, 0, none⟩) (Nat.le_succ _) _).setCell (p := ⟨w.heap.size + 1, 1, none⟩) (Nat.le_succ _) _⟩
    · have hkind' : (k != 9) = true := by simpa using hkind
      have hseg : segX ((2, g2, g3, false, false, t) : SgT n) = none := by
        unfold segX
        rw [if_neg (show ¬ (2 : Int) = 1 by omega), if_neg (by show ¬ tK n t = 9; rw [← (unhide HKT).1]; exact hkind)]
      rw [hseg]
      obtain ⟨⟨q0, q1⟩, f0, f1⟩ := unhide HK W0 (Below.refl _ _)
      clear hseg hkind hW0
      unfold sgV
      go_enter Tryz.func18, Tryz.ntmps18
      go_wp2_with fail
      rw [← unhide HW]
      exact bodyPost_ret (v := .tuple #[.agg #[.int .i64 0, .string ⟨#[]⟩], .int .i64 5]) (by simp [results, Tryz.results18, go_sem, q0, q1]) rfl ⟨rfl, unhide Hb0⟩
end

end Go.Proofs.YtcgbonlffcpofaaGreatDoor
