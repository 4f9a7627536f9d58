/- The law of TermCompare: its own walk. -/
import Derived.Test.YtpfalmoblmoaiaaLaw4
import Derived.Test.YtpfalmoblmoaiaaCm1
import Derived.Test.YtpfalmoblmoaiaaCm2
import Derived.Deep.DeepCutAuto
namespace Go.Proofs.Ytpfalmoblmoaiaa
open Go.RowKit

set_option maxRecDepth 40000 in
set_option maxHeartbeats 4000000 in
theorem law6_any {n m : Nat} (t : Tm n) (u : Tm m) (c0 c1 c2 c3 d0 d1 d2 d3 : Value) (w : World) (ht : TAt (Under w.heap.size) w n t c0 c1 c2 c3) (hu : TAt (Under w.heap.size) w m u d0 d1 d2 d3) :
    Calls Try.prog 6 #[.agg #[c0, c1, c2, c3], .agg #[d0, d1, d2, d3]] w fun e w' => e = .returned (.bool true) ∧ Below w.heap.size w w' := by
  obtain ⟨k0, k1, k2, k3, k4, k5, rfl, rfl, rfl, rfl⟩ := ht.shape
  obtain ⟨l0, l1, l2, l3, l4, l5, rfl, rfl, rfl, rfl⟩ := hu.shape
  obtain ⟨W0, hW0⟩ : ∃ W0, W0 = (w.alloc (.cells #[.int .i64 k0, .int .i64 k1, .string k2, .slice k3 k4 k5] 36)).alloc (.cells #[.int .i64 l0, .int .i64 l1, .string l2, .slice l3 l4 l5] 36) := ⟨_, rfl⟩
  have hs0 : W0.heap.size = w.heap.size + 2 := by rw [hW0]; simp
  have hb0 : Below w.heap.size w W0 := by rw [hW0]; exact ((Below.refl w.heap.size w).alloc (Nat.le_refl _) _).alloc (by simp) _
  have g0 : W0.heap[w.heap.size]? = some (.cells #[.int .i64 k0, .int .i64 k1, .string k2, .slice k3 k4 k5] 36 (0, 0)) := by
    rw [hW0, Below.heap_alloc _ _ _ (by simp)]; exact heap_new w _
  have g1 : W0.heap[w.heap.size + 1]? = some (.cells #[.int .i64 l0, .int .i64 l1, .string l2, .slice l3 l4 l5] 36 (0, 0)) := by
    rw [hW0]
    have := heap_new (w.alloc (.cells #[.int .i64 k0, .int .i64 k1, .string k2, .slice k3 k4 k5] 36)) (.cells #[.int .i64 l0, .int .i64 l1, .string l2, .slice l3 l4 l5] 36)
    simpa using this
  have hK : ∀ w', Below W0.heap.size W0 w' → w'.heap[w.heap.size]? = some (.cells #[.int .i64 k0, .int .i64 k1, .string k2, .slice k3 k4 k5] 36 (0, 0)) ∧ w'.heap[w.heap.size + 1]? = some (.cells #[.int .i64 l0, .int .i64 l1, .string l2, .slice l3 l4 l5] 36 (0, 0)) ∧
      Below w.heap.size w w' := fun w' hb => ⟨(hb.block _ (by omega)).trans g0, (hb.block _ (by omega)).trans g1, hb0.trans (hb.mono hb0.size)⟩
  have HK := hide hK
  have HT := hide ht
  have HU := hide hu
  have HW := hide hW0
  have hsz := hide (sz_any n t _ _ _ _ 1048576 W0 (ht.up hb0) (by omega) (by omega))
  have hKw := hide hb0
  clear ht hu hK g0 g1 hb0
  by_cases hl : tot n t ≤ 1048576
  · have hle : left (tot n t) 1048576 = 1048576 - (tot n t : Int) := by unfold left; split <;> omega
    have hnn : ¬ (1048576 : Int) - (tot n t : Int) < 0 := by omega
    by_cases hl2 : tot n t + tot m u ≤ 1048576
    · have hle2 : left (tot m u) (1048576 - (tot n t : Int)) = 1048576 - (tot n t : Int) - (tot m u : Int) := by unfold left; split <;> omega
      have hnn2 : ¬ (1048576 : Int) - (tot n t : Int) - (tot m u : Int) < 0 := by omega
      have htm : tot m u ≤ 1048576 := by omega
      have htl : (0 : Int) ≤ 1048576 - (tot n t : Int) := by omega
      go_enter Try.func6, Try.ntmps6
      go_wp2_with fail
      rw [← unhide HW]
      clear hW0
      refine (unhide hsz).mono ?_
      rintro e w1 ⟨rfl, hb1⟩
      rw [hle]
      have K_w1 := hide hb1
      clear hb1
      obtain ⟨q0, q1, hbw⟩ := unhide HK w1 (unhide K_w1)
      obtain ⟨p0, p1, p2, p3⟩ := heap4 q0
      obtain ⟨r0, r1, r2, r3⟩ := heap4 q1
      have HT_w1 := hide ((unhide HT).up hbw)
      have HU_w1 := hide ((unhide HU).up hbw)
      clear q0 q1 hbw
      go_wp2_with fail
      refine (sz_any m u _ _ _ _ _ w1 (unhide HU_w1) htl (by omega)).mono ?_
      rintro e w2 ⟨rfl, hb2⟩
      rw [hle2]
      have K_w2 := hide ((unhide K_w1).trans (hb2.mono (unhide K_w1).size))
      clear hb2
      go_wp2_with fail
      have K_v2 := hide (show Below W0.heap.size W0 w2.drew from (unhide K_w2).drew)
      go_cut [6, 7] (fun s6 s7 wc => s6 = .int .i64 (cmpAns n m t u) ∧ s7 = .int .i64 (cmpCode n m t u) ∧ Below W0.heap.size W0 wc)
      case first =>
        clear p0 p1 p2 p3 r0 r1 r2 r3
        obtain ⟨q0, q1, hbw⟩ := unhide HK w2.drew (unhide K_v2)
        obtain ⟨p0, p1, p2, p3⟩ := heap4 q0
        obtain ⟨r0, r1, r2, r3⟩ := heap4 q1
        have HT_v2 := hide ((unhide HT).up hbw)
        have HU_v2 := hide ((unhide HU).up hbw)
        clear q0 q1 hbw
        go_region_with (first
          | (go_at_call_of 15 k2; refine (to_any n t _ _ _ _ _ (unhide HT_v2) hl).mono ?_; rintro e w3 ⟨a0, a1, a2, a3, rfl, ha, hb3⟩; have HA := hide ha; have B3 := hide hb3; have K_w3 := hide ((unhide K_v2).trans (hb3.mono (unhide K_v2).size)); obtain ⟨q0, q1, hbw⟩ := unhide HK w3 (unhide K_w3); obtain ⟨p0, p1, p2, p3⟩ := heap4 q0; obtain ⟨r0, r1, r2, r3⟩ := heap4 q1; have HT_w3 := hide ((unhide HT).up hbw); have HU_w3 := hide ((unhide HU).up hbw); clear q0 q1 hbw; clear ha hb3)
          | (go_at_call_of 15 l2; refine (to_any m u _ _ _ _ _ (unhide HU_w3) htm).mono ?_; rintro e w4 ⟨b0, b1, b2, b3, rfl, hb, hb4⟩; have HB := hide hb; have B4 := hide hb4; have K_w4 := hide ((unhide K_w3).trans (hb4.mono (unhide K_w3).size)); obtain ⟨q0, q1, hbw⟩ := unhide HK w4 (unhide K_w4); obtain ⟨p0, p1, p2, p3⟩ := heap4 q0; obtain ⟨r0, r1, r2, r3⟩ := heap4 q1; have HT_w4 := hide ((unhide HT).up hbw); have HU_w4 := hide ((unhide HU).up hbw); clear q0 q1 hbw; clear hb hb4)
          | (go_at_call 20; refine (sCmp_any t u _ _ _ _ _ _ _ _ w4 (((unhide HA).mono fun b hb => hb.2).up (unhide B4)) ((unhide HB).mono fun b hb => hb.2)).mono ?_; rintro e w5 ⟨rfl, hb5⟩; have K_w5 := hide ((unhide K_w4).trans (hb5.mono (unhide K_w4).size)); obtain ⟨q0, q1, hbw⟩ := unhide HK w5 (unhide K_w5); obtain ⟨p0, p1, p2, p3⟩ := heap4 q0; obtain ⟨r0, r1, r2, r3⟩ := heap4 q1; have HT_w5 := hide ((unhide HT).up hbw); have HU_w5 := hide ((unhide HU).up hbw); clear q0 q1 hbw; clear hb5))
        all_goals
          go_wp2_with fail
          go_meet
          exact ⟨rfl, rfl, unhide K_w5⟩
      case rest =>
        obtain ⟨rfl, rfl, hcw⟩ := hcut
        rename World => w5
        have K_w5 := hide hcw
        clear hcw p0 p1 p2 p3 r0 r1 r2 r3
        obtain ⟨cA, hcA⟩ : ∃ x, x = cmpAns n m t u := ⟨_, rfl⟩
        obtain ⟨cC, hcC⟩ : ∃ x, x = cmpCode n m t u := ⟨_, rfl⟩
        rw [← hcA, ← hcC]
        have HCA := hide hcA
        have HCC := hide hcC
        clear hcA hcC
        obtain ⟨q0, q1, hbw⟩ := unhide HK w5 (unhide K_w5)
        obtain ⟨p0, p1, p2, p3⟩ := heap4 q0
        obtain ⟨r0, r1, r2, r3⟩ := heap4 q1
        have HT_w5 := hide ((unhide HT).up hbw)
        have HU_w5 := hide ((unhide HU).up hbw)
        clear q0 q1 hbw
        go_wp2_with fail
        refine (to_any n t _ _ _ _ w5 (unhide HT_w5) hl).mono ?_
        rintro e w6 ⟨a0, a1, a2, a3, rfl, ha, hb6⟩
        obtain ⟨a4, a5, a6, a7, a8, a9, rfl, rfl, rfl, rfl⟩ := ha.shape
        have hA6 := ha.mono fun b hb => hb.2
        have hK6 := (unhide K_w5).trans (hb6.mono (unhide K_w5).size)
        have HX := hide (fun w' h => box4 w6 (.int .i64 a4) (.int .i64 a5) (.string a6) (.slice a7 a8 a9) 26 (w' := w') h)
        have K_v6 := hide (hK6.alloc hK6.size (.cells #[.int .i64 a4, .int .i64 a5, .string a6, .slice a7 a8 a9] 26))
        have hn6 := (Below.refl w6.heap.size w6).alloc (Nat.le_refl _) (.cells #[.int .i64 a4, .int .i64 a5, .string a6, .slice a7 a8 a9] 26)
        have HAv := hide (hA6.up hn6)
        have hs6 : W0.heap.size ≤ w6.heap.size := hK6.size
        have K_w6 := hide hK6
        clear ha hb6 hA6 hK6 hn6 p0 p1 p2 p3 r0 r1 r2 r3
        obtain ⟨v6, hv6⟩ : ∃ v6, v6 = w6.alloc (.cells #[.int .i64 a4, .int .i64 a5, .string a6, .slice a7 a8 a9] 26) := ⟨_, rfl⟩
        have hsv6 : v6.heap.size = w6.heap.size + 1 := by rw [hv6]; simp
        have HV6 := hide hv6
        rw [← hv6] at HX K_v6 HAv
        clear hv6
        obtain ⟨_, _, hbv⟩ := unhide HK v6 (unhide K_v6)
        have HU_v6 := hide ((unhide HU).up hbv)
        have HT_v6 := hide ((unhide HT).up hbv)
        obtain ⟨q0, q1, hbw⟩ := unhide HK w6 (unhide K_w6)
        obtain ⟨p0, p1, p2, p3⟩ := heap4 q0
        obtain ⟨r0, r1, r2, r3⟩ := heap4 q1
        have hlt6 : w.heap.size + 1 < w6.heap.size := by omega
        have hlt6' : w.heap.size < w6.heap.size := by omega
        clear q0 q1 hbw hbv
        have X_v6 := hide (Below.refl (w6.heap.size + 1) v6)
        go_wp2_with fail
        rw [← unhide HV6]
        refine (to_any m u _ _ _ _ v6 (unhide HU_v6) htm).mono ?_
        rintro e w7 ⟨b0, b1, b2, b3, rfl, hb, hb7⟩
        obtain ⟨b4, b5, b6, b7, b8, b9, rfl, rfl, rfl, rfl⟩ := hb.shape
        have hB7 := hb.mono fun b hb => hb.2
        have hK7 := (unhide K_v6).trans (hb7.mono (unhide K_v6).size)
        have HY := hide (fun w' h => box4 w7 (.int .i64 b4) (.int .i64 b5) (.string b6) (.slice b7 b8 b9) 26 (w' := w') h)
        have K_v7 := hide (hK7.alloc hK7.size (.cells #[.int .i64 b4, .int .i64 b5, .string b6, .slice b7 b8 b9] 26))
        have hn7 := (Below.refl w7.heap.size w7).alloc (Nat.le_refl _) (.cells #[.int .i64 b4, .int .i64 b5, .string b6, .slice b7 b8 b9] 26)
        have HBv := hide (hB7.up hn7)
        have hX7 := hb7.mono (show w6.heap.size + 1 ≤ v6.heap.size by omega)
        have hs7 : w6.heap.size + 1 ≤ w7.heap.size := by have := hb7.size; omega
        have X_v7 := hide (hX7.alloc hs7 (.cells #[.int .i64 b4, .int .i64 b5, .string b6, .slice b7 b8 b9] 26))
        have HAv7 := hide (((unhide HAv).up hb7).up hn7)
        have X_w7 := hide hX7
        have K_w7 := hide hK7
        clear hb hb7 hB7 hK7 hn7 hX7 p0 p1 p2 p3 r0 r1 r2 r3
        obtain ⟨v7, hv7⟩ : ∃ v7, v7 = w7.alloc (.cells #[.int .i64 b4, .int .i64 b5, .string b6, .slice b7 b8 b9] 26) := ⟨_, rfl⟩
        have hsv7 : v7.heap.size = w7.heap.size + 1 := by rw [hv7]; simp
        have HV7 := hide hv7
        rw [← hv7] at HY K_v7 HBv X_v7 HAv7
        have Y_v7 := hide (Below.refl (w7.heap.size + 1) v7)
        clear hv7
        obtain ⟨x0, x1, x2, x3⟩ := unhide HX w7 (unhide X_w7)
        have hlt7 : w6.heap.size < w7.heap.size := by omega
        clear hlt6 hlt6'
        go_wp2_with fail
        rw [← unhide HV7]
        have hi := iCmp_any t u _ _ _ _ _ _ _ _ v7 (unhide HAv7) (unhide HBv)
        rw [← unhide HCA, ← unhide HCC] at hi
        have hZ : ∀ w', Below v7.heap.size v7 w' → w'.heap[w.heap.size]? = some (.cells #[.int .i64 k0, .int .i64 k1, .string k2, .slice k3 k4 k5] 36 (0, 0)) ∧ w'.heap[w.heap.size + 1]? = some (.cells #[.int .i64 l0, .int .i64 l1, .string l2, .slice l3 l4 l5] 36 (0, 0)) ∧
            (w'.cell? ⟨w6.heap.size, 0, none⟩ = some (.int .i64 a4) ∧ w'.cell? ⟨w6.heap.size, 1, none⟩ = some (.int .i64 a5) ∧ w'.cell? ⟨w6.heap.size, 2, none⟩ = some (.string a6) ∧ w'.cell? ⟨w6.heap.size, 3, none⟩ = some (.slice a7 a8 a9)) ∧
            (w'.cell? ⟨w7.heap.size, 0, none⟩ = some (.int .i64 b4) ∧ w'.cell? ⟨w7.heap.size, 1, none⟩ = some (.int .i64 b5) ∧ w'.cell? ⟨w7.heap.size, 2, none⟩ = some (.string b6) ∧ w'.cell? ⟨w7.heap.size, 3, none⟩ = some (.slice b7 b8 b9)) ∧
            TAt (Under w'.heap.size) w' n t (.int .i64 k0) (.int .i64 k1) (.string k2) (.slice k3 k4 k5) ∧ TAt (Under w'.heap.size) w' m u (.int .i64 l0) (.int .i64 l1) (.string l2) (.slice l3 l4 l5) ∧
            TAt (Under w'.heap.size) w' n t (.int .i64 a4) (.int .i64 a5) (.string a6) (.slice a7 a8 a9) ∧ TAt (Under w'.heap.size) w' m u (.int .i64 b4) (.int .i64 b5) (.string b6) (.slice b7 b8 b9) ∧ Below w.heap.size w w' := fun w' hz => by
          have hk := (unhide K_v7).trans (hz.mono (unhide K_v7).size)
          obtain ⟨q0, q1, hbw⟩ := unhide HK w' hk
          have hx := (unhide X_v7).trans (hz.mono (by omega))
          have hy := (unhide Y_v7).trans (hz.mono (by omega))
          exact ⟨q0, q1, unhide HX w' hx, unhide HY w' hy, (unhide HT).up hbw, (unhide HU).up hbw, (unhide HAv7).up hz, (unhide HBv).up hz, hbw⟩
        have HZ := hide hZ
        clear hZ x0 x1 x2 x3 hlt7
        refine hi.mono ?_
        rintro e w8 ⟨rfl, hb8⟩
        have Z8 := hide hb8
        clear hb8 hi
        go_wp2_with fail
        have Zd := hide (show Below v7.heap.size v7 w8.drew from (unhide Z8).drew)
        go_cut [52] (fun s52 wc => s52 = .bool false ∧ Below v7.heap.size v7 wc)
        case first =>
          obtain ⟨p0, p1, p2, p3⟩ := heap4 (unhide HZ w8.drew (unhide Zd)).1
          obtain ⟨r0, r1, r2, r3⟩ := heap4 (unhide HZ w8.drew (unhide Zd)).2.1
          obtain ⟨x0, x1, x2, x3⟩ := (unhide HZ w8.drew (unhide Zd)).2.2.1
          obtain ⟨y0, y1, y2, y3⟩ := (unhide HZ w8.drew (unhide Zd)).2.2.2.1
          have HTd := hide (unhide HZ w8.drew (unhide Zd)).2.2.2.2.1
          go_region_with (first
            | (go_at_call 15; refine (to_any n t _ _ _ _ _ (unhide HTd) hl).mono ?_; rintro e w9 ⟨e0, e1, e2, e3, rfl, he, hb9⟩; have HE := hide (he.mono fun b hb => hb.2); have Z9 := hide ((unhide Zd).trans (hb9.mono (unhide Zd).size)); obtain ⟨p0, p1, p2, p3⟩ := heap4 (unhide HZ w9 (unhide Z9)).1; obtain ⟨r0, r1, r2, r3⟩ := heap4 (unhide HZ w9 (unhide Z9)).2.1; obtain ⟨x0, x1, x2, x3⟩ := (unhide HZ w9 (unhide Z9)).2.2.1; obtain ⟨y0, y1, y2, y3⟩ := (unhide HZ w9 (unhide Z9)).2.2.2.1; clear he hb9)
            | (go_at_call 17; refine (eq_any n t _ _ _ _ _ _ _ _ w9 (unhide HZ w9 (unhide Z9)).2.2.2.2.2.2.1 (unhide HE)).mono ?_; rintro e w10 ⟨rfl, hb10⟩; have Z10 := hide ((unhide Z9).trans (hb10.mono (unhide Z9).size)); clear hb10))
          all_goals
            go_wp2_with fail
            go_meet
            exact ⟨rfl, unhide Z10⟩
        case rest =>
          obtain ⟨rfl, hz11⟩ := hcut
          rename World => w11
          have Z11 := hide hz11
          clear hz11
          go_wp2_with fail
          have Ze := hide (show Below v7.heap.size v7 w11.drew from (unhide Z11).drew)
          obtain ⟨p0, p1, p2, p3⟩ := heap4 (unhide HZ w11.drew (unhide Ze)).1
          obtain ⟨r0, r1, r2, r3⟩ := heap4 (unhide HZ w11.drew (unhide Ze)).2.1
          obtain ⟨x0, x1, x2, x3⟩ := (unhide HZ w11.drew (unhide Ze)).2.2.1
          obtain ⟨y0, y1, y2, y3⟩ := (unhide HZ w11.drew (unhide Ze)).2.2.2.1
          have HUe := hide (unhide HZ w11.drew (unhide Ze)).2.2.2.2.2.1
          go_region_with (first
            | (go_at_call 15; refine (to_any m u _ _ _ _ _ (unhide HUe) htm).mono ?_; rintro e w12 ⟨e0, e1, e2, e3, rfl, he, hb12⟩; have HE := hide (he.mono fun b hb => hb.2); have Z12 := hide ((unhide Ze).trans (hb12.mono (unhide Ze).size)); obtain ⟨p0, p1, p2, p3⟩ := heap4 (unhide HZ w12 (unhide Z12)).1; obtain ⟨r0, r1, r2, r3⟩ := heap4 (unhide HZ w12 (unhide Z12)).2.1; obtain ⟨x0, x1, x2, x3⟩ := (unhide HZ w12 (unhide Z12)).2.2.1; obtain ⟨y0, y1, y2, y3⟩ := (unhide HZ w12 (unhide Z12)).2.2.2.1; clear he hb12)
            | (go_at_call 17; refine (eq_any m u _ _ _ _ _ _ _ _ w12 (unhide HZ w12 (unhide Z12)).2.2.2.2.2.2.2.1 (unhide HE)).mono ?_; rintro e w13 ⟨rfl, hb13⟩; have Z13 := hide ((unhide Z12).trans (hb13.mono (unhide Z12).size)); clear hb13))
          all_goals
            go_wp2_with fail
            go_ret
            exact ⟨rfl, (unhide HZ w13 (unhide Z13)).2.2.2.2.2.2.2.2⟩
    · have hle2 : left (tot m u) (1048576 - (tot n t : Int)) = -1 := by unfold left; split <;> omega
      have htl : (0 : Int) ≤ 1048576 - (tot n t : Int) := by omega
      go_enter Try.func6, Try.ntmps6
      go_wp2_with fail
      rw [← unhide HW]
      clear hW0
      refine (unhide hsz).mono ?_
      rintro e w1 ⟨rfl, hb1⟩
      rw [hle]
      obtain ⟨q0, q1, hbw⟩ := unhide HK w1 hb1
      obtain ⟨r0, r1, r2, r3⟩ := heap4 q1
      have HU1 := hide ((unhide HU).up hbw)
      have HB1 := hide hbw
      clear hb1 q0 q1 hbw
      go_wp2_with fail
      refine (sz_any m u _ _ _ _ _ w1 (unhide HU1) htl (by omega)).mono ?_
      rintro e w2 ⟨rfl, hb2⟩
      rw [hle2]
      have HB2 := hide ((unhide HB1).trans (hb2.mono (unhide HB1).size))
      clear hb2
      go_wp2_with fail
      go_ret
      exact ⟨rfl, unhide HB2⟩
  · have hle : left (tot n t) 1048576 = -1 := by unfold left; split <;> omega
    go_enter Try.func6, Try.ntmps6
    go_wp2_with fail
    rw [← unhide HW]
    clear hW0
    refine (unhide hsz).mono ?_
    rintro e w1 ⟨rfl, hb1⟩
    rw [hle]
    have HB1 := hide (unhide HK w1 hb1).2.2
    clear hb1
    go_wp2_with fail
    go_ret
    exact ⟨rfl, unhide HB1⟩

end Go.Proofs.Ytpfalmoblmoaiaa
