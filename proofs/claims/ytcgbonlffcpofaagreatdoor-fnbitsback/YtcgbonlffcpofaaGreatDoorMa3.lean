/- impl.BitMatch. -/
import Derived.Test.YtcgbonlffcpofaaGreatDoorMa1
import Derived.Test.YtcgbonlffcpofaaGreatDoorQ28
import Derived.Test.YtcgbonlffcpofaaGreatDoorOw0
namespace Go.Proofs.YtcgbonlffcpofaaGreatDoor
open Go.RowKit Go.Deep

/-- What stands behind impl's BitMatch. -/
def MatI (ts : List (Tm 1)) (c : Int) (w : World) (e : Ending) (w' : World) : Prop :=
  Below w.heap.size w w' ∧ ∃ u, e = .returned (.tuple #[u, .int .i64 c]) ∧ SAt (Fresh w w') w' (TAt (Fresh w w') w' 1) ts u ∧ OwnS w' 1 w.heap.size w'.heap.size ts u

theorem own_nil (w : World) (lo hi : Nat) : OwnS w 1 lo hi ([] : List (Tm 1)) (.slice none 0 0) := ⟨none, 0, rfl, .inl rfl⟩

set_option maxRecDepth 40000 in
set_option maxHeartbeats 4000000 in
theorem iMatch_any {n : Nat} (L : Int) (s : ByteArray) (gs : List (SgT n)) (v : Value) (w : World) (hv : SgsAt (Under w.heap.size) w n gs v) (hm : Masks 0 w) (hss : s.size ≤ 1048576) (c : Int) (ts : List (Tm 1)) (hA : MatA L s gs (c, ts)) :
    Calls Tryz.prog 8 #[.agg #[.int .i64 L, .string s], v] w fun e w' => MatI ts c w e w' := by
  obtain ⟨a, cap, rfl, hcap⟩ : ∃ a cap, v = .slice a gs.length cap ∧ gs.length ≤ 2 ^ 47 := by obtain ⟨a, cap, h, _, h2, _⟩ := hv; exact ⟨a, cap, h, h2⟩
  obtain ⟨W0, hW0⟩ : ∃ W0, W0 = w.alloc (.cells #[.int .i64 L, .string s] 27) := ⟨_, rfl⟩
  have hb0 : Below w.heap.size w W0 := by rw [hW0]; exact (Below.refl _ _).alloc (Nat.le_refl _) _
  have hs0 : W0.heap.size = w.heap.size + 1 := by rw [hW0]; simp
  have hK : ∀ w', Below W0.heap.size W0 w' → (w'.cell? ⟨w.heap.size, 0, none⟩ = some (.int .i64 L) ∧ w'.cell? ⟨w.heap.size, 1, none⟩ = some (.string s)) := fun w' hb => by
    have g0 := heap_new w (.cells #[.int .i64 L, .string s] 27)
    rw [← hW0] at g0
    have k0 := (hb.block _ (by omega)).trans g0
    exact ⟨cell_of_heap k0 0, cell_of_heap k0 1⟩
  have hBad : ∀ w', Below W0.heap.size W0 w' → ¬ (okS L s = true ∧ okM gs) → MatI ts c w (.returned (.tuple #[.slice none 0 0, .int .i64 1])) w' := fun w' hb hn => by
    rcases hA with ⟨h1, h2, _⟩ | ⟨_, h⟩
    · exact absurd ⟨h1, h2⟩ hn
    · cases h
      exact ⟨hb0.trans (hb.mono hb0.size), _, rfl, sat_none _ _, own_nil _ _ _⟩
  have hFin : ∀ w', Below W0.heap.size W0 w' → (c, ts) = (6, []) → MatI ts c w (.returned (.tuple #[.slice none 0 0, .int .i64 6])) w' := fun w' hb h => by
    cases h
    exact ⟨hb0.trans (hb.mono hb0.size), _, rfl, sat_none _ _, own_nil _ _ _⟩
  have HFIN := hide hFin
  have HBAD := hide hBad
  have HK := hide hK
  have Hb0 := hide hb0
  have HW := hide hW0
  have HV := hide (hv.up hb0)
  have HAA := hide hA
  have HM0 := hide (hm.keep hb0)
  have hok := hide (iBOK_any L s W0 (hm.keep hb0) hss)
  have HAR := hide (fun w' (hb : Below W0.heap.size W0 w') => areSegs_any gs _ w' ((hv.up hb0).up hb))
  have HOP := hide (fun w' (hb : Below W0.heap.size W0 w') => openAtEnd_any gs _ w' ((hv.up hb0).up hb))
  have HS0 := hide hs0
  have HSS := hide hss
  obtain ⟨q0, q1⟩ := hK W0 (Below.refl _ _)
  clear hK hb0 hv hBad hA hFin hm hs0 hss
  go_enter Tryz.func8, Tryz.ntmps8
  go_wp2_with fail
  rw [← unhide HW]
  clear hW0
  refine (unhide hok).mono ?_
  rintro e w1 ⟨rfl, hb1⟩
  have HB1 := hide hb1
  clear hb1 q0 q1
  cases hS : okS L s with
  | false =>
    have hans := unhide HBAD w1 (unhide HB1) fun h => by rw [hS] at h; cases h.1
    have HA := hide hans
    clear hans hS
    go_wp2_with fail
    exact bodyPost_ret (v := .tuple #[.slice none 0 0, .int .i64 1]) (by simp [results, Tryz.results8, go_sem]) rfl (unhide HA)
  | true =>
    go_wp2_with fail
    refine ((unhide HAR) w1 (unhide HB1)).mono ?_
    rintro e w2 ⟨rfl, hb2⟩
    have HB2 := hide ((unhide HB1).trans (hb2.mono (unhide HB1).size))
    clear hb2
    cases hfit : (decide (gs.length ≤ 200) && fitX gs) with
    | false =>
      have hans := unhide HBAD w2 (unhide HB2) fun h => by
        have h1 := h.2.1
        have h2 : fitX gs = true := allB_of fun i hi => (h.2.2 i hi).1
        rw [decide_eq_true h1, h2] at hfit
        cases hfit
      have HA := hide hans
      clear hans hS hfit
      go_wp2_with fail
      exact bodyPost_ret (v := .tuple #[.slice none 0 0, .int .i64 1]) (by simp [results, Tryz.results8, go_sem]) rfl (unhide HA)
    | true =>
      have hfit2 := Bool.and_eq_true_iff.1 hfit
      have hlen : gs.length ≤ 200 := by simpa using hfit2.1
      have HFIT := hide hfit2.2
      clear hfit hfit2
      go_wp2_with fail
      refine ((unhide HOP) w2 (unhide HB2)).mono ?_
      rintro e w3 ⟨ob, rfl, hob, hb3⟩
      have HB3 := hide ((unhide HB2).trans (hb3.mono (unhide HB2).size))
      clear hb3
      cases ob with
      | false =>
        have hans := unhide HBAD w3 (unhide HB3) fun h => by
          have := hob.2 fun i hi => (h.2.2 i hi).2
          cases this
        have HA := hide hans
        clear hans hS hob
        go_wp2_with fail
        exact bodyPost_ret (v := .tuple #[.slice none 0 0, .int .i64 1]) (by simp [results, Tryz.results8, go_sem]) rfl (unhide HA)
      | true =>
        have hopn := hob.1 rfl
        have hall : ∀ i (hi : i < gs.length), sgOK gs[i] = true := fun i hi => List.all_eq_true.1 (unhide HFIT) _ (List.getElem_mem hi)
        have hgood : okM gs := ⟨hlen, fun i hi => ⟨hall i hi, hopn i hi⟩⟩
        have hmat : matX s L.toNat [] 0 gs = (c, ts) := by
          rcases unhide HAA with ⟨_, _, h⟩ | ⟨h, _⟩
          · exact h
          · exact absurd ⟨hS, hgood⟩ h
        have hOKL := okS_len hS
        obtain ⟨N, hN⟩ : ∃ N : Nat, (N : Int) = L := ⟨L.toNat, by have := hOKL.1; omega⟩
        subst hN
        rw [Int.toNat_natCast] at hmat
        have hNb : N ≤ 32000 := by have := hOKL.2; omega
        have hNs : N ≤ 8 * s.size := by have := hOKL.2; omega
        have HMAT := hide hmat
        have HGOOD := hide hgood.2
        have HNS := hide hNs
        clear hmat hall hgood hOKL hS hob hopn HFIT HAR HOP hok HBAD HAA hNs
        go_wp2_with fail
        go_loopw [6, 7, 27] (fun ov fv iv wr => ∃ (k f : Nat) (acc : List (Tm 1)) (xs : List Value), k ≤ gs.length ∧ iv = .int .i64 k ∧ fv = .int .i64 f ∧ f ≤ N ∧ acc.length = k ∧ RowsX W0.heap.size wr acc ov xs ∧ Below W0.heap.size W0 wr ∧ matX s N acc f (gs.drop k) = (c, ts)) (fun _ _ iv _ => gs.length - (intOf iv).toNat)
        case atStart => exact ⟨0, 0, [], [], by omega, rfl, rfl, by omega, rfl, rows_nil _, unhide HB3, by rw [List.drop_zero]; exact unhide HMAT⟩
        case round =>
          clear HMAT HB1 HB2 HB3
          obtain ⟨k, f, acc, xs, hk, rfl, rfl, hfN, hal, hX, hb, hbx⟩ := hrel
          obtain ⟨M, hfM⟩ : ∃ M, f + M = N := ⟨N - f, by omega⟩
          by_cases hlt : k < gs.length
          · obtain ⟨b, off, kk, km, ks, ku, rfl, hS9, e0, e1, e2, e3, e4, e5, e6, e7, e8, i1, i2, i3, hr⟩ := ((unhide HV).up hb).at k hlt
            obtain ⟨g1, g2, g3, g4, g5, t, hgk⟩ : ∃ g1 g2 g3 g4 g5 t, gs[k] = ((g1, g2, g3, g4, g5, t) : SgT n) := ⟨_, _, _, _, _, _, rfl⟩
            have hok1 := ((unhide HGOOD) k hlt).1
            rw [hgk] at e0 e1 e2 e3 e4 hr hok1
            rw [List.drop_eq_getElem_cons hlt, hgk] at hbx
            dsimp only at e0 e1 e2 e3 e4 hr
            rw [sgOK_eq] at hok1
            simp only [Bool.and_eq_true, decide_eq_true_eq] at hok1
            obtain ⟨⟨⟨⟨p1, p2⟩, p3⟩, p4⟩, p5⟩ := hok1
            obtain ⟨_, _, _, ua, ul, uc, h1, h2, h3, rfl⟩ := hr.shape
            have HBX := hide hbx
            have HX := hide hX
            have HB := hide hb
            have HFM := hide hfM
            have hMi : (N : Int) - (f : Int) = (M : Int) := by omega
            have hMb : M ≤ 32000 := by omega
            have hMe : N - f = M := by omega
            obtain ⟨q0, q1⟩ := unhide HK _ (hb.alloc hb.size (sgO g1 g2 g3 g4 g5 kk km ks ua ul uc))
            have HBa := hide (hb.alloc hb.size (sgO g1 g2 g3 g4 g5 kk km ks ua ul uc))
            have HMI := hide hMi
            have HME := hide hMe
            clear hbx hX hb hr h1 h2 h3 i1 i2 i3 hgk hfM hMi hMe
            by_cases hopen : g2 = -1
            · subst hopen
              have ht : g1 ≠ 1 := fun h => by
                rw [if_pos h] at p5
                simp only [Bool.and_eq_true, decide_eq_true_eq] at p5
                omega
              have hw : sgW ((g1, -1, g3, g4, g5, t) : SgT n) (M : Int) = (M : Int) := if_pos rfl
              have HWW := hide hw
              have HSH := hide (fun w => share_open g1 g3 g4 g5 kk km ks ua ul uc w M (by omega) p1)
              have HT := hide ht
              clear hw ht p5
              go_wp2_with fail
              rw [unhide HMI]
              refine ((unhide HSH) _).mono ?_
              rintro e w4 ⟨rfl, hb4⟩
              obtain ⟨x0, x1, x2, x3, x4, x5, x6, x7, x8⟩ := box9 g1 (-1) g3 g4 g5 kk km ks ua ul uc wr (Nat.lt_succ_self _) (hb4.mono (by simp))
              have hwb := (unhide HBa).trans (hb4.mono (unhide HBa).size)
              have HB4 := hide hwb
              clear q0 q1
              obtain ⟨q0, q1⟩ := unhide HK _ hwb
              have HX4 := hide ((unhide HX).up (((Below.refl wr.heap.size wr).alloc (Nat.le_refl _) (sgO g1 (-1) g3 g4 g5 kk km ks ua ul uc)).trans (hb4.mono (by simp))))
              clear hb4 hwb e0 e1 e2 e3 e4 e5 e6 e7 e8
              by_cases hrem : (M : Int) % g3 = 0
              · have hr1 : ((M : Int) % g3 == 0) = true := by simpa using hrem
                rw [hr1]
                have HDIV := hide hrem
                clear hrem hr1
                have HMC := hide (smatch_bin g1 (-1) g3 g4 g5 kk km ks ua ul uc w4 (N : Int) s f M ((unhide HM0).keep (unhide HB4)) (unhide HT) (by have := unhide HFM; have := unhide HNS; omega) (unhide HSS) (by omega))
                obtain ⟨S, hSd⟩ : ∃ S, S = strB (cutBits s f M) := ⟨_, rfl⟩
                rw [← hSd] at HMC
                have HSS2 := hide (show S.size ≤ 2 ^ 47 by rw [hSd]; exact strB_cut_size s f M (by omega))
                have HSD := hide hSd
                clear hSd
                go_wp2_with fail
                refine (unhide HMC).mono ?_
                rintro e w5 ⟨rfl, hb5⟩
                have hb6 := (unhide HB4).trans (hb5.mono (unhide HB4).size)
                obtain ⟨R, cp2, w6, hr6, hX6, hB6, _⟩ := row_pushN ((unhide HX4).up hb5) (by omega) (leaf_at (n := 0) (fun _ => False) w5 (k := 9) (m := 0) (t := S) (by unfold In64; omega) (by unfold In64; omega) (unhide HSS2)) (fun _ h => h.elim) (wz := w5.alloc _) ⟨rfl, rfl, rfl, rfl⟩ hb6.size 30
                rw [hal] at hr6 hX6
                have HR := hide hr6
                have HX6 := hide hX6
                have HB6 := hide (hb6.trans hB6)
                have hfw : f + M ≤ N := by have := unhide HFM; omega
                clear hb5 hb6 hr6 hX6 hB6 q0 q1 x0 x1 x2 x3 x4 x5 x6 x7 x8
                go_wp2_with (at_builtin; refine Go.Lib.wpList_append_run _ rfl (.tmp 42) (.tmp 48) 30 30 rfl _ _ rfl rfl _ _ (unhide HR) ?_)
                go_roundw
                case rel => exact ⟨k + 1, f + M, acc ++ [leafM s f M ((g1, -1, g3, g4, g5, t) : SgT n)], _, hlt, by go_num, by go_num, hfw, by rw [List.length_append, hal]; rfl, by rw [leafM_bin (unhide HT)]; simp only [← unhide HSD]; exact unhide HX6, unhide HB6, by rw [← matX_on (by rw [unhide HME]; exact unhide HWW) (by rw [unhide HME]; exact (Nat.le_refl M)) (unhide HDIV)]; exact unhide HBX⟩
                case measure => simp [intOf]; omega
              · have hr1 : ((M : Int) % g3 == 0) = false := by simpa using hrem
                rw [hr1]
                have HNT2 := hide (show ¬ takesM ((g1, -1, g3, g4, g5, t) : SgT n) (N - f) from fun h => by have h1 := h.2; rw [unhide HME, unhide HWW] at h1; exact hrem h1)
                clear hrem hr1
                have hend : (c, ts) = (6, []) := by rw [← unhide HBX]; exact matX_no (unhide HNT2)
                have HEND := hide hend
                clear hend
                go_wp2_with fail
                exact bodyPost_ret (v := .tuple #[.slice none 0 0, .int .i64 6]) (by simp [results, Tryz.results8, go_sem]) rfl (unhide HFIN _ (unhide HB4) (unhide HEND))
            · have hm0 := Int.mul_nonneg (show 0 ≤ g2 by omega) (show 0 ≤ g3 by omega)
              obtain ⟨W, hW⟩ : ∃ W : Nat, g2 * g3 = (W : Int) := ⟨(g2 * g3).toNat, by omega⟩
              have hw : sgW ((g1, g2, g3, g4, g5, t) : SgT n) (M : Int) = (W : Int) := (if_neg hopen).trans hW
              have hdiv : (W : Int) % g3 = 0 := by rw [← hW]; exact Int.mul_emod_left _ _
              have HDIV := hide hdiv
              have HWW := hide hw
              have h49 : g1 = 1 → W ≤ 49 := fun h => by
                rw [if_pos h] at p5
                simp only [Bool.and_eq_true, decide_eq_true_eq] at p5
                omega
              have H49 := hide h49
              have hsh := fun w => share_width g1 g2 g3 g4 g5 kk km ks ua ul uc w (M : Int) p1 p2 p3 p4 hopen
              rw [hW] at hsh
              have HSH := hide hsh
              have HP := hide (And.intro p1 (And.intro p2 (And.intro p3 (And.intro p4 hW))))
              clear hw hdiv hm0 hopen p5 h49 hsh p1 p2 p3 p4 hW
              go_wp2_with fail
              rw [unhide HMI]
              refine ((unhide HSH) _).mono ?_
              rintro e w4 ⟨rfl, hb4⟩
              obtain ⟨x0, x1, x2, x3, x4, x5, x6, x7, x8⟩ := box9 g1 (g2) g3 g4 g5 kk km ks ua ul uc wr (Nat.lt_succ_self _) (hb4.mono (by simp))
              have hwb := (unhide HBa).trans (hb4.mono (unhide HBa).size)
              have HB4 := hide hwb
              clear q0 q1
              obtain ⟨q0, q1⟩ := unhide HK _ hwb
              have HX4 := hide ((unhide HX).up (((Below.refl wr.heap.size wr).alloc (Nat.le_refl _) (sgO g1 (g2) g3 g4 g5 kk km ks ua ul uc)).trans (hb4.mono (by simp))))
              clear hb4 hwb e0 e1 e2 e3 e4 e5 e6 e7 e8
              by_cases hle : W ≤ M
              · have hr1 : decide ((W : Int) ≤ (M : Int)) = true := by simp; omega
                rw [hr1]
                clear hr1
                by_cases ht : g1 = 1
                · subst ht
                  obtain ⟨p1, p2, p3, p4, hW⟩ := unhide HP
                  have HMC := hide (smatch_int g2 g3 g4 g5 kk km ks ua ul uc w4 (N : Int) s f W (W : Int) ((unhide HM0).keep (unhide HB4)) p1 p2 p3 p4 hW (unhide H49 rfl) (by have := unhide HFM; have := unhide HNS; omega) (unhide HSS))
                  clear p1 p2 p3 p4 hW
                  obtain ⟨V, hVd⟩ : ∃ V : Int, V = signed g4 W (orN (gbit s f) W g5 W) := ⟨_, rfl⟩
                  rw [← hVd] at HMC
                  have HSV2 := hide (show In64 V by rw [hVd]; exact signed_64 (unhide H49 rfl) (orN_lt _ _ _ _ (Nat.le_refl _)))
                  have HVD := hide hVd
                  clear hVd
                  go_wp2_with fail
                  refine (unhide HMC).mono ?_
                  rintro e w5 ⟨rfl, hb5⟩
                  have hb6 := (unhide HB4).trans (hb5.mono (unhide HB4).size)
                  obtain ⟨R, cp2, w6, hr6, hX6, hB6, _⟩ := row_pushN ((unhide HX4).up hb5) (by omega) (leaf_at (n := 0) (fun _ => False) w5 (k := 1) (m := V) (t := ⟨#[]⟩) (by unfold In64; omega) (unhide HSV2) (by decide)) (fun _ h => h.elim) (wz := w5.alloc _) ⟨rfl, rfl, rfl, rfl⟩ hb6.size 30
                  rw [hal] at hr6 hX6
                  have HR := hide hr6
                  have HX6 := hide hX6
                  have HB6 := hide (hb6.trans hB6)
                  have hfw : f + W ≤ N := by have := unhide HFM; omega
                  clear hb5 hb6 hr6 hX6 hB6 q0 q1 x0 x1 x2 x3 x4 x5 x6 x7 x8
                  go_wp2_with (at_builtin; refine Go.Lib.wpList_append_run _ rfl (.tmp 42) (.tmp 48) 30 30 rfl _ _ rfl rfl _ _ (unhide HR) ?_)
                  go_roundw
                  case rel => exact ⟨k + 1, f + W, acc ++ [leafM s f W ((1, g2, g3, g4, g5, t) : SgT n)], _, hlt, by go_num, by go_num, hfw, by rw [List.length_append, hal]; rfl, by rw [leafM_int rfl]; simp only [← unhide HVD]; exact unhide HX6, unhide HB6, by rw [← matX_on (by rw [unhide HME]; exact unhide HWW) (by rw [unhide HME]; exact hle) (unhide HDIV)]; exact unhide HBX⟩
                  case measure => simp [intOf]; omega
                · have HT := hide ht
                  clear ht
                  have HMC := hide (smatch_bin g1 (g2) g3 g4 g5 kk km ks ua ul uc w4 (N : Int) s f W ((unhide HM0).keep (unhide HB4)) (unhide HT) (by have := unhide HFM; have := unhide HNS; omega) (unhide HSS) (by omega))
                  obtain ⟨S, hSd⟩ : ∃ S, S = strB (cutBits s f W) := ⟨_, rfl⟩
                  rw [← hSd] at HMC
                  have HSS2 := hide (show S.size ≤ 2 ^ 47 by rw [hSd]; exact strB_cut_size s f W (by omega))
                  have HSD := hide hSd
                  clear hSd
                  go_wp2_with fail
                  refine (unhide HMC).mono ?_
                  rintro e w5 ⟨rfl, hb5⟩
                  have hb6 := (unhide HB4).trans (hb5.mono (unhide HB4).size)
                  obtain ⟨R, cp2, w6, hr6, hX6, hB6, _⟩ := row_pushN ((unhide HX4).up hb5) (by omega) (leaf_at (n := 0) (fun _ => False) w5 (k := 9) (m := 0) (t := S) (by unfold In64; omega) (by unfold In64; omega) (unhide HSS2)) (fun _ h => h.elim) (wz := w5.alloc _) ⟨rfl, rfl, rfl, rfl⟩ hb6.size 30
                  rw [hal] at hr6 hX6
                  have HR := hide hr6
                  have HX6 := hide hX6
                  have HB6 := hide (hb6.trans hB6)
                  have hfw : f + W ≤ N := by have := unhide HFM; omega
                  clear hb5 hb6 hr6 hX6 hB6 q0 q1 x0 x1 x2 x3 x4 x5 x6 x7 x8
                  go_wp2_with (at_builtin; refine Go.Lib.wpList_append_run _ rfl (.tmp 42) (.tmp 48) 30 30 rfl _ _ rfl rfl _ _ (unhide HR) ?_)
                  go_roundw
                  case rel => exact ⟨k + 1, f + W, acc ++ [leafM s f W ((g1, g2, g3, g4, g5, t) : SgT n)], _, hlt, by go_num, by go_num, hfw, by rw [List.length_append, hal]; rfl, by rw [leafM_bin (unhide HT)]; simp only [← unhide HSD]; exact unhide HX6, unhide HB6, by rw [← matX_on (by rw [unhide HME]; exact unhide HWW) (by rw [unhide HME]; exact hle) (unhide HDIV)]; exact unhide HBX⟩
                  case measure => simp [intOf]; omega
              · have hr1 : decide ((W : Int) ≤ (M : Int)) = false := by simp; omega
                rw [hr1]
                have HNT2 := hide (show ¬ takesM ((g1, g2, g3, g4, g5, t) : SgT n) (N - f) from fun h => by have h1 := h.1; rw [unhide HME, unhide HWW] at h1; omega)
                clear hr1 hle
                have hend : (c, ts) = (6, []) := by rw [← unhide HBX]; exact matX_no (unhide HNT2)
                have HEND := hide hend
                clear hend
                go_wp2_with fail
                exact bodyPost_ret (v := .tuple #[.slice none 0 0, .int .i64 6]) (by simp [results, Tryz.results8, go_sem]) rfl (unhide HFIN _ (unhide HB4) (unhide HEND))
          · have hkk : k = gs.length := by omega
            subst hkk
            rw [List.drop_length] at hbx
            have HBX := hide hbx
            have HX := hide hX
            have HB := hide hb
            have HFM := hide hfM
            obtain ⟨q0, q1⟩ := unhide HK _ hb
            clear hbx hX hb hfM
            obtain ⟨ova, ovc, hov⟩ : ∃ ova ovc, u6 = .slice ova acc.length ovc := by obtain ⟨a1, c1, h, _⟩ := (unhide HX).sat (by omega); exact ⟨a1, c1, h⟩
            subst hov
            by_cases hM : f < N
            · have hM1 : (f : Int) < (N : Int) := by omega
              have hend : (c, ts) = (6, []) := by rw [← unhide HBX]; exact matX_left hM
              have HEND := hide hend
              clear hend
              go_wp2_with fail
              exact bodyPost_ret (v := .tuple #[.slice none 0 0, .int .i64 6]) (by simp [results, Tryz.results8, go_sem]) rfl (unhide HFIN _ (unhide HB) (unhide HEND))
            · have hM1 : ¬ (f : Int) < (N : Int) := by omega
              have hend : (0, acc) = (c, ts) := by rw [← unhide HBX]; exact (matX_end hM).symm
              cases hend
              have hal2 : ts.length ≤ 200 := by omega
              have HAL2 := hide hal2
              clear hal hal2
              go_wp2_with fail
              exact bodyPost_ret (v := .tuple #[.slice ova ts.length ovc, .int .i64 0]) (by simp [results, Tryz.results8, go_sem]) rfl ⟨(unhide Hb0).trans ((unhide HB).mono (unhide Hb0).size), _, rfl, ((unhide HX).sat (by have := unhide HAL2; omega)).mono (fun b hb => ⟨by have := (unhide Hb0).size; have := hb.1; omega, hb.2⟩) fun _ _ _ _ _ _ ht => ht.mono fun b hb => ⟨by have := (unhide Hb0).size; have := hb.1; omega, hb.2⟩, ((unhide HX).own (Nat.le_refl _)).wide (unhide Hb0).size (Nat.le_refl _)⟩

end Go.Proofs.YtcgbonlffcpofaaGreatDoor
