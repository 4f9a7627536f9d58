/- impl.BitMatch. -/
import Derived.Test.YtgkckkaegkdioaaDoorQ5
import Derived.Test.YtgkckkaegkdioaaDoorQ6
import Derived.Test.YtgkckkaegkdioaaDoorQ2
import Derived.Test.YtgkckkaegkdioaaDoorQ4
import Derived.Test.YtgkckkaegkdioaaDoorQ1
namespace Go.Proofs.YtgkckkaegkdioaaDoor
open Go.RowKit Go.Deep

/-- What stands behind impl's BitMatch. -/
def MatI (ts : List (Tm 1)) (c : Int) (w : World) (e : Ending) (w' : World) : Prop :=
  Below w.heap.size w w' ∧ ∃ u, e = .returned (.tuple #[u, .int .i64 c]) ∧ SAt (Fresh w w') w' (TAt (Fresh w w') w' 1) ts u ∧ OwnS w' 1 w.heap.size w'.heap.size ts u

theorem own_nil (w : World) (lo hi : Nat) : OwnS w 1 lo hi ([] : List (Tm 1)) (.slice none 0 0) := ⟨none, 0, rfl, .inl rfl⟩

set_option maxRecDepth 40000 in
set_option maxHeartbeats 4000000 in
theorem iMatch_any {n : Nat} (L : Int) (s : ByteArray) (gs : List (SgT n)) (v : Value) (w : World) (hv : SgsAt (Under w.heap.size) w n gs v) (hm : Masks 0 w) (hss : s.size ≤ 1048576) (c : Int) (ts : List (Tm 1)) (hA : MatA L s gs (c, ts)) :
    Calls Tryd.prog 9 #[.agg #[.int .i64 L, .string s], v] w fun e w' => MatI ts c w e w' := by
  obtain ⟨a, cap, rfl, hcap⟩ : ∃ a cap, v = .slice a gs.length cap ∧ gs.length ≤ 2 ^ 47 := by obtain ⟨a, cap, h, _, h2, _⟩ := hv; exact ⟨a, cap, h, h2⟩
  obtain ⟨W0, hW0⟩ : ∃ W0, W0 = w.alloc (.cells #[.int .i64 L, .string s] 30) := ⟨_, rfl⟩
  have hb0 : Below w.heap.size w W0 := by rw [hW0]; exact (Below.refl _ _).alloc (Nat.le_refl _) _
  have hs0 : W0.heap.size = w.heap.size + 1 := by rw [hW0]; simp
  have hK : ∀ w', Below W0.heap.size W0 w' → (w'.cell? ⟨w.heap.size, 0, none⟩ = some (.int .i64 L) ∧ w'.cell? ⟨w.heap.size, 1, none⟩ = some (.string s)) := fun w' hb => by
    have g0 := heap_new w (.cells #[.int .i64 L, .string s] 30)
    rw [← hW0] at g0
    have k0 := (hb.block _ (by omega)).trans g0
    exact ⟨cell_of_heap k0 0, cell_of_heap k0 1⟩
  have hBad : ∀ w', Below W0.heap.size W0 w' → ¬ (okS L s = true ∧ okM gs) → MatI ts c w (.returned (.tuple #[.slice none 0 0, .int .i64 1])) w' := fun w' hb hn => by
    rcases hA with ⟨h1, h2, _⟩ | ⟨_, h⟩
    · exact absurd ⟨h1, h2⟩ hn
    · cases h
      exact ⟨hb0.trans (hb.mono hb0.size), _, rfl, sat_none _ _, own_nil _ _ _⟩
  have hFin : ∀ w', Below W0.heap.size W0 w' → (c, ts) = (6, []) → MatI ts c w (.returned (.tuple #[.slice none 0 0, .int .i64 6])) w' := fun w' hb h => by
    cases h
    exact ⟨hb0.trans (hb.mono hb0.size), _, rfl, sat_none _ _, own_nil _ _ _⟩
  have HFIN := hide hFin
  have HBAD := hide hBad
  have HK := hide hK
  have Hb0 := hide hb0
  have HW := hide hW0
  have HV := hide (hv.up hb0)
  have HAA := hide hA
  have HM0 := hide (hm.keep hb0)
  have hok := hide (iBOK_any L s W0 (hm.keep hb0) hss)
  have HAR := hide (fun w' (hb : Below W0.heap.size W0 w') => areSegs_any gs _ w' ((hv.up hb0).up hb))
  have HOP := hide (fun w' (hb : Below W0.heap.size W0 w') => openAtEnd_any gs _ w' ((hv.up hb0).up hb))
  have HS0 := hide hs0
  have HSS := hide hss
  obtain ⟨q0, q1⟩ := hK W0 (Below.refl _ _)
  clear hK hb0 hv hBad hA hFin hm hs0 hss
  go_enter Tryd.func9, Tryd.ntmps9
  go_wp2_with fail
  rw [← unhide HW]
  clear hW0
  refine (unhide hok).mono ?_
  rintro e w1 ⟨rfl, hb1⟩
  have HB1 := hide hb1
  clear hb1 q0 q1
  cases hS : okS L s with
  | false =>
    have hans := unhide HBAD w1 (unhide HB1) fun h => by rw [hS] at h; cases h.1
    have HA := hide hans
    clear hans hS
    go_wp2_with fail
    exact bodyPost_ret (v := .tuple #[.slice none 0 0, .int .i64 1]) (by simp [results, Tryd.results9, go_sem]) rfl (unhide HA)
  | true =>
    go_wp2_with fail
    refine ((unhide HAR) w1 (unhide HB1)).mono ?_
    rintro e w2 ⟨rfl, hb2⟩
    have HB2 := hide ((unhide HB1).trans (hb2.mono (unhide HB1).size))
    clear hb2
    cases hfit : (decide (gs.length ≤ 200) && fitX gs) with
    | false =>
      have hans := unhide HBAD w2 (unhide HB2) fun h => by
        have h1 := h.2.1
        have h2 : fitX gs = true := allB_of fun i hi => (h.2.2 i hi).1
        rw [decide_eq_true h1, h2] at hfit
        cases hfit
      have HA := hide hans
      clear hans hS hfit
      go_wp2_with fail
      exact bodyPost_ret (v := .tuple #[.slice none 0 0, .int .i64 1]) (by simp [results, Tryd.results9, go_sem]) rfl (unhide HA)
    | true =>
      have hfit2 := Bool.and_eq_true_iff.1 hfit
      have hlen : gs.length ≤ 200 := by simpa using hfit2.1
      have HFIT := hide hfit2.2
      clear hfit hfit2
      go_wp2_with fail
      refine ((unhide HOP) w2 (unhide HB2)).mono ?_
      rintro e w3 ⟨ob, rfl, hob, hb3⟩
      have HB3 := hide ((unhide HB2).trans (hb3.mono (unhide HB2).size))
      clear hb3
      cases ob with
      | false =>
        have hans := unhide HBAD w3 (unhide HB3) fun h => by
          have := hob.2 fun i hi => (h.2.2 i hi).2
          cases this
        have HA := hide hans
        clear hans hS hob
        go_wp2_with fail
        exact bodyPost_ret (v := .tuple #[.slice none 0 0, .int .i64 1]) (by simp [results, Tryd.results9, go_sem]) rfl (unhide HA)
      | true =>
        have hopn := hob.1 rfl
        have hall : ∀ i (hi : i < gs.length), sgOK gs[i] = true := fun i hi => List.all_eq_true.1 (unhide HFIT) _ (List.getElem_mem hi)
        have hgood : okM gs := ⟨hlen, fun i hi => ⟨hall i hi, hopn i hi⟩⟩
        have hmat : matX s L.toNat [] 0 gs = (c, ts) := by
          rcases unhide HAA with ⟨_, _, h⟩ | ⟨h, _⟩
          · exact h
          · exact absurd ⟨hS, hgood⟩ h
        have hOKL := okS_len hS
        obtain ⟨N, hN⟩ : ∃ N : Nat, (N : Int) = L := ⟨L.toNat, by have := hOKL.1; omega⟩
        subst hN
        rw [Int.toNat_natCast] at hmat
        have hNb : N ≤ 32000 := by have := hOKL.2; omega
        have hNs : N ≤ 8 * s.size := by have := hOKL.2; omega
        have HMAT := hide hmat
        have HGOOD := hide hgood.2
        have HNS := hide hNs
        clear hmat hall hgood hOKL hS hob hopn HFIT HAR HOP hok HBAD HAA hNs
        go_wp2_with fail
        go_loopw [6, 7, 27] (fun ov fv iv wr => ∃ (k f : Nat) (acc : List (Tm 1)) (xs : List Value), k ≤ gs.length ∧ iv = .int .i64 k ∧ fv = .int .i64 f ∧ f ≤ N ∧ acc.length = k ∧ RowsX W0.heap.size wr acc ov xs ∧ Below W0.heap.size W0 wr ∧ matX s N acc f (gs.drop k) = (c, ts)) (fun _ _ iv _ => gs.length - (intOf iv).toNat)
        case atStart => exact ⟨0, 0, [], [], by omega, rfl, rfl, by omega, rfl, rows_nil _, unhide HB3, by rw [List.drop_zero]; exact unhide HMAT⟩
        case round =>
          clear HMAT HB1 HB2 HB3
          obtain ⟨k, f, acc, xs, hk, rfl, rfl, hfN, hal, hX, hb, hbx⟩ := hrel
          obtain ⟨M, hfM⟩ : ∃ M, f + M = N := ⟨N - f, by omega⟩
          by_cases hlt : k < gs.length
          · obtain ⟨b, off, kk, km, ks, ku, rfl, hS9, e0, e1, e2, e3, e4, e5, e6, e7, e8, i1, i2, i3, hr⟩ := ((unhide HV).up hb).at k hlt
            obtain ⟨g1, g2, g3, g4, g5, t, hgk⟩ : ∃ g1 g2 g3 g4 g5 t, gs[k] = ((g1, g2, g3, g4, g5, t) : SgT n) := ⟨_, _, _, _, _, _, rfl⟩
            have hok1 := ((unhide HGOOD) k hlt).1
            rw [hgk] at e0 e1 e2 e3 e4 hr hok1
            rw [List.drop_eq_getElem_cons hlt, hgk] at hbx
            dsimp only at e0 e1 e2 e3 e4 hr
            rw [sgOK_eq] at hok1
            simp only [Bool.and_eq_true, decide_eq_true_eq] at hok1
            obtain ⟨⟨⟨⟨p1, p2⟩, p3⟩, p4⟩, p5⟩ := hok1
            obtain ⟨_, _, _, ua, ul, uc, h1, h2, h3, rfl⟩ := hr.shape
            have HBX := hide hbx
            have HX := hide hX
            have HB := hide hb
            have HFM := hide hfM
            have hMi : (N : Int) - (f : Int) = (M : Int) := by omega
            have hMb : M ≤ 32000 := by omega
            have hMe : N - f = M := by omega
            obtain ⟨q0, q1⟩ := unhide HK _ (hb.alloc hb.size (sgO g1 g2 g3 g4 g5 kk km ks ua ul uc))
            have HBa := hide (hb.alloc hb.size (sgO g1 g2 g3 g4 g5 kk km ks ua ul uc))
            have HMI := hide hMi
            have HME := hide hMe
            clear hbx hX hb hr h1 h2 h3 i1 i2 i3 hgk hfM hMi hMe
            by_cases hopen : g2 = -1
            · subst hopen
              have ht : g1 ≠ 1 := fun h => by
                rw [if_pos h] at p5
                simp only [Bool.and_eq_true, decide_eq_true_eq] at p5
                omega
              have hw : sgW ((g1, -1, g3, g4, g5, t) : SgT n) (M : Int) = (M : Int) := if_pos rfl
              have HWW := hide hw
              have HSH := hide (fun w => share_open g1 g3 g4 g5 kk km ks ua ul uc w M (by omega) p1)
              have HT := hide ht
              clear hw ht p5
              go_wp2_with fail
              rw [unhide HMI]
              refine ((unhide HSH) _).mono ?_
              rintro e w4 ⟨rfl, hb4⟩
              obtain ⟨x0, x1, x2, x3, x4, x5, x6, x7, x8⟩ := box9 g1 (-1) g3 g4 g5 kk km ks ua ul uc wr (Nat.lt_succ_self _) (hb4.mono (by simp))
              have hwb := (unhide HBa).trans (hb4.mono (unhide HBa).size)
              have HB4 := hide hwb
              clear q0 q1
              obtain ⟨q0, q1⟩ := unhide HK _ hwb
              have HX4 := hide ((unhide HX).up (((Below.refl wr.heap.size wr).alloc (Nat.le_refl _) (sgO g1 (-1) g3 g4 g5 kk km ks ua ul uc)).trans (hb4.mono (by simp))))
              clear hb4 hwb e0 e1 e2 e3 e4 e5 e6 e7 e8
              by_cases hrem : (M : Int) % g3 = 0
              · have hr1 : ((M : Int) % g3 == 0) = true := by simpa using hrem
                rw [hr1]
                have HDIV := hide hrem
                clear hrem hr1
                have HMC := hide (smatch_bin g1 (-1) g3 g4 g5 kk km ks ua ul uc w4 (N : Int) s f M ((unhide HM0).keep (unhide HB4)) (unhide HT) (by have := unhide HFM; have := unhide HNS; omega) (unhide HSS) (by omega))
                obtain ⟨S, hSd⟩ : ∃ S, S = strB (cutBits s f M) := ⟨_, rfl⟩
                rw [← hSd] at HMC
                have HSS2 := hide (show S.size ≤ 2 ^ 47 by rw [hSd]; exact strB_cut_size s f M (by omega))
                have HSD := hide hSd
                clear hSd
                go_wp2_with fail
                refine (unhide HMC).mono ?_
                rintro e w5 ⟨rfl, hb5⟩
                have hb6 := (unhide HB4).trans (hb5.mono (unhide HB4).size)
                obtain ⟨R, cp2, w6, hr6, hX6, hB6, _⟩ := row_pushN ((unhide HX4).up hb5) (by omega) (leaf_at (n := 0) (fun _ => False) w5 (k := 9) (m := 0) (t := S) (by unfold In64; omega) (by unfold In64; omega) (unhide HSS2)) (fun _ h => h.elim) (wz := w5.alloc _) ⟨rfl, rfl, rfl, rfl⟩ hb6.size 27
                rw [hal] at hr6 hX6
                have HR := hide hr6
                have HX6 := hide hX6
                have HB6 := hide (hb6.trans hB6)
                have hfw : f + M ≤ N := by have := unhide HFM; omega
                clear hb5 hb6 hr6 hX6 hB6 q0 q1 x0 x1 x2 x3 x4 x5 x6 x7 x8
                go_wp2_with (at_builtin; refine Go.Lib.wpList_append_run _ rfl (.tmp 42) (.tmp 48) 27 27 rfl _ _ rfl rfl _ _ (unhide HR) ?_)
                go_roundw
                case rel => exact ⟨k + 1, f + M, acc ++ [leafM s f M ((g1, -1, g3, g4, g5, t) : SgT n)], _, hlt, by go_num, by go_num, hfw, by rw [List.length_append, hal]; rfl, by rw [leafM_bin (unhide HT)]; simp only [← unhide HSD]; exact unhide HX6, unhide HB6, by rw [← matX_on (by rw [unhide HME]; exact unhide HWW) (by rw [unhide HME]; exact (Nat.le_refl M)) (unhide HDIV)]; exact unhide HBX⟩
                case measure => simp [intOf]; omega
              · have hr1 : ((M : Int) % g3 == 0) = false := by simpa using hrem
                rw [hr1]
                have HNT2 := hide (show ¬ takesM ((g1, -1, g3, g4, g5, t) : SgT n) (N - f) from fun h => by have h1 := h.2; rw [unhide HME, unhide HWW] at h1; exact hrem h1)
                clear hrem hr1
                have hend : (c, ts) = (6, []) := by rw [← unhide HBX]; exact matX_no (unhide HNT2)
                have HEND := hide hend
                clear hend
                go_wp2_with fail
                exact bodyPost_ret (v := .tuple #[.slice none 0 0, .int .i64 6]) (by simp [results, Tryd.results9, go_sem]) rfl (unhide HFIN _ (unhide HB4) (unhide HEND))
            · have hm0 := Int.mul_nonneg (show 0 ≤ g2 by omega) (show 0 ≤ g3 by omega)
              obtain ⟨W, hW⟩ : ∃ W : Nat, g2 * g3 = (W : Int) := ⟨(g2 * g3).toNat, by omega⟩
              have hw : sgW ((g1, g2, g3, g4, g5, t) : SgT n) (M : Int) = (W : Int) := (if_neg hopen).trans hW
              have hdiv : (W : Int) % g3 = 0 := by rw [← hW]; exact Int.mul_emod_left _ _
              have HDIV := hide hdiv
              have HWW := hide hw
              have h49 : g1 = 1 → W ≤ 49 := fun h => by
                rw [if_pos h] at p5
                simp only [Bool.and_eq_true, decide_eq_true_eq] at p5
                omega
              have H49 := hide h49
              have hsh := fun w => share_width g1 g2 g3 g4 g5 kk km ks ua ul uc w (M : Int) p1 p2 p3 p4 hopen
              rw [hW] at hsh
              have HSH := hide hsh
              have HP := hide (And.intro p1 (And.intro p2 (And.intro p3 (And.intro p4 hW))))
              clear hw hdiv hm0 hopen p5 h49 hsh p1 p2 p3 p4 hW
              go_wp2_with fail
              rw [unhide HMI]
              refine ((unhide HSH) _).mono ?_
              rintro e w4 ⟨rfl, hb4⟩
              obtain ⟨x0, x1, x2, x3, x4, x5, x6, x7, x8⟩ := box9 g1 (g2) g3 g4 g5 kk km ks ua ul uc wr (Nat.lt_succ_self _) (hb4.mono (by simp))
              have hwb := (unhide HBa).trans (hb4.mono (unhide HBa).size)
              have HB4 := hide hwb
              clear q0 q1
              obtain ⟨q0, q1⟩ := unhide HK _ hwb
              have HX4 := hide ((unhide HX).up (((Below.refl wr.heap.size wr).alloc (Nat.le_refl _) (sgO g1 (g2) g3 g4 g5 kk km ks ua ul uc)).trans (hb4.mono (by simp))))
              clear hb4 hwb e0 e1 e2 e3 e4 e5 e6 e7 e8
              by_cases hle : W ≤ M
              · have hr1 : decide ((W : Int) ≤ (M : Int)) = true := by simp; omega
                rw [hr1]
                clear hr1
                by_cases ht : g1 = 1
                · subst ht
                  obtain ⟨p1, p2, p3, p4, hW⟩ := unhide HP
                  have HMC := hide (smatch_int g2 g3 g4 g5 kk km ks ua ul uc w4 (N : Int) s f W (W : Int) ((unhide HM0).keep (unhide HB4)) p1 p2 p3 p4 hW (unhide H49 rfl) (by have := unhide HFM; have := unhide HNS; omega) (unhide HSS))
                  clear p1 p2 p3 p4 hW
                  obtain ⟨V, hVd⟩ : ∃ V : Int, V = signed g4 W (orN (gbit s f) W g5 W) := ⟨_, rfl⟩
                  rw [← hVd] at HMC
                  have HSV2 := hide (show In64 V by rw [hVd]; exact signed_64 (unhide H49 rfl) (orN_lt _ _ _ _ (Nat.le_refl _)))
                  have HVD := hide hVd
                  clear hVd
                  go_wp2_with fail
                  refine (unhide HMC).mono ?_
                  rintro e w5 ⟨rfl, hb5⟩
                  have hb6 := (unhide HB4).trans (hb5.mono (unhide HB4).size)
                  obtain ⟨R, cp2, w6, hr6, hX6, hB6, _⟩ := row_pushN ((unhide HX4).up hb5) (by omega) (leaf_at (n := 0) (fun _ => False) w5 (k := 1) (m := V) (t := ⟨#[]⟩) (by unfold In64; omega) (unhide HSV2) (by decide)) (fun _ h => h.elim) (wz := w5.alloc _) ⟨rfl, rfl, rfl, rfl⟩ hb6.size 27
                  rw [hal] at hr6 hX6
                  have HR := hide hr6
                  have HX6 := hide hX6
                  have HB6 := hide (hb6.trans hB6)
                  have hfw : f + W ≤ N := by have := unhide HFM; omega
                  clear hb5 hb6 hr6 hX6 hB6 q0 q1 x0 x1 x2 x3 x4 x5 x6 x7 x8
                  go_wp2_with (at_builtin; refine Go.Lib.wpList_append_run _ rfl (.tmp 42) (.tmp 48) 27 27 rfl _ _ rfl rfl _ _ (unhide HR) ?_)
                  go_roundw
                  case rel => exact ⟨k + 1, f + W, acc ++ [leafM s f W ((1, g2, g3, g4, g5, t) : SgT n)], _, hlt, by go_num, by go_num, hfw, by rw [List.length_append, hal]; rfl, by rw [leafM_int rfl]; simp only [← unhide HVD]; exact unhide HX6, unhide HB6, by rw [← matX_on (by rw [unhide HME]; exact unhide HWW) (by rw [unhide HME]; exact hle) (unhide HDIV)]; exact unhide HBX⟩
                  case measure => simp [intOf]; omega
                · have HT := hide ht
                  clear ht
                  have HMC := hide (smatch_bin g1 (g2) g3 g4 g5 kk km ks ua ul uc w4 (N : Int) s f W ((unhide HM0).keep (unhide HB4)) (unhide HT) (by have := unhide HFM; have := unhide HNS; omega) (unhide HSS) (by omega))
                  obtain ⟨S, hSd⟩ : ∃ S, S = strB (cutBits s f W) := ⟨_, rfl⟩
                  rw [← hSd] at HMC
                  have HSS2 := hide (show S.size ≤ 2 ^ 47 by rw [hSd]; exact strB_cut_size s f W (by omega))
                  have HSD := hide hSd
                  clear hSd
                  go_wp2_with fail
                  refine (unhide HMC).mono ?_
                  rintro e w5 ⟨rfl, hb5⟩
                  have hb6 := (unhide HB4).trans (hb5.mono (unhide HB4).size)
                  obtain ⟨R, cp2, w6, hr6, hX6, hB6, _⟩ := row_pushN ((unhide HX4).up hb5) (by omega) (leaf_at (n := 0) (fun _ => False) w5 (k := 9) (m := 0) (t := S) (by unfold In64; omega) (by unfold In64; omega) (unhide HSS2)) (fun _ h => h.elim) (wz := w5.alloc _) ⟨rfl, rfl, rfl, rfl⟩ hb6.size 27
                  rw [hal] at hr6 hX6
                  have HR := hide hr6
                  have HX6 := hide hX6
                  have HB6 := hide (hb6.trans hB6)
                  have hfw : f + W ≤ N := by have := unhide HFM; omega
                  clear hb5 hb6 hr6 hX6 hB6 q0 q1 x0 x1 x2 x3 x4 x5 x6 x7 x8
                  go_wp2_with (at_builtin; refine Go.Lib.wpList_append_run _ rfl (.tmp 42) (.tmp 48) 27 27 rfl _ _ rfl rfl _ _ (unhide HR) ?_)
                  go_roundw
                  case rel => exact ⟨k + 1, f + W, acc ++ [leafM s f W ((g1, g2, g3, g4, g5, t) : SgT n)], _, hlt, by go_num, by go_num, hfw, by rw [List.length_append, hal]; rfl, by rw [leafM_bin (unhide HT)]; simp only [← unhide HSD]; exact unhide HX6, unhide HB6, by rw [← matX_on (by rw [unhide HME]; exact unhide HWW) (by rw [unhide HME]; exact hle) (unhide HDIV)]; exact unhide HBX⟩
                  case measure => simp [intOf]; omega
              · have hr1 : decide ((W : Int) ≤ (M : Int)) = false := by simp; omega
                rw [hr1]
                have HNT2 := hide (show ¬ takesM ((g1, g2, g3, g4, g5, t) : SgT n) (N - f) from fun h => by have h1 := h.1; rw [unhide HME, unhide HWW] at h1; omega)
                clear hr1 hle
                have hend : (c, ts) = (6, []) := by rw [← unhide HBX]; exact matX_no (unhide HNT2)
                have HEND := hide hend
                clear hend
                go_wp2_with fail
                exact bodyPost_ret (v := .tuple #[.slice none 0 0, .int .i64 6]) (by simp [results, Tryd.results9, go_sem]) rfl (unhide HFIN _ (unhide HB4) (unhide HEND))
          · have hkk : k = gs.length := by omega
            subst hkk
            rw [List.drop_length] at hbx
            have HBX := hide hbx
            have HX := hide hX
            have HB := hide hb
            have HFM := hide hfM
            obtain ⟨q0, q1⟩ := unhide HK _ hb
            clear hbx hX hb hfM
            obtain ⟨ova, ovc, hov⟩ : ∃ ova ovc, u6 = .slice ova acc.length ovc := by obtain ⟨a1, c1, h, _⟩ := (unhide HX).sat (by omega); exact ⟨a1, c1, h⟩
            subst hov
            by_cases hM : f < N
            · have hM1 : (f : Int) < (N : Int) := by omega
              have hend : (c, ts) = (6, []) := by rw [← unhide HBX]; exact matX_left hM
              have HEND := hide hend
              clear hend
              go_wp2_with fail
              exact bodyPost_ret (v := .tuple #[.slice none 0 0, .int .i64 6]) (by simp [results, Tryd.results9, go_sem]) rfl (unhide HFIN _ (unhide HB) (unhide HEND))
            · have hM1 : ¬ (f : Int) < (N : Int) := by omega
              have hend : (0, acc) = (c, ts) := by rw [← unhide HBX]; exact (matX_end hM).symm
              cases hend
              have hal2 : ts.length ≤ 200 := by omega
              have HAL2 := hide hal2
              clear hal hal2
              go_wp2_with fail
              exact bodyPost_ret (v := .tuple #[.slice ova ts.length ovc, .int .i64 0]) (by simp [results, Tryd.results9, go_sem]) rfl ⟨(unhide Hb0).trans ((unhide HB).mono (unhide Hb0).size), _, rfl, ((unhide HX).sat (by have := unhide HAL2; omega)).mono (fun b hb => ⟨by have := (unhide Hb0).size; have := hb.1; omega, hb.2⟩) fun _ _ _ _ _ _ ht => ht.mono fun b hb => ⟨by have := (unhide Hb0).size; have := hb.1; omega, hb.2⟩, ((unhide HX).own (Nat.le_refl _)).wide (unhide Hb0).size (Nat.le_refl _)⟩

end Go.Proofs.YtgkckkaegkdioaaDoor
/- toSeg, toSegS: segments over to the program's own. -/
namespace Go.Proofs.YtgkckkaegkdioaaDoor
open Go.RowKit

theorem fits_v {w : World} (x y z : Obj) : Below w.heap.size w (((w.alloc x).alloc y).alloc z) := ((below_two w x y)).alloc (by simp; omega) _

def zero9 : Array Value := #[.int .i64 0, .int .i64 0, .int .i64 0, .bool false, .bool false, .int .i64 0, .int .i64 0, .string ⟨#[]⟩, .slice none 0 0]
theorem run_mkSeg (n : Nat) (hn : n ≤ 1048576) (w : World) : (Instr.makeSlice 32 (.int .i64 n) (.int .i64 n)).run Tryd.prog w =
    .ok (.slice (some ⟨w.heap.size, 0, none⟩) n n) (w.alloc (.cells (madeCells zero9 (n * 9)) 50)) := by
  have := run_make (P := Tryd.prog) w 32 50 (Tryd.prog.types[50]!) (.agg zero9) (by kernel_rfl) (by kernel_rfl) (by kernel_rfl) .i64 .i64 n n (by omega) (Int.le_refl _)
    (by rw [show (Tryd.prog.types[50]!).bytes = 88 from by kernel_rfl]; omega) (by omega)
  rw [this, show (Tryd.prog.types[50]!).size = 9 from by kernel_rfl]
  rfl

/-- The first k segments over, in block B. -/
def SegsTo {n : Nat} (B : Nat) (gs : List (SgT n)) (k : Nat) (w wr : World) : Prop := Below B w wr ∧ Row B 50 (gs.length * 9) wr ∧
  ∀ j (hj : j < gs.length), j < k → ∃ ds, ds.length = 9 ∧ (∀ i, i < 9 → wr.cell? ⟨B, j * 9 + i, none⟩ = ds[i]?) ∧ SgAt (fun b => B < b ∧ b < wr.heap.size) wr n gs[j] ds
theorem SegsTo.next {n B k : Nat} {gs : List (SgT n)} {w wr w1 : World} (h : SegsTo B gs k w wr) (hk : k < gs.length) (hb1 : Below wr.heap.size wr w1) {ds : List Value} (hl : ds.length = 9) (hg : SgAt (Fresh wr w1) w1 n gs[k] ds) :
    SegsTo B gs (k + 1) w (setL w1 B (k * 9) ds) := by
  obtain ⟨hb, hrow, hall⟩ := h
  have hrow1 := hrow.keep (hb1.block _ hrow.lt)
  have hm : (k + 1) * 9 ≤ gs.length * 9 := Nat.mul_le_mul_right 9 hk
  obtain ⟨s1, s2, s3, s4, s5⟩ := setL_facts ds hrow1 (o := k * 9) (by omega)
  have hlt := hrow.lt
  refine ⟨(hb.trans (hb1.mono (by omega))).trans s3, s1, fun j hj hjk => ?_⟩
  by_cases hjk2 : j = k
  · subst hjk2
    exact ⟨ds, hl, fun i hi => s2 i (by omega), (hg.keep fun b hb => s4 b (by have := hb.1; omega)).mono fun b hb => ⟨by have := hb.1; omega, by rw [s5]; exact hb.2⟩⟩
  · obtain ⟨es, e1, e2, e3⟩ := hall j hj (by omega)
    have hm2 : (j + 1) * 9 ≤ k * 9 := Nat.mul_le_mul_right 9 (by omega)
    refine ⟨es, e1, fun i hi => ?_, (e3.keep fun b hb => (s4 b (by have := hb.1; omega)).trans (hb1.block b hb.2)).mono fun b hb => ⟨hb.1, by rw [s5]; exact Nat.lt_of_lt_of_le hb.2 hb1.size⟩⟩
    exact (setL_low ds (by omega)).trans ((World.cell?_of_block (w := wr) (hb1.block B hrow.lt)).trans (e2 i hi))

end Go.Proofs.YtgkckkaegkdioaaDoor
/- toSeg, toSegS: the copy's rows are its own, each in blocks of its own. -/
namespace Go.Proofs.YtgkckkaegkdioaaDoor
open Go.RowKit

/-- A row of segments, and the rows below it, each in blocks of its own between lo and hi. -/
def OwnG (w : World) (n : Nat) (lo hi : Nat) (gs : List (SgT (n + 1))) (v : Value) : Prop := ∃ a cap, v = .slice a gs.length cap ∧ (gs = [] ∨ ∃ R cs, ∃ bs : Nat → Nat, a = some ⟨R, 0, none⟩ ∧ w.heap[R]? = some (.cells cs 50 (0, 0)) ∧ lo ≤ R ∧ R < bs 0 ∧ (∀ i j, i ≤ j → bs i ≤ bs j) ∧ bs gs.length ≤ hi ∧
  gs.length * 9 ≤ cs.size ∧ ∀ i (h : i < gs.length), ∃ v3, cs[i * 9 + 8]? = some v3 ∧ OwnS w n (bs i) (bs (i + 1)) (kidsOf gs[i].2.2.2.2.2) v3)
theorem OwnG.keep {w w' : World} {n lo hi : Nat} {gs : List (SgT (n + 1))} {v : Value} (h : OwnG w n lo hi gs v) (hk : ∀ b, lo ≤ b → b < hi → w'.heap[b]? = w.heap[b]?) : OwnG w' n lo hi gs v := by
  obtain ⟨a, cap, hv, h⟩ := h
  refine ⟨a, cap, hv, ?_⟩
  rcases h with h | ⟨R, cs, bs, h1, h2, h3, h4, h5, h6, h7, h8⟩
  · exact .inl h
  · refine .inr ⟨R, cs, bs, h1, ?_, h3, h4, h5, h6, h7, fun i hi' => ?_⟩
    · rw [hk R h3 (by have := h5 0 gs.length (Nat.zero_le _); omega), h2]
    · obtain ⟨v3, e3, ho⟩ := h8 i hi'
      exact ⟨v3, e3, ho.keep fun b hb1 hb2 => hk b (by have := h5 0 i (Nat.zero_le _); omega) (by have := h5 (i + 1) gs.length (by omega); omega)⟩

/-- The first k segments' kids are over, each in blocks of its own. -/
def GsO (n B : Nat) (gs : List (SgT (n + 1))) (k : Nat) (wr : World) : Prop :=
  ∃ bs : Nat → Nat, B < bs 0 ∧ (∀ i j, i ≤ j → bs i ≤ bs j) ∧ bs k ≤ wr.heap.size ∧ ∀ j (hj : j < gs.length), j < k → ∃ v3, wr.cell? ⟨B, j * 9 + 8, none⟩ = some v3 ∧ OwnS wr n (bs j) (bs (j + 1)) (kidsOf gs[j].2.2.2.2.2) v3
theorem GsO.next {n B k : Nat} {gs : List (SgT (n + 1))} {wr w1 w2 : World} (h : GsO n B gs k wr) (hB : B < wr.heap.size) (hk : k < gs.length) (hb : Below wr.heap.size wr w1) (h2 : ∀ b, b ≠ B → w2.heap[b]? = w1.heap[b]?) (hs : w1.heap.size ≤ w2.heap.size)
    (hlow : ∀ o, o < k * 9 → w2.cell? ⟨B, o, none⟩ = w1.cell? ⟨B, o, none⟩) {v3 : Value} (h3 : w2.cell? ⟨B, k * 9 + 8, none⟩ = some v3) (ho : OwnS w1 n wr.heap.size w1.heap.size (kidsOf gs[k].2.2.2.2.2) v3) : GsO n B gs (k + 1) w2 := by
  obtain ⟨bs, b0, hm, hbk, hall⟩ := h
  have hw := hb.size
  obtain ⟨bs', hs1, hs2, hs3⟩ := bs_next bs k w1.heap.size hm (by omega)
  have hb00 := hs1 0 (Nat.zero_le _)
  refine ⟨bs', by omega, hs3, by omega, fun j hj hjk => ?_⟩
  by_cases hjj : j = k
  · subst hjj
    have hb0 := hm 0 j (Nat.zero_le _)
    rw [hs1 j (Nat.le_refl _), hs2]
    exact ⟨v3, h3, (ho.keep fun b h1 _ => h2 b (by omega)).wide hbk (Nat.le_refl _)⟩
  · obtain ⟨u3, e3, hoj⟩ := hall j hj (by omega)
    have hb0 := hm 0 j (Nat.zero_le _)
    have hbj := hm (j + 1) k (by omega)
    rw [hs1 j (by omega), hs1 (j + 1) (by omega)]
    exact ⟨u3, (hlow _ (by omega)).trans ((World.cell?_of_block (w := wr) (hb.block B hB)).trans e3), hoj.keep fun b h1 h4 => (h2 b (by omega)).trans (hb.block b (by omega))⟩

set_option maxRecDepth 40000 in
set_option maxHeartbeats 2000000 in
theorem toSegO_any {n : Nat} (g1 g2 g3 : Int) (g4 g5 : Bool) (t : Tm (n + 1)) (c0 c1 c2 c3 : Value) (w : World) (ht : TAt (Under w.heap.size) w (n + 1) t c0 c1 c2 c3) (hl : tot (n + 1) t ≤ 1048576) :
    Calls Tryd.prog 23 #[.agg #[.int .i64 g1, .int .i64 g2, .int .i64 g3, .bool g4, .bool g5, c0, c1, c2, c3]] w fun e w' => ∃ k m s ua ul uc, e = .returned (.agg #[.int .i64 g1, .int .i64 g2, .int .i64 g3, .bool g4, .bool g5, .int .i64 k, .int .i64 m, .string s, .slice ua ul uc]) ∧
      TAt (Fresh w w') w' (n + 1) t (.int .i64 k) (.int .i64 m) (.string s) (.slice ua ul uc) ∧ OwnS w' n w.heap.size w'.heap.size (kidsOf t) (.slice ua ul uc) ∧ Below w.heap.size w w' := by
  obtain ⟨k0, m0, s0, a0, l0, q0, rfl, rfl, rfl, rfl⟩ := ht.shape
  have HT := hide (fun w' (hb : Below w.heap.size w w') => toO_any n t _ _ _ _ w' (ht.up hb) hl)
  clear ht
  go_enter Tryd.func23, Tryd.ntmps23
  go_wp2_with fail
  obtain ⟨W3, hW3⟩ : ∃ W3, W3 = (((w.alloc (.cells #[.int .i64 g1, .int .i64 g2, .int .i64 g3, .bool g4, .bool g5, .int .i64 k0, .int .i64 m0, .string s0, .slice a0 l0 q0] 44)).alloc (.cells #[.int .i64 0, .int .i64 0, .int .i64 0, .bool false, .bool false, .int .i64 0, .int .i64 0, .string ⟨#[]⟩, .slice none 0 0] 50)).alloc
    (.cells #[.int .i64 g1, .int .i64 g2, .int .i64 g3, .bool g4, .bool g5, .int .i64 0, .int .i64 0, .string ⟨#[]⟩, .slice none 0 0] 50)) := ⟨_, rfl⟩
  obtain ⟨_, n1, n2⟩ := three_news w (.cells #[.int .i64 g1, .int .i64 g2, .int .i64 g3, .bool g4, .bool g5, .int .i64 k0, .int .i64 m0, .string s0, .slice a0 l0 q0] 44) (.cells #[.int .i64 0, .int .i64 0, .int .i64 0, .bool false, .bool false, .int .i64 0, .int .i64 0, .string ⟨#[]⟩, .slice none 0 0] 50)
    (.cells #[.int .i64 g1, .int .i64 g2, .int .i64 g3, .bool g4, .bool g5, .int .i64 0, .int .i64 0, .string ⟨#[]⟩, .slice none 0 0] 50)
  have hb3 : Below w.heap.size w W3 := by rw [hW3]; exact fits_v _ _ _
  have hs3 : W3.heap.size = w.heap.size + 3 := by rw [hW3]; simp
  rw [← hW3] at n1 n2 ⊢
  clear hW3
  refine ((unhide HT) W3 hb3).mono ?_
  rintro e w1 ⟨d0, d1, d2, d3, rfl, hd, hown, hb1⟩
  obtain ⟨k, m, s, ua, ul, uc, rfl, rfl, rfl, rfl⟩ := hd.shape
  have q1 := (hb1.block (w.heap.size + 1) (by omega)).trans n1
  have q2 := (hb1.block (w.heap.size + 1 + 1) (by omega)).trans n2
  have c1 := cell_of_heap q1
  have c2 := cell_of_heap q2
  have f1 := frozen_of_heap q1
  have f2 := frozen_of_heap q2
  obtain ⟨V1, hV1⟩ : ∃ V1, V1 = setL w1 (w.heap.size + 1 + 1) 5 [.int .i64 k, .int .i64 m, .string s, .slice ua ul uc] := ⟨_, rfl⟩
  obtain ⟨V2, hV2⟩ : ∃ V2, V2 = setL V1 (w.heap.size + 1) 0 [.int .i64 g1, .int .i64 g2, .int .i64 g3, .bool g4, .bool g5, .int .i64 k, .int .i64 m, .string s, .slice ua ul uc] := ⟨_, rfl⟩
  obtain ⟨_, _, p1, p2, p3⟩ := setL_facts (N := 9) (e := 50) [.int .i64 k, .int .i64 m, .string s, .slice ua ul uc] (w := w1) (B := w.heap.size + 1 + 1) (o := 5) ⟨_, q2, rfl⟩ (by simp)
  rw [← hV1] at p1 p2 p3
  obtain ⟨_, _, r1, r2, r3⟩ := setL_facts (N := 9) (e := 50) [.int .i64 g1, .int .i64 g2, .int .i64 g3, .bool g4, .bool g5, .int .i64 k, .int .i64 m, .string s, .slice ua ul uc] (w := V1) (B := w.heap.size + 1) (o := 0) ⟨_, (p2 (w.heap.size + 1) (by omega)).trans q1, rfl⟩ (by simp)
  rw [← hV2] at r1 r2 r3
  have hs1 := hb1.size
  have hT : TAt (Fresh w V2) V2 (n + 1) t (.int .i64 k) (.int .i64 m) (.string s) (.slice ua ul uc) :=
    (hd.keep fun b hb => (r2 b (by have := hb.1; omega)).trans (p2 b (by have := hb.1; omega))).mono fun b hb => ⟨by have := hb.1; omega, by have := hb.2; omega⟩
  have hB : Below w.heap.size w V2 := ((hb3.trans (hb1.mono (by omega))).trans (p1.mono (by omega))).trans (r1.mono (by omega))
  have hO : OwnS V2 n w.heap.size V2.heap.size (kidsOf t) (.slice ua ul uc) := (hown.keep fun b h1 h2 => (r2 b (by omega)).trans (p2 b (by omega))).wide (by omega) (by omega)
  have HOO := hide hO
  have HTT := hide hT
  have HB := hide hB
  have HV := hide (hV2.trans (by rw [hV1]))
  clear hT hO hown hB p1 p2 p3 r1 r2 r3 hV1 hV2 hd hb1 hb3 n1 n2 q1 q2
  go_wp2_with fail
  have key : ∀ W', W' = V2 → TAt (Fresh w W') W' (n + 1) t (.int .i64 k) (.int .i64 m) (.string s) (.slice ua ul uc) ∧ OwnS W' n w.heap.size W'.heap.size (kidsOf t) (.slice ua ul uc) ∧ Below w.heap.size w W' := fun W' e => by rw [e]; exact ⟨unhide HTT, unhide HOO, unhide HB⟩
  refine bodyPost_ret (v := .agg #[.int .i64 g1, .int .i64 g2, .int .i64 g3, .bool g4, .bool g5, .int .i64 k, .int .i64 m, .string s, .slice ua ul uc]) (by simp [results, Tryd.results23, go_sem, c1]) rfl ⟨k, m, s, ua, ul, uc, rfl, key _ ?_⟩
  exact ((unhide HV).trans rfl).symm

set_option maxRecDepth 40000 in
set_option maxHeartbeats 2000000 in
theorem toSegOS_any {n : Nat} (gs : List (SgT (n + 1))) (v : Value) (w : World) (hv : SgsAt (Under w.heap.size) w (n + 1) gs v) (htot : gs.length + totG gs ≤ 1048576) :
    Calls Tryd.prog 8 #[v] w fun e w' => ∃ u, e = .returned u ∧ SgsAt (Fresh w w') w' (n + 1) gs u ∧ OwnG w' n w.heap.size w'.heap.size gs u ∧ Below w.heap.size w w' := by
  obtain ⟨a, cap, rfl, hcap⟩ : ∃ a cap, v = .slice a gs.length cap ∧ gs.length ≤ 2 ^ 47 := by obtain ⟨a, cap, h, _, h2, _⟩ := hv; exact ⟨a, cap, h, h2⟩
  have hmk := run_mkSeg gs.length (by omega)
  go_enter Tryd.func8, Tryd.ntmps8
  go_wp2_with fail
  clear hmk
  go_loopw [4] (fun iv wr => ∃ k : Nat, k ≤ gs.length ∧ iv = .int .i64 k ∧ SegsTo w.heap.size gs k w wr ∧ GsO n w.heap.size gs k wr) (fun iv _ => gs.length - (intOf iv).toNat)
  case atStart =>
    refine ⟨0, by omega, rfl, ⟨(Below.refl _ _).alloc (Nat.le_refl _) _, ?_, fun j _ hj => absurd hj (by omega)⟩, fun _ => w.heap.size + 1, Nat.lt_succ_self _, fun _ _ _ => Nat.le_refl _, by simp, fun j _ hj => absurd hj (by omega)⟩
    have := Row.new (e := 50) w (madeCells zero9 (gs.length * 9))
    rwa [size_madeCells] at this
  case round =>
    obtain ⟨k, hk, rfl, hto, hgo⟩ := hrel
    have HGO := hide hgo
    clear hgo
    by_cases hlt : k < gs.length
    · have hb := hto.1
      have hrow := hto.2.1
      obtain ⟨b, off, kk, km, ks, ku, rfl, hS, e0, e1, e2, e3, e4, e5, e6, e7, e8, i1, i2, i3, hr⟩ := (hv.up hb).at k hlt
      have ht : tot (n + 1) gs[k].2.2.2.2.2 ≤ 1048576 := by
        have := totG_take gs k hlt
        have := totG_le gs (k + 1)
        omega
      have HTO := hide hto
      have hgk : ∃ g1 g2 g3 g4 g5 t, gs[k] = ((g1, g2, g3, g4, g5, t) : SgT (n + 1)) := ⟨_, _, _, _, _, _, rfl⟩
      obtain ⟨g1, g2, g3, g4, g5, t, hgk⟩ := hgk
      rw [hgk] at e0 e1 e2 e3 e4 hr ht i1 i2 i3
      dsimp only at e0 e1 e2 e3 e4 hr ht i1 i2 i3
      have HC := hide (toSegO_any g1 g2 g3 g4 g5 t _ _ _ _ wr hr ht)
      have HGK := hide hgk
      clear hr hto ht hgk
      go_wp2_with fail
      refine (unhide HC).mono ?_
      rintro e w1 ⟨k1, m1, s1, ua, ul, uc, rfl, hT, hown, hb1⟩
      have hrow1 := hrow.keep (hb1.block _ hrow.lt)
      have hm : (k + 1) * 9 ≤ gs.length * 9 := Nat.mul_le_mul_right 9 hlt
      obtain ⟨v0, x0⟩ := hrow1.cell (o := k * 9) (by omega)
      obtain ⟨v1, x1⟩ := hrow1.cell (o := k * 9 + 1) (by omega)
      obtain ⟨v2, x2⟩ := hrow1.cell (o := k * 9 + 2) (by omega)
      obtain ⟨v3, x3⟩ := hrow1.cell (o := k * 9 + 3) (by omega)
      obtain ⟨v4, x4⟩ := hrow1.cell (o := k * 9 + 4) (by omega)
      obtain ⟨v5, x5⟩ := hrow1.cell (o := k * 9 + 5) (by omega)
      obtain ⟨v6, x6⟩ := hrow1.cell (o := k * 9 + 6) (by omega)
      obtain ⟨v7, x7⟩ := hrow1.cell (o := k * 9 + 7) (by omega)
      obtain ⟨v8, x8⟩ := hrow1.cell (o := k * 9 + 8) (by omega)
      have z := hrow1.frozen
      have key : ∀ W', W' = setL w1 w.heap.size (k * 9) [.int .i64 g1, .int .i64 g2, .int .i64 g3, .bool g4, .bool g5, .int .i64 k1, .int .i64 m1, .string s1, .slice ua ul uc] → SegsTo w.heap.size gs (k + 1) w W' ∧ GsO n w.heap.size gs (k + 1) W' := fun W' e => by
        rw [e]
        obtain ⟨s1, s2, s3, s4, s5⟩ := setL_facts [.int .i64 g1, .int .i64 g2, .int .i64 g3, .bool g4, .bool g5, .int .i64 k1, .int .i64 m1, .string s1, .slice ua ul uc] hrow1 (o := k * 9) (by simp; omega)
        refine ⟨?_, (unhide HGO).next hrow.lt hlt hb1 s4 (by rw [s5]; exact Nat.le_refl _) (fun o ho => setL_low _ ho) (s2 8 (by simp)) (by rw [unhide HGK]; exact hown)⟩
        exact (unhide HTO).next hlt hb1 rfl ⟨_, _, _, _, by rw [unhide HGK], by rw [unhide HGK]; exact i1, by rw [unhide HGK]; exact i2, by rw [unhide HGK]; exact i3, by rw [unhide HGK]; exact hT⟩
      have KEY := hide key
      clear e0 e1 e2 e3 e4 e5 e6 e7 e8 hT hown hb1 key hrow1 hb
      go_wp2_with fail
      go_roundw
      case rel => exact ⟨k + 1, hlt, by go_num, (unhide KEY _ rfl).1, (unhide KEY _ rfl).2⟩
      case measure => simp [intOf]; omega
    · have hkk : k = gs.length := by omega
      subst hkk
      obtain ⟨hb, hrow, hall⟩ := hto
      have hlt2 := hrow.lt
      go_wp2_with fail
      go_ret
      refine ⟨_, rfl, ⟨_, _, rfl, Nat.le_refl _, by omega, fun i hi => ?_⟩, ?_, hb⟩
      rotate_left
      · refine ⟨_, _, rfl, ?_⟩
        obtain ⟨arr, ha, has⟩ := hrow
        obtain ⟨bs, b0, hm, hbk, hko⟩ := unhide HGO
        refine .inr ⟨_, arr, bs, rfl, ha, Nat.le_refl _, b0, hm, hbk, by omega, fun i hi => ?_⟩
        obtain ⟨v3, e3, ho⟩ := hko i hi hi
        exact ⟨v3, (cell_of_heap ha _).symm.trans e3, ho⟩
      obtain ⟨ds, e1, e2, e3⟩ := hall i hi hi
      exact ⟨_, 0, ds, rfl, ⟨Nat.le_refl _, hlt2⟩, e1, fun j hj => by rw [Nat.zero_add]; exact e2 j hj, e3.mono fun b hb => ⟨by have := hb.1; omega, hb.2⟩⟩

end Go.Proofs.YtgkckkaegkdioaaDoor
/- The laws' markSegS: it writes into the segments' own rows alone. -/
namespace Go.Proofs.YtgkckkaegkdioaaDoor
open Go.RowKit Go.Deep

def mkG {n : Nat} (gs : List (SgT (n + 1))) : Nat := (gs.map fun g => 8 + 3 * sizS (kidsOf g.2.2.2.2.2)).sum
theorem mkG_take {n : Nat} (gs : List (SgT (n + 1))) (k : Nat) (h : k < gs.length) : mkG (gs.take (k + 1)) = mkG (gs.take k) + (8 + 3 * sizS (kidsOf gs[k].2.2.2.2.2)) := by
  unfold mkG; rw [List.take_succ_eq_append_getElem h, List.map_append, List.sum_append]; simp only [List.map_cons, List.map_nil, List.sum_cons, List.sum_nil, Nat.add_zero]
theorem mkG_le {n : Nat} (gs : List (SgT (n + 1))) (k : Nat) : mkG (gs.take k) ≤ mkG gs := by
  have : mkG gs = mkG (gs.take k) + mkG (gs.drop k) := by unfold mkG; rw [← List.sum_append, ← List.map_append, List.take_append_drop]
  omega

theorem setL_other {B o' : Nat} : ∀ (ds : List Value) {w : World} {o : Nat}, o' < o ∨ o + ds.length ≤ o' → (setL w B o ds).cell? ⟨B, o', none⟩ = w.cell? ⟨B, o', none⟩
  | [], _, _, _ => rfl
  | d :: ds, w, o, h => by
    rw [List.length_cons] at h
    exact (setL_other ds (w := w.setCell ⟨B, o, none⟩ d) (by omega)).trans (World.cell?_setCell_other _ _ _ _ (by intro e; cases e; omega))
/-- Cells of element i stored, its last one left as it was. -/
theorem elem_set {R i o : Nat} {w : World} {cr : Array Value} {e : TypeId} (h : w.heap[R]? = some (.cells cr e (0, 0))) (K : Nat) (hK : (i + 1) * K ≤ cr.size) (ds : List Value) (h1 : i * K ≤ o) (h2 : o + ds.length < (i + 1) * K) :
    ∃ c2, (setL w R o ds).heap[R]? = some (.cells c2 e (0, 0)) ∧ c2.size = cr.size ∧ (∀ j, c2[j * K + (K - 1)]? = cr[j * K + (K - 1)]?) ∧ (∀ b, b ≠ R → (setL w R o ds).heap[b]? = w.heap[b]?) ∧ (setL w R o ds).heap.size = w.heap.size ∧ (setL w R o ds).os = w.os ∧ (setL w R o ds).tape = w.tape ∧ (setL w R o ds).output = w.output := by
  obtain ⟨⟨arr, ha, hs⟩, _, hb, hne, hsz⟩ := setL_facts (e := e) ds (w := w) (B := R) (N := cr.size) (o := o) ⟨cr, h, rfl⟩ (by omega)
  refine ⟨arr, ha, hs, fun j => ?_, hne, hsz, hb.os, hb.tape, hb.output⟩
  have h3 := setL_other (B := R) (o' := j * K + (K - 1)) ds (w := w) (o := o) (by
    have hk0 : 0 < K := by
      rcases Nat.eq_zero_or_pos K with h | h
      · subst h; simp at h2
      · exact h
    rcases Nat.lt_or_ge j i with hj | hj
    · have := Nat.mul_le_mul_right K (show j + 1 ≤ i by omega)
      rw [Nat.succ_mul] at this; omega
    · have := Nat.mul_le_mul_right K hj
      rw [Nat.succ_mul] at h2; omega)
  rw [cell_of_heap ha, cell_of_heap h] at h3
  exact h3

set_option maxRecDepth 40000 in
set_option maxHeartbeats 4000000 in
theorem markG_any {n : Nat} (gs : List (SgT (n + 1))) (v : Value) (lo hi k : Nat) (w : World) (hO : OwnG w n lo hi gs v) (hhi : hi ≤ w.heap.size) (hk : k + mkG gs ≤ 100000000) :
    Calls Tryd.prog 12 #[v, .int .i64 k] w fun e w' => e = .returned (.int .i64 ((k + mkG gs : Nat) : Int)) ∧ Out lo hi w w' := by
  obtain ⟨a, cap, rfl, h⟩ := hO
  by_cases hn : gs = []
  · subst hn
    go_enter Tryd.func12, Tryd.ntmps12
    go_wp2_with fail
    go_loopw [1, 5] (fun kv iv wr => kv = .int .i64 k ∧ iv = .int .i64 0 ∧ wr = w) (fun _ _ _ => 0)
    case atStart => exact ⟨rfl, rfl, rfl⟩
    case round =>
      obtain ⟨rfl, rfl, rfl⟩ := hrel
      go_wp2_with fail
      go_ret
      exact ⟨by simp [mkG], Out.refl _ _ _⟩
  rcases h with h | ⟨R, cs, bs, rfl, hR, hlo, hb0, hmono, hbh, hcs, hkid⟩
  · exact absurd h hn
  have HK := hide hkid
  have HM := hide hmono
  have hRw : R < w.heap.size := (Array.getElem?_eq_some_iff.1 hR).1
  have hgl : gs.length ≤ 100000000 := by
    have h8 : ∀ l : List (SgT (n + 1)), l.length ≤ mkG l := by
      intro l
      induction l with
      | nil => exact Nat.le_refl _
      | cons g l ih => have : mkG (g :: l) = (8 + 3 * sizS (kidsOf g.2.2.2.2.2)) + mkG l := by simp [mkG]
                       rw [this, List.length_cons]; omega
    have := h8 gs
    omega
  clear hkid hmono
  go_enter Tryd.func12, Tryd.ntmps12
  go_wp2_with fail
  go_loopw [1, 5] (fun kv iv wr => ∃ (i : Nat) (cr : Array Value), i ≤ gs.length ∧ iv = .int .i64 i ∧ kv = .int .i64 ((k + mkG (gs.take i) : Nat) : Int) ∧ wr.heap[R]? = some (.cells cr 50 (0, 0)) ∧ cr.size = cs.size ∧ (∀ j, cr[j * 9 + 8]? = cs[j * 9 + 8]?) ∧
      Out R (bs i) w wr ∧ (∀ b, b < w.heap.size → b ≠ R → b < bs 0 ∨ bs i ≤ b → wr.heap[b]? = w.heap[b]?)) (fun _ iv _ => gs.length - (intOf iv).toNat)
  case atStart => exact ⟨0, cs, Nat.zero_le _, rfl, by simp [mkG], hR, rfl, fun _ => rfl, Out.refl _ _ _, fun _ _ _ _ => rfl⟩
  case round =>
    obtain ⟨i, cr, hil, rfl, rfl, hRr, hcr, hc3, hout, hblk⟩ := hrel
    by_cases hlt : i < gs.length
    · obtain ⟨v3, e3, ho3⟩ := unhide HK i hlt
      obtain ⟨a3, cap3, hv3⟩ := ho3.form
      have hsz := mkG_take gs i hlt
      have hsl := mkG_le gs (i + 1)
      obtain ⟨K, hKd⟩ : ∃ K, K = k + mkG (gs.take i) := ⟨_, rfl⟩
      rw [← hKd]
      have hm9 : (i + 1) * 9 ≤ gs.length * 9 := Nat.mul_le_mul_right 9 hlt
      have p := cell_of_heap hRr
      have p0 := p (i * 9)
      have p1 := p (i * 9 + 1)
      have p2 := p (i * 9 + 2)
      have p3 := p (i * 9 + 3)
      have p4 := p (i * 9 + 4)
      have p5 := p (i * 9 + 5)
      have p6 := p (i * 9 + 6)
      rw [Array.getElem?_eq_getElem (by omega)] at p0 p1 p2 p3 p4 p5 p6
      have q := frozen_of_heap hRr
      have q0 := q (i * 9)
      have q1 := q (i * 9 + 1)
      have q2 := q (i * 9 + 2)
      have q3 := q (i * 9 + 3)
      have q4 := q (i * 9 + 4)
      have q5 := q (i * 9 + 5)
      have q6 := q (i * 9 + 6)
      have hRs := (Array.getElem?_eq_some_iff.1 hRr).1
      have hb0i := unhide HM 0 i (Nat.zero_le _)
      have hbi1 := unhide HM i (i + 1) (by omega)
      have hbil := unhide HM (i + 1) gs.length hlt
      have hKn : ¬ (K : Int) < 0 := by omega
      have hK : K + 8 + 3 * sizS (kidsOf gs[i].2.2.2.2.2) ≤ 100000000 := by omega
      have HVAL := hide (show ((K + 8 + 3 * sizS (kidsOf gs[i].2.2.2.2.2) : Nat) : Int) = ((k + mkG (gs.take (i + 1)) : Nat) : Int) by rw [hsz, hKd]; omega)
      have HKD := hide hKd
      have HR := hide hRr
      have HOUT := hide hout
      have HBLK := hide hblk
      have HC3 := hide hc3
      have HO3 := hide ho3
      have HV3 := hide hv3
      have HE3 := hide e3
      clear hRr hout hblk hc3 hKd hsz hsl ho3 hv3 e3 p q
      go_wp2_with fail
      rw [show (K : Int) + 1 + 1 + 1 + 1 + 1 + 1 + 1 = ((K + 7 : Nat) : Int) by omega]
      obtain ⟨B3, hB3⟩ : ∃ x : Bool, x = (((K : Int) + 1 + 1 + 1) % 3 == 0) := ⟨_, rfl⟩
      obtain ⟨B4, hB4⟩ : ∃ x : Bool, x = (((K : Int) + 1 + 1 + 1 + 1) % 3 == 0) := ⟨_, rfl⟩
      rw [← hB3, ← hB4]
      obtain ⟨w2, hw2⟩ : ∃ w2, w2 = (((((((wr.setCell ⟨R, i * 9, none⟩ (.int .i64 K)).setCell ⟨R, i * 9 + 1, none⟩ (.int .i64 ((K : Int) + 1))).setCell ⟨R, i * 9 + 2, none⟩ (.int .i64 ((K : Int) + 1 + 1))).setCell ⟨R, i * 9 + 3, none⟩ (.bool B3)).setCell ⟨R, i * 9 + 4, none⟩ (.bool B4)).setCell ⟨R, i * 9 + 5, none⟩
        (.int .i64 ((K : Int) + 1 + 1 + 1 + 1 + 1))).setCell ⟨R, i * 9 + 5 + 1, none⟩ (.int .i64 ((K : Int) + 1 + 1 + 1 + 1 + 1 + 1))) := ⟨_, rfl⟩
      rw [← hw2]
      have hw2' : w2 = setL wr R (i * 9) [.int .i64 K, .int .i64 ((K : Int) + 1), .int .i64 ((K : Int) + 1 + 1), .bool B3, .bool B4, .int .i64 ((K : Int) + 1 + 1 + 1 + 1 + 1), .int .i64 ((K : Int) + 1 + 1 + 1 + 1 + 1 + 1)] := hw2
      obtain ⟨c2, hR2, hsz2, h82, hn2, hs2, os2, ta2, ou2⟩ := elem_set (unhide HR) (i := i) (o := i * 9) 9 (by omega) [.int .i64 K, .int .i64 ((K : Int) + 1), .int .i64 ((K : Int) + 1 + 1), .bool B3, .bool B4, .int .i64 ((K : Int) + 1 + 1 + 1 + 1 + 1), .int .i64 ((K : Int) + 1 + 1 + 1 + 1 + 1 + 1)] (Nat.le_refl _) (by simp; omega)
      rw [← hw2'] at hR2 hn2 hs2 os2 ta2 ou2
      have ho2 : Out R (bs (i + 1)) w w2 := ((unhide HOUT).wide (Nat.le_refl _) hbi1).trans ⟨os2, ta2, ou2, by omega, fun b _ h => hn2 b (by omega)⟩
      clear hw2 hw2' p0 p1 p2 p3 p4 p5 p6 q0 q1 q2 q3 q4 q5 q6 hB3 hB4
      refine (mtext_any (K + 7) w2 (by omega)).mono ?_
      rintro e w3 ⟨rfl, hb3⟩
      have hR3 := (hb3.block R (by omega)).trans hR2
      obtain ⟨x7, p7⟩ := Row.cell (⟨c2, hR3, rfl⟩ : Row R 50 c2.size w3) (o := i * 9 + 5 + 2) (by omega)
      have p8 := cell_of_heap hR3 (i * 9 + 5 + 3)
      rw [show i * 9 + 5 + 3 = i * 9 + (9 - 1) by omega, h82, unhide HC3, unhide HE3, unhide HV3, show i * 9 + (9 - 1) = i * 9 + 5 + 3 by omega] at p8
      have q7 := frozen_of_heap hR3 (i * 9 + 5 + 2)
      obtain ⟨T, hT⟩ : ∃ T, T = mtext (K + 7) := ⟨_, rfl⟩
      rw [← hT]
      obtain ⟨w4, hw4⟩ : ∃ w4, w4 = w3.setCell ⟨R, i * 9 + 5 + 2, none⟩ (.string T) := ⟨_, rfl⟩
      obtain ⟨c4, hR4, hsz4, h84, hn4', hs4, os4, ta4, ou4⟩ := elem_set hR3 (i := i) (o := i * 9 + 5 + 2) 9 (by omega) [.string T] (by omega) (by simp; omega)
      have hw4' : w4 = setL w3 R (i * 9 + 5 + 2) [.string T] := hw4
      rw [← hw4'] at hR4 hn4' hs4 os4 ta4 ou4
      have hn4 : ∀ b, b < wr.heap.size → b ≠ R → w4.heap[b]? = wr.heap[b]? := fun b hb hne => (hn4' b hne).trans ((hb3.block b (by omega)).trans (hn2 b hne))
      have hbs3 := hb3.size
      have hos := (unhide HOUT).size
      have ho4 : Out R (bs (i + 1)) w w4 := (ho2.trans (Out.below hb3)).trans ⟨os4, ta4, ou4, by omega, fun b _ h => hn4' b (by omega)⟩
      have how4 : OwnS w4 n (bs i) (bs (i + 1)) (kidsOf gs[i].2.2.2.2.2) v3 := (unhide HO3).keep fun b h1 h2 => (hn4 b (by omega) (by omega)).trans (unhide HBLK b (by omega) (by omega) (.inr h1))
      have hcall := hide (mark_any n (kidsOf gs[i].2.2.2.2.2) v3 (bs i) (bs (i + 1)) (K + 8) w4 how4 (by omega) hK)
      rw [unhide HV3] at hcall
      have HW4 := hide hw4
      have HR4 := hide hR4
      have HN4 := hide hn4
      have HO4 := hide ho4
      have HS4 := hide (show wr.heap.size ≤ w4.heap.size by omega)
      have H8 := hide (show ∀ j, c4[j * 9 + 8]? = cs[j * 9 + 8]? from fun j => ((h84 j).trans (h82 j)).trans (unhide HC3 j))
      have HSZ := hide (show c4.size = cs.size by omega)
      clear hw4 hw4' hR4 hn4 hn4' ho4 how4 hT hR3 hb3 ho2 hn2 hs2 hR2 hbs3 hos hs4 h82 h84 hsz2 hsz4 os2 ta2 ou2 os4 ta4 ou4
      go_wp2_with fail
      rw [← unhide HW4, show (K : Int) + 7 + 1 = ((K + 8 : Nat) : Int) by omega]
      refine (unhide hcall).mono ?_
      rintro e w5 ⟨rfl, ho5, _⟩
      rw [unhide HVAL]
      have HO5 := hide ho5
      obtain ⟨Z, hZ⟩ : ∃ Z : Int, Z = ((k + mkG (gs.take (i + 1)) : Nat) : Int) := ⟨_, rfl⟩
      rw [← hZ]
      have HZ := hide hZ
      clear ho5 p7 p8 q7 hcall hZ
      go_wp2_with fail
      go_roundw
      case rel =>
        have hsl4 := unhide HS4
        have hout := unhide HOUT
        have ho5 := unhide HO5
        have hR4 := unhide HR4
        have hRs4 := (Array.getElem?_eq_some_iff.1 hR4).1
        refine ⟨i + 1, c4, hlt, by go_num, by rw [unhide HZ], (ho5.block R hRs4 (.inl (by omega))).trans hR4, unhide HSZ, unhide H8, (unhide HO4).trans (ho5.wide (by omega) (Nat.le_refl _)), fun b h1 h2 h3 => ?_⟩
        have hw := hout.size
        rw [ho5.block b (by omega) (by omega), unhide HN4 b (by omega) h2]
        exact unhide HBLK b h1 h2 (by omega)
      case measure => simp [intOf]; omega
    · have hkk : i = gs.length := by omega
      subst hkk
      have HOUT := hide hout
      clear hRr hout hblk hc3
      go_wp2_with fail
      go_ret
      have hRb := unhide HM 0 gs.length (Nat.zero_le _)
      exact ⟨by simp, (unhide HOUT).wide hlo hbh⟩

end Go.Proofs.YtgkckkaegkdioaaDoor
/- The laws' heldTermS: marks that stand still. -/
namespace Go.Proofs.YtgkckkaegkdioaaDoor
open Go.RowKit Go.Deep

theorem MkdS.form {w : World} : ∀ {n lo hi : Nat} {ks : List (Tm n)} {v : Value} {k : Nat}, MkdS w n lo hi ks v k → ∃ a cap, v = .slice a ks.length cap
  | 0, _, _, _, _, _, h => h
  | _ + 1, _, _, _, _, _, ⟨a, cap, h, _⟩ => ⟨a, cap, h⟩

def HeldSaid (n : Nat) : Prop := ∀ (ks : List (Tm n)) (v : Value) (lo hi k : Nat) (w : World), MkdS w n lo hi ks v k → hi ≤ w.heap.size → k + 3 * sizS ks ≤ 100000000 →
  Calls Tryd.prog 14 #[v, .int .i64 k] w fun e w' => e = .returned (.int .i64 ((k + 3 * sizS ks : Nat) : Int)) ∧ Below w.heap.size w w'

set_option maxRecDepth 40000 in
set_option maxHeartbeats 1000000 in
theorem held_nil (a : Option Addr) (cap k : Nat) (w : World) : Calls Tryd.prog 14 #[.slice a 0 cap, .int .i64 k] w fun e w' => e = .returned (.int .i64 k) ∧ w' = w := by
  go_enter Tryd.func14, Tryd.ntmps14
  go_wp2_with fail
  go_loopw [1, 5] (fun kv iv wr => kv = .int .i64 k ∧ iv = .int .i64 0 ∧ wr = w) (fun _ _ _ => 0)
  case atStart => exact ⟨rfl, rfl, rfl⟩
  case round =>
    obtain ⟨rfl, rfl, rfl⟩ := hrel
    go_wp2_with fail
    go_ret
    exact ⟨rfl, rfl⟩

set_option maxRecDepth 40000 in
set_option maxHeartbeats 2000000 in
theorem held_of {n : Nat} (ih : HeldSaid n) : HeldSaid (n + 1) := by
  rintro ks v lo hi k w ⟨a, cap, rfl, h⟩ hhi hk
  by_cases hn : ks = []
  · subst hn
    refine (held_nil a cap k w).mono ?_
    rintro e w' ⟨rfl, rfl⟩
    exact ⟨by simp [sizS], Below.refl _ _⟩
  rcases h with h | ⟨R, rfl, hlo, hRh, hkid⟩
  · exact absurd h hn
  have hlen := len_siz ks
  have HK := hide hkid
  have hRw : R < w.heap.size := by omega
  clear hkid
  go_enter Tryd.func14, Tryd.ntmps14
  go_wp2_with fail
  go_loopw [1, 5] (fun kv iv wr => ∃ i : Nat, i ≤ ks.length ∧ iv = .int .i64 i ∧ kv = .int .i64 ((k + 3 * sizS (ks.take i) : Nat) : Int) ∧ Below w.heap.size w wr) (fun _ iv _ => ks.length - (intOf iv).toNat)
  case atStart => exact ⟨0, Nat.zero_le _, rfl, by simp [sizS], Below.refl _ _⟩
  case round =>
    obtain ⟨i, hil, rfl, rfl, hb⟩ := hrel
    by_cases hlt : i < ks.length
    · obtain ⟨v3, e0, e1, e2, e3, hm3⟩ := unhide HK i hlt
      obtain ⟨a3, cap3, rfl⟩ := hm3.form
      have hsz := sizS_take ks i hlt
      rw [siz_kids] at hsz
      have hsl := sizS_le ks (i + 1)
      obtain ⟨K, hKd⟩ : ∃ K, K = k + 3 * sizS (ks.take i) := ⟨_, rfl⟩
      rw [← hKd] at e0 e1 e2 hm3 ⊢
      have hK : K + 3 + 3 * sizS (kidsOf ks[i]) ≤ 100000000 := by omega
      have HVAL := hide (show ((K + 3 + 3 * sizS (kidsOf ks[i]) : Nat) : Int) = ((k + 3 * sizS (ks.take (i + 1)) : Nat) : Int) by rw [hsz, hKd]; omega)
      rw [show ((K + 1 : Nat) : Int) = (K : Int) + 1 by omega] at e1
      obtain ⟨T, hT⟩ : ∃ T, T = mtext (K + 2) := ⟨_, rfl⟩
      rw [← hT] at e2
      have hmt : ∀ w, Calls Tryd.prog 31 #[.int .i64 ((K : Int) + 1 + 1)] w fun e w' => e = .returned (.string T) ∧ Below w.heap.size w w' := fun w => by
        have := mtext_any (K + 2) w (by omega)
        rw [show ((K + 2 : Nat) : Int) = (K : Int) + 1 + 1 by omega, ← hT] at this
        exact this
      have HMT := hide hmt
      have p0 := (bcell hb R (i * 4) hRw).trans e0
      have p1 := (bcell hb R (i * 4 + 1) hRw).trans e1
      have F2 : ∀ x : LaterW w.heap.size wr, x.wd.cell? ⟨R, i * 4 + 2, none⟩ = some (.string T) := fun x => ((bcell (hb.trans x.be)) R _ hRw).trans e2
      have HB := hide hb
      have HM3 := hide hm3
      have HE3 := hide e3
      clear hKd hsz hsl hT hmt e0 e1 e2 e3 hb hm3
      go_wp2_with fail
      haveI hne : Nonempty (LaterW w.heap.size wr) := ⟨⟨wr, Below.refl _ _⟩⟩
      refine wp_region_later w.heap.size (by kernel_rfl) (by kernel_rfl) ?_
      repeat (go_big_quiet_step ((go_at_call 31; rename_i x; exact Calls.later (v := .string T) (unhide HB).size (unhide HMT x.wd))))
      refine wpQuiet_nil ?_
      rintro wq ⟨⟨_, hq⟩, rfl⟩
      have hb2 := (unhide HB).trans hq
      have p3 := (bcell hb2 R (i * 4 + 3) hRw).trans (unhide HE3)
      have hcall := hide (ih (kidsOf ks[i]) _ lo hi (K + 3) wq ((unhide HM3).keep (fun b _ h2 => hb2.block b (by omega)) (Nat.le_refl _) (Nat.le_refl _)) (by have := hb2.size; omega) hK)
      have HB2 := hide hb2
      clear hb2 p0 p1 F2 hq HB
      go_wp2_with fail
      rw [show (K : Int) + 1 + 1 + 1 = ((K + 3 : Nat) : Int) by omega]
      refine (unhide hcall).mono ?_
      rintro e w5 ⟨rfl, hb5⟩
      rw [unhide HVAL]
      obtain ⟨Z, hZ⟩ : ∃ Z : Int, Z = ((k + 3 * sizS (ks.take (i + 1)) : Nat) : Int) := ⟨_, rfl⟩
      rw [← hZ]
      have hZ0 : ¬ Z < 0 := by omega
      have HZ := hide hZ
      have HB5 := hide ((unhide HB2).trans (hb5.mono (unhide HB2).size))
      clear hb5 p3 hcall hZ
      go_wp2_with fail
      go_roundw
      case rel => exact ⟨i + 1, hlt, by go_num, by rw [unhide HZ], unhide HB5⟩
      case measure => simp [intOf]; omega
    · have hkk : i = ks.length := by omega
      subst hkk
      have HB := hide hb
      clear hb
      go_wp2_with fail
      go_ret
      exact ⟨by simp, unhide HB⟩

theorem held_any : ∀ n, HeldSaid n
  | 0 => fun ks v lo hi k w h _ _ => by
    obtain ⟨a, cap, rfl⟩ := h
    have hn : ks = [] := by
      cases ks with
      | nil => rfl
      | cons t _ => exact t.elim
    subst hn
    refine (held_nil a cap k w).mono ?_
    rintro e w' ⟨rfl, rfl⟩
    exact ⟨by simp [sizS], Below.refl _ _⟩
  | n + 1 => held_of (held_any n)

end Go.Proofs.YtgkckkaegkdioaaDoor
/- eqSeg, eqSegS where both are the same segments. -/
namespace Go.Proofs.YtgkckkaegkdioaaDoor
open Go.RowKit

set_option maxRecDepth 40000 in
set_option maxHeartbeats 2000000 in
theorem eqSeg_any {n : Nat} (g1 g2 g3 : Int) (g4 g5 : Bool) (t : Tm n) (c0 c1 c2 c3 d0 d1 d2 d3 : Value) (w : World) (ht : TAt (Under w.heap.size) w n t c0 c1 c2 c3) (hu : TAt (Under w.heap.size) w n t d0 d1 d2 d3) :
    Calls Tryd.prog 30 #[.agg #[.int .i64 g1, .int .i64 g2, .int .i64 g3, .bool g4, .bool g5, c0, c1, c2, c3], .agg #[.int .i64 g1, .int .i64 g2, .int .i64 g3, .bool g4, .bool g5, d0, d1, d2, d3]] w fun e w' => e = .returned (.bool true) ∧ Below w.heap.size w w' := by
  obtain ⟨k0, m0, s0, a0, l0, q0, rfl, rfl, rfl, rfl⟩ := ht.shape
  obtain ⟨k1, m1, s1, a1, l1, q1, rfl, rfl, rfl, rfl⟩ := hu.shape
  have HE := hide (fun w' (hb : Below w.heap.size w w') => eq_any n t _ _ _ _ _ _ _ _ w' (ht.up hb) (hu.up hb))
  have e1 : (g1 != g1) = false := by simp
  have e2 : (g2 != g2) = false := by simp
  have e3 : (g3 != g3) = false := by simp
  have e4 : (g4 != g4) = false := by simp
  have e5 : (g5 != g5) = false := by simp
  clear ht hu
  go_enter Tryd.func30, Tryd.ntmps30
  go_wp2_with fail
  refine ((unhide HE) _ (below_two _ _ _)).mono ?_
  rintro e w' ⟨rfl, hb2⟩
  go_wp2_with fail
  go_ret
  exact ⟨rfl, (below_two _ _ _).trans (hb2.mono (by simp; omega))⟩

set_option maxRecDepth 40000 in
set_option maxHeartbeats 2000000 in
theorem eqSegS_any {n : Nat} (gs : List (SgT n)) (u v : Value) (w : World) (hu : SgsAt (Under w.heap.size) w n gs u) (hv : SgsAt (Under w.heap.size) w n gs v) :
    Calls Tryd.prog 11 #[u, v] w fun e w' => e = .returned (.bool true) ∧ Below w.heap.size w w' := by
  obtain ⟨a, cap, rfl, hcap⟩ : ∃ a cap, u = .slice a gs.length cap ∧ gs.length ≤ 2 ^ 47 := by obtain ⟨a, cap, h, _, h2, _⟩ := hu; exact ⟨a, cap, h, h2⟩
  obtain ⟨a', cap', rfl⟩ : ∃ a cap, v = .slice a gs.length cap := by obtain ⟨a, cap, h, _⟩ := hv; exact ⟨a, cap, h⟩
  have hl1 : ((gs.length : Int) != (gs.length : Int)) = false := by simp
  go_enter Tryd.func11, Tryd.ntmps11
  go_wp2_with fail
  go_loopw [5] (fun iv wr => ∃ k : Nat, k ≤ gs.length ∧ iv = .int .i64 k ∧ Below w.heap.size w wr) (fun iv _ => gs.length - (intOf iv).toNat)
  case atStart => exact ⟨0, by omega, rfl, Below.refl _ _⟩
  case round =>
    obtain ⟨k, hk, rfl, hb⟩ := hrel
    by_cases hlt : k < gs.length
    · have hcu := fun x : LaterW w.heap.size wr => (hu.up (hb.trans x.be)).at k hlt
      have hcv := fun x : LaterW w.heap.size wr => (hv.up (hb.trans x.be)).at k hlt
      obtain ⟨b, off, k1, m1, s1, u1, rfl, hS, e0, e1, e2, e3, e4, e5, e6, e7, e8, i1, i2, i3, ht⟩ := hu.at k hlt
      obtain ⟨b', off', k1', m1', s1', u1', rfl, hS', e0', e1', e2', e3', e4', e5', e6', e7', e8', _, _, _, ht'⟩ := hv.at k hlt
      generalize gs[k] = g at e0 e1 e2 e3 e4 ht i1 i2 i3 e0' e1' e2' e3' e4' ht'
      obtain ⟨g1, g2, g3, g4, g5, t⟩ := g
      dsimp only at e0 e1 e2 e3 e4 ht i1 i2 i3 e0' e1' e2' e3' e4' ht'
      have cc := fun (x : LaterW w.heap.size wr) (b o : Nat) (hS : Under w.heap.size b) => (bcell (hb.trans x.be)) b o hS
      have F0 := fun x => (cc x b _ hS).trans e0
      have F1 := fun x => (cc x b _ hS).trans e1
      have F2 := fun x => (cc x b _ hS).trans e2
      have F3 := fun x => (cc x b _ hS).trans e3
      have F4 := fun x => (cc x b _ hS).trans e4
      have F5 := fun x => (cc x b _ hS).trans e5
      have F6 := fun x => (cc x b _ hS).trans e6
      have F7 := fun x => (cc x b _ hS).trans e7
      have F8 := fun x => (cc x b _ hS).trans e8
      have G0 := fun x => (cc x b' _ hS').trans e0'
      have G1 := fun x => (cc x b' _ hS').trans e1'
      have G2 := fun x => (cc x b' _ hS').trans e2'
      have G3 := fun x => (cc x b' _ hS').trans e3'
      have G4 := fun x => (cc x b' _ hS').trans e4'
      have G5 := fun x => (cc x b' _ hS').trans e5'
      have G6 := fun x => (cc x b' _ hS').trans e6'
      have G7 := fun x => (cc x b' _ hS').trans e7'
      have G8 := fun x => (cc x b' _ hS').trans e8'
      clear e0 e1 e2 e3 e4 e5 e6 e7 e8 e0' e1' e2' e3' e4' e5' e6' e7' e8' hcu hcv cc
      go_wp2_with fail
      haveI hne : Nonempty (LaterW w.heap.size wr) := ⟨⟨wr, Below.refl _ _⟩⟩
      refine wp_region_later w.heap.size (by kernel_rfl) (by kernel_rfl) ?_
      repeat (go_big_quiet_step ((go_at_call 30; rename_i x; refine Calls.later (v := .bool true) hb.size (eqSeg_any g1 g2 g3 g4 g5 t _ _ _ _ _ _ _ _ _ (ht.up (hb.trans x.be)) (ht'.up (hb.trans x.be))))))
      refine wpQuiet_nil ?_
      rintro _ ⟨⟨wq, hq⟩, rfl⟩
      go_wp2_with fail
      go_roundw
      case rel => exact ⟨k + 1, hlt, by go_num, hb.trans hq⟩
      case measure => simp [intOf]; omega
    · go_wp2_with fail
      go_ret
      exact ⟨rfl, hb⟩

end Go.Proofs.YtgkckkaegkdioaaDoor
/- eqBits. -/
namespace Go.Proofs.YtgkckkaegkdioaaDoor
open Go.RowKit Go.Deep

/-- What szBits hands back: what is left, or -1. -/
def leftB (s : ByteArray) (l : Int) : Int := if (s.size : Int) ≤ l then l - s.size else -1

end Go.Proofs.YtgkckkaegkdioaaDoor
