/- The law of bits and back: its own walk. -/
import Derived.Test.YtcgbonlffcpofaaGreatDoorLb0
import Derived.Test.YtcgbonlffcpofaaGreatDoorQ39
import Derived.Test.YtcgbonlffcpofaaGreatDoorQ45
import Derived.Deep.RegionWith
import Derived.Deep.DeepCutAuto
import Derived.BigQuiet
namespace Go.Proofs.YtcgbonlffcpofaaGreatDoor
open Go.RowKit Go.Deep

set_option maxRecDepth 100000 in
set_option maxHeartbeats 8000000 in
theorem lawBB_any (L : Nat) (v : Value) (w : World) (hc : CodeIn w L v) (hm : Masks 0 w) :
    Calls Tryz.prog 3 #[v] w fun e w' => e = .returned (.bool true) ∧ Below w.heap.size w w' := by
  obtain ⟨va, vc, rfl⟩ : ∃ va vc, v = .slice va L vc := by obtain ⟨a, cap, h, _⟩ := hc; exact ⟨a, cap, h⟩
  have HM := hide hm
  clear hm
  by_cases hL : 1048576 < L
  · have hb := hide (big_any va L vc w)
    have hdec : decide (1048576 < L) = true := by simpa using hL
    rw [hdec] at hb
    clear hc hL hdec
    go_enter Tryz.func3, Tryz.ntmps3
    go_wp2_with fail
    refine (unhide hb).mono ?_
    rintro e w' ⟨rfl, rfl⟩
    go_wp2_with fail
    go_ret
    exact ⟨rfl, Below.refl _ _⟩
  have hb := hide (big_any va L vc w)
  have hdec : decide (1048576 < L) = false := by simpa using hL
  rw [hdec] at hb
  obtain ⟨cb, hcd⟩ := hc.told
  have hdr := hide (fun w' (hb : Below w.heap.size w w') => dbuildD_any (L, cb) _ w' ((hcd.up hb).at (by show L ≤ 1048576; omega)))
  generalize drawnG (L, cb) = gs at hdr
  obtain ⟨c, X, hX⟩ : ∃ c X, builtX gs = (c, X) := ⟨_, _, rfl⟩
  have hans := builtA_of hX
  have HSP := hide (fun (u : Value) (w' : World) (hu : SgsAt (Under w'.heap.size) w' 2 gs u) => sBuild_any gs u w' hu)
  have HIM := hide (fun (u : Value) (w' : World) (hu : SgsAt (Under w'.heap.size) w' 2 gs u) (hM : Masks 0 w') => iBuild_any gs u w' hu hM)
  rw [hans] at HSP HIM
  have HX := hide hX
  clear hc hcd hL hdec hans hX
  go_enter Tryz.func3, Tryz.ntmps3
  go_wp2_with fail
  refine (unhide hb).mono ?_
  rintro e w' ⟨rfl, rfl⟩
  clear hb
  go_wp2_with fail
  refine ((unhide hdr) w' (Below.refl _ _)).mono ?_
  rintro e w1 ⟨u1, xs1, rfl, hr1, hlen, hb1⟩
  obtain ⟨R, cap, rfl, hcap, hR, hg1⟩ := hr1.row
  have HB1 := hide hb1
  have HG1 := hide hg1
  have HR := hide hR
  clear hb1 hr1 hg1 hR
  go_wp2_with fail
  refine ((unhide hdr) w1 (unhide HB1)).mono ?_
  rintro e w2 ⟨u2, xs2, rfl, hr2, _, hb2⟩
  obtain ⟨R2, cap2, rfl, hcap2, hR2, hg2⟩ := hr2.row
  have HG2 := hide ((unhide HG1).up hb2)
  have HB2 := hide ((unhide HB1).trans (hb2.mono (unhide HB1).size))
  have HSP2 := hide ((unhide HSP) _ w2 (hg2.sgs hcap2 (by omega)))
  clear hr2 hb2 hg2 hR2 HG1 HB1 hcap2 hdr HSP
  go_wp2_with fail
  refine (unhide HSP2).mono ?_
  rintro e w3 ⟨rfl, hb3⟩
  have HG3 := hide ((unhide HG2).up hb3)
  have HB3 := hide ((unhide HB2).trans (hb3.mono (unhide HB2).size))
  clear hb3 HG2 HB2 HSP2
  go_wp2_with fail
  obtain ⟨w4, hw4⟩ : ∃ w4, w4 = w3.alloc (.cells #[.int .i64 X.length, .string (strB X)] 27) := ⟨_, rfl⟩
  rw [← hw4]
  have hn4 : w4.heap[w3.heap.size]? = some (.cells #[.int .i64 X.length, .string (strB X)] 27 (0, 0)) := by rw [hw4]; exact heap_new _ _
  have hb4 : Below w3.heap.size w3 w4 := by rw [hw4]; exact (Below.refl _ _).alloc (Nat.le_refl _) _
  have hs4 : w4.heap.size = w3.heap.size + 1 := by rw [hw4]; simp
  have HG4 := hide ((unhide HG3).up hb4)
  have HB4 := hide ((unhide HB3).trans (hb4.mono (unhide HB3).size))
  have HRL := hide (show R < w3.heap.size from by obtain ⟨N, _, h⟩ := (unhide HG3).1; exact h.lt)
  clear hw4 hb4 HG3 HB3
  refine ((unhide HIM) _ w4 ((unhide HG4).sgs hcap (by omega)) ((unhide HM).keep (unhide HB4))).mono ?_
  rintro e w5 ⟨rfl, hb5⟩
  have hn5 := (hb5.block _ (by omega)).trans hn4
  have HG5 := hide ((unhide HG4).up hb5)
  have HB5 := hide ((unhide HB4).trans (hb5.mono (unhide HB4).size))
  have hs5 : w3.heap.size + 1 ≤ w5.heap.size := by have := hb5.size; omega
  clear hb5 hn4 HG4 HB4 hs4 HIM
  obtain ⟨w6, hw6⟩ : ∃ w6, w6 = w5.alloc (.cells #[.int .i64 X.length, .string (strB X)] 27) := ⟨_, rfl⟩
  have HW6 := hide hw6
  have hn6 : w6.heap[w5.heap.size]? = some (.cells #[.int .i64 X.length, .string (strB X)] 27 (0, 0)) := by rw [hw6]; exact heap_new _ _
  have hb6 : Below w5.heap.size w5 w6 := by rw [hw6]; exact (Below.refl _ _).alloc (Nat.le_refl _) _
  have hn5' := (hb6.block _ (by omega)).trans hn5
  have HG6 := hide ((unhide HG5).up hb6)
  have HB6 := hide ((unhide HB5).trans (hb6.mono (unhide HB5).size))
  have hs6 : w6.heap.size = w5.heap.size + 1 := by rw [hw6]; simp
  have A0 := fun o : Obj => (World.cell?_of_block (a := ⟨w3.heap.size, 0, none⟩) (Below.heap_alloc w5 o _ (Nat.lt_of_succ_le hs5))).trans (cell_of_heap hn5 0)
  have A1 := fun o : Obj => (World.cell?_of_block (a := ⟨w3.heap.size, 1, none⟩) (Below.heap_alloc w5 o _ (Nat.lt_of_succ_le hs5))).trans (cell_of_heap hn5 1)
  have hcc : (c != c) = false := by simp
  have hx1 : ((strB X).toList == (strB X).toList) = true := by simp
  have HN5 := hide hn5'
  have HN6 := hide hn6
  clear hb6 hn5 hn5' hn6 HG5 HB5 hw6
  by_cases hc0 : c = 0
  rotate_left
  · have hcn : (c != 0) = true := by simpa using hc0
    clear hc0
    go_wp2_with fail
    rw [← unhide HW6]
    go_ret
    exact ⟨rfl, unhide HB6⟩
  subst hc0
  go_wp2_with fail
  rw [← unhide HW6]
  clear A0 A1 hcc hx1
  have hgl : gs.length ≤ 201 := hlen
  go_loopw [8] (fun iv wr => ∃ i : Nat, i ≤ 202 ∧ iv = .int .i64 i ∧ wr = w6 ∧ ∀ k (h : k < gs.length), k < i → k + 1 < gs.length → 0 ≤ gs[k].2.1) (fun iv _ => 300 - (intOf iv).toNat)
  case atStart => exact ⟨0, by omega, rfl, rfl, fun k _ h => absurd h (Nat.not_lt_zero _)⟩
  case round =>
    obtain ⟨i, hi, rfl, rfl, hpos⟩ := hrel
    have hi1 : IntKind.i64.wrap ((i : Int) + 1) = (i : Int) + 1 := by rw [IntKind.wrap_i64]; omega
    by_cases hlt : i + 1 < gs.length
    · obtain ⟨k, m, s, u, ⟨c0, c1, c2, c3, c4, c5, c6, c7, c8⟩, ⟨i1, i2, i3⟩, ht, _⟩ := (unhide HG6).at i (by omega)
      have hltI : (i : Int) + 1 < (gs.length : Int) := by omega
      have hltJ : (i : Int) < (gs.length : Int) := by omega
      have HP := hide hpos
      clear hpos ht
      by_cases hneg : gs[i].2.1 < 0
      · go_wp2_with fail
        go_ret
        exact ⟨rfl, unhide HB6⟩
      · go_wp2_with fail
        go_roundw
        case rel => exact ⟨i + 1, by omega, by go_num, trivial, fun k h1 h2 h3 => by
          rcases Nat.lt_or_ge k i with h | h
          · exact unhide HP k h1 h h3
          · obtain rfl : k = i := by omega
            omega⟩
        case measure => simp [intOf]; omega
    · have hltI : ¬ (i : Int) + 1 < (gs.length : Int) := by omega
      have hpos' : ∀ k (h : k < gs.length), k + 1 < gs.length → 0 ≤ gs[k].2.1 := fun k h h1 => hpos k h (by omega) h1
      obtain ⟨hA, hBX⟩ := built_zero (unhide HX)
      have hmost := build_most gs [] X hBX (by simp)
      have hsz := strB_size X
      have HMA := hide (iMatch_any X.length (strB X) gs _ wr ((unhide HG6).sgs hcap (by omega)) ((unhide HM).keep (unhide HB6)) (by omega) 0 (leafL X 0 gs) (mat_built hA hBX hpos'))
      have HPOS := hide hpos'
      have HAX := hide (And.intro hA hBX)
      have HMOST := hide hmost
      have b0 := cell_of_heap (unhide HN6) 0
      have b1 := cell_of_heap (unhide HN6) 1
      clear hpos hpos' hA hBX hmost hsz HX
      go_wp2_with fail
      refine (unhide HMA).mono ?_
      rintro e w8 ⟨hb8, u8, rfl, hsat, _⟩
      obtain ⟨ua, ucap, rfl, hul, hul2, hel⟩ := hsat
      rw [leafL_length] at hul hul2 ⊢
      have HG8 := hide ((unhide HG6).up hb8)
      have HB8 := hide ((unhide HB6).trans (hb8.mono (unhide HB6).size))
      have HN58 := hide ((hb8.block _ (by omega)).trans (unhide HN5))
      have HN68 := hide ((hb8.block _ (by omega)).trans (unhide HN6))
      have HS8 := hide hb8.size
      have HEL := hide hel
      clear hb8 hel hul hul2 b0 b1 HMA HG6 HB6
      have hll : ((gs.length : Int) != (gs.length : Int)) = false := by simp
      go_wp2_with fail
      go_loopw [10] (fun jv wz => ∃ j : Nat, j ≤ gs.length ∧ jv = .int .i64 j ∧ GRow R (stL X gs j) wz ∧ Out R (R + 1) w8 wz) (fun jv _ => 300 - (intOf jv).toNat)
      case atStart => exact ⟨0, by omega, rfl, by rw [stL_zero]; exact unhide HG8, Out.refl _ _ _⟩
      case round =>
        obtain ⟨j, hj, rfl, hgj, hout⟩ := hrel
        have HOUT := hide hout
        have HGJ := hide hgj
        by_cases hjl : j < gs.length
        rotate_left
        · obtain rfl : j = gs.length := by omega
          rw [stL_all] at hgj
          have hbz := Out.toBelow (unhide HB8) hout (unhide HR) (unhide HB8).size
          have hRL := unhide HRL
          have hS8 := unhide HS8
          have hlenT := turnL_length (X := X) gs 0
          have hsg := hgj.sgs (cap := cap) (by omega) (by omega)
          rw [hlenT] at hsg
          have hib := iBuild_any (turnL X 0 gs) _ wr hsg ((unhide HM).keep hbz)
          rw [builtA_of (built_again (unhide HAX).1 (unhide HAX).2)] at hib
          have HIB := hide hib
          have hn5 := (hout.block w3.heap.size (by omega) (.inr (by omega))).trans (unhide HN58)
          have HN5z := hide hn5
          have HBZ := hide hbz
          have HZ3 := hide (show w3.heap.size < wr.heap.size from by have := hout.size; omega)
          have hjI : ¬ (gs.length : Int) < (gs.length : Int) := by omega
          clear hgj hout hbz hRL hS8 hlenT hsg hib hn5 HOUT HGJ
          go_wp2_with fail
          refine (unhide HIB).mono ?_
          rintro e w9 ⟨rfl, hb9⟩
          have HB9 := hide ((unhide HBZ).trans (hb9.mono (unhide HBZ).size))
          have hn9 := (hb9.block _ (unhide HZ3)).trans (unhide HN5z)
          have hs9 : w3.heap.size < w9.heap.size := Nat.lt_of_lt_of_le (unhide HZ3) hb9.size
          have A0 := fun o : Obj => (World.cell?_of_block (a := ⟨w3.heap.size, 0, none⟩) (Below.heap_alloc w9 o _ hs9)).trans (cell_of_heap hn9 0)
          have A1 := fun o : Obj => (World.cell?_of_block (a := ⟨w3.heap.size, 1, none⟩) (Below.heap_alloc w9 o _ hs9)).trans (cell_of_heap hn9 1)
          have hx1 : ((strB X).toList == (strB X).toList) = true := by simp
          have hx0 : ((X.length : Int) == (X.length : Int)) = true := by simp
          clear hb9 hn9 hs9
          go_wp2_with fail
          go_ret
          exact ⟨rfl, (unhide HB9).alloc (unhide HB9).size _⟩
        · have hjI : (j : Int) < (gs.length : Int) := by omega
          have hstl := stL_len (X := X) (gs := gs) (i := j) hj
          have he : (stL X gs j)[j]'(by omega) = gs[j] := by
            have h1 := stL_left (X := X) (gs := gs) (i := j) (k := j) hj (Nat.le_refl _)
            rw [List.getElem?_eq_getElem (by omega), List.getElem?_eq_getElem hjl] at h1
            injection h1
          obtain ⟨k, m, s, u, hcells, hin, ht, hfz⟩ := hgj.at j (by omega)
          rw [he] at hcells hin ht
          obtain ⟨q, off, d0, d1, d2, d3, rfl, hSq, e0, e1, e2, e3, htl⟩ := unhide HEL j (by rw [leafL_length]; omega)
          have hleaf : (leafL X 0 gs)[j]'(by rw [leafL_length]; omega) = leafM (strB X) (offs gs j) (widG gs[j]) gs[j] := by
            have h1 := leafL_at (X := X) gs 0 j hjl
            rw [List.getElem?_eq_getElem (by rw [leafL_length]; omega), Nat.zero_add] at h1
            injection h1
          rw [hleaf] at htl
          have hsgok := sg_facts ((all_sg (unhide HAX).1).2.1 _ (List.getElem_mem hjl))
          have hmb := mul_bounds hsgok.2.2.1 hsgok.2.2.2.1 hsgok.1 hsgok.2.1
          have hfi := fact_int (unhide HAX).1 (unhide HAX).2 hjl
          have hfb := fact_bin (unhide HAX).1 (unhide HAX).2 hjl
          have hfw := fact_wid (unhide HAX).1 (unhide HAX).2 hjl
          have hnext := stL_next (X := X) hjl
          have hpj := unhide HPOS j hjl
          have hmem := (all_sg (unhide HAX).1).2.2 _ (List.getElem_mem hjl)
          generalize gs[j] = g at hcells hin ht htl hleaf he hsgok hmb hfi hfb hfw hnext hmem hpj
          obtain ⟨c0, c1, c2, c3, c4, c5, c6, c7, c8⟩ := hcells
          have hqR : q ≠ R := by have := hSq.1; have := unhide HRL; omega
          have hoq : ∀ b, b ≠ R → b < w8.heap.size → wr.heap[b]? = w8.heap[b]? := fun b hb hlt => hout.block b hlt (by omega)
          obtain ⟨k1, m1, s1, xa, xl, xc, rfl, rfl, rfl, rfl⟩ := htl.shape
          have E0 := (World.cell?_of_block (a := ⟨q, off + j * 4, none⟩) (hoq q hqR hSq.2)).trans e0
          have E1 := (World.cell?_of_block (a := ⟨q, off + j * 4 + 1, none⟩) (hoq q hqR hSq.2)).trans e1
          have E2 := (World.cell?_of_block (a := ⟨q, off + j * 4 + 2, none⟩) (hoq q hqR hSq.2)).trans e2
          have E3 := (World.cell?_of_block (a := ⟨q, off + j * 4 + 3, none⟩) (hoq q hqR hSq.2)).trans e3
          have hlf : TAt (fun b => b ≠ R ∧ b < wr.heap.size) wr 2 (lf X (offs gs j) g) (.int .i64 k1) (.int .i64 m1) (.string s1) (.slice xa xl xc) :=
            ((leaf_up htl).keep fun b hb => hoq b (by have := hb.1; have := unhide HRL; omega) hb.2).mono fun b hb => ⟨by have := hb.1; have := unhide HRL; omega, Nat.lt_of_lt_of_le hb.2 hout.size⟩
          obtain ⟨hk1, hm1, hs1⟩ := hlf.head
          obtain ⟨hk0, hm0, hs0⟩ := ht.head
          have HLF := hide hlf
          have HNX := hide hnext
          have HPJ := hide hpj
          have HFW := hide hfw
          have HIN := hide hin
          have HHT := hide ht
          have HHE := hide he
          clear hpj hlf hnext hfw hin ht e0 e1 e2 e3 htl hleaf hoq hgj hout hmem
          by_cases hg1 : g.1 = 1
          · obtain ⟨W, N, jj, hlfe, hWd, hW, hN, hN0, hN1, hv0, hv1, hsz0⟩ := hfi hg1
            rw [hlfe] at hk1 hm1 hs1
            replace hk1 : k1 = 1 := hk1
            replace hm1 : m1 = N := hm1
            subst hk1
            replace hm0 : m = tN 2 g.2.2.2.2.2 := hm0
            rw [← hm0] at hN hv0 hv1
            subst hm1
            have v1 : IntKind.i64.wrap (g.2.1 * g.2.2.1) = (W : Int) := by rw [hWd, IntKind.wrap_i64]; omega
            have v2 : IntKind.i64.wrap (m1 - m) = m1 - m := by rw [IntKind.wrap_i64]; omega
            have HS1 := hide hs1
            have HWD := hide hWd
            have HW := hide hW
            have HN := hide hN
            have HMB := hide hmb
            have HSG := hide hsgok
            have HK0 := hide hk0
            have HM0 := hide hm0
            have HS0 := hide hs0
            have HQ := hide (And.intro hqR hSq)
            have HNN := hide (And.intro hN0 hN1)
            have HVV := hide (And.intro hv0 hv1)
            have HSZ := hide hsz0
            have HST := hide hstl
            have htwo := two_pow_lo W
            have htwo2 := two_pow_hi W hW
            have v3 : IntKind.i64.wrap (2 ^ W) = 2 ^ W := by rw [IntKind.wrap_i64]; omega
            have v4 : (W : Int) < 64 := by omega
            have v5 : IntKind.u64.wrap (W : Int) = W := by rw [IntKind.wrap_u64]; omega
            have HT2 := hide (And.intro htwo htwo2)
            clear hfi hfb hs1 hWd hW hN hmb hsgok hk0 hm0 hs0 hqR hSq hN0 hN1 hv0 hv1 hsz0 htwo htwo2
            have HLE := hide hlfe
            clear hlfe
            go_wp2_with fail
            go_region
            go_upto_region 24 with fail
            have t1 : Int.tmod (m1 - m) (2 ^ W) = 0 := by rw [unhide HN]; exact Int.mul_tmod_right _ _
            obtain ⟨hP0, hP1⟩ := unhide HT2
            generalize (2 : Int) ^ W = P at t1 v3 hP0 hP1 ⊢
            have t2 : Int.tmod P P = 0 := Int.tmod_self
            have t4 : P ≠ 0 := by omega
            have t5 : (P == 0) = false := by simpa using t4
            go_region
            go_upto_region 29 with fail
            obtain ⟨hgv, hov⟩ := (unhide HGJ).val (by rw [hstl]; exact hjl) (unhide HHE) (unhide HLF)
            obtain ⟨wv, hwv⟩ : ∃ wv, wv = setL wr R (j * 9 + 5) [.int .i64 1, .int .i64 m1, .string s1, .slice xa xl xc] := ⟨_, rfl⟩
            have hwv' : wv = (((wr.setCell ⟨R, j * 9 + 5, none⟩ (.int .i64 1)).setCell ⟨R, j * 9 + 5 + 1, none⟩ (.int .i64 m1)).setCell ⟨R, j * 9 + 5 + 2, none⟩ (.string s1)).setCell ⟨R, j * 9 + 5 + 3, none⟩ (.slice xa xl xc) := hwv
            rw [← hwv'] at ⊢
            rw [← hwv] at hgv hov
            obtain ⟨kx, mx, sx, ux, hc9, _⟩ := hgv.nine (j := j) (g := withV g (lf X (offs gs j) g)) (by rw [List.length_set, hstl]; exact hjl) (List.getElem_set_self _)
            have d1 : wv.cell? ⟨R, j * 9 + 1, none⟩ = some (.int .i64 g.2.1) := hc9 1 (by decide)
            have hnl : ¬ g.2.1 < 0 := by have := unhide HSZ; omega
            rw [← turn_pos hnl, unhide HNX] at hgv
            have HGV := hide hgv
            have HOV := hide hov
            clear hgv hov hc9 hwv hwv' c0 c1 c2 c3 c4 c5 c6 c7 c8 E0 E1 E2 E3 hfz
            go_wp2_with fail
            go_roundw
            case rel => exact ⟨j + 1, hjl, by go_num, (unhide HGV), ((unhide HOUT).trans (unhide HOV)).drew.drew⟩
            case measure => simp [intOf]; omega
          · obtain ⟨s9, hlfe, hbin⟩ := hfb hg1
            rw [hlfe] at hk1 hm1 hs1
            replace hk1 : k1 = 9 := hk1
            replace hm1 : m1 = 0 := hm1
            replace hs1 : s1 = s9 := hs1
            subst hk1
            subst hm1
            subst hs1
            replace hs0 : s = tS 2 g.2.2.2.2.2 := hs0
            rw [← hs0] at hbin
            have HG1 := hide hg1
            have hg1b : (g.1 == 1) = false := by simpa using hg1
            have HMB := hide hmb
            have HSG := hide hsgok
            have HBIN := hide hbin
            have HK0 := hide hk0
            have HM0 := hide hm0
            have HS0 := hide hs0
            have HQ := hide (And.intro hqR hSq)
            have HLE := hide hlfe
            obtain ⟨z, hz⟩ : ∃ z, z = g.2.1 * g.2.2.1 := ⟨_, rfl⟩
            have v1 : IntKind.i64.wrap (g.2.1 * g.2.2.1) = z := by rw [hz, IntKind.wrap_i64]; omega
            have HZ := hide hz
            clear hfi hfb hmb hsgok hk0 hm0 hs0 hqR hSq hlfe hbin hg1 hz
            go_wp2_with fail
            go_region
            go_upto_region 26 with fail
            go_cut [153] (fun tt wc => tt = .bool false ∧ wc.heap = wr.heap ∧ wc.os = wr.os ∧ wc.tape = wr.tape ∧ wc.output = wr.output)
            case first =>
              by_cases h8 : z.tmod 8 = 0
              · have w8 : (z.tmod 8 == 0) = true := by simpa using h8
                by_cases hz0 : 0 ≤ z
                · obtain ⟨mm, hmm⟩ : ∃ mm : Nat, z = ((8 * mm : Nat) : Int) := ⟨(z / 8).toNat, by
                    have := Int.tmod_eq_emod_of_nonneg (b := 8) hz0
                    omega⟩
                  obtain ⟨hmle, hse⟩ := unhide HBIN mm ((unhide HZ).symm.trans hmm)
                  have q8 : z.tdiv 8 = (mm : Int) := by rw [Int.tdiv_eq_ediv_of_nonneg hz0]; omega
                  have q6 : IntKind.i64.wrap (mm : Int) = mm := by rw [IntKind.wrap_i64]; have := unhide HMB; have := unhide HZ; omega
                  have q9 : (mm : Int) ≤ (s.size : Int) := by omega
                  have q7 : (s1.toList == (s.extract 0 mm).toList) = true := by rw [hse]; simp
                  have HMM := hide hmm
                  clear hse hmm
                  go_quiet (fail)
                  go_wp2_with fail
                  go_meet
                  case rel => exact ⟨rfl, rfl, rfl, rfl, rfl⟩
                · have hzf : decide (0 ≤ z) = false := by simpa using hz0
                  go_quiet (fail)
                  go_wp2_with fail
                  go_meet
                  case rel => exact ⟨rfl, rfl, rfl, rfl, rfl⟩
              · have w8 : (z.tmod 8 == 0) = false := by simpa using h8
                go_quiet (fail)
                go_wp2_with fail
                go_meet
                case rel => exact ⟨rfl, rfl, rfl, rfl, rfl⟩
            case rest =>
              obtain ⟨rfl, hh, ho1, ho2, ho3⟩ := hcut
              rename World => wc
              have hgc : GRow R (stL X gs j) wc := (unhide HGJ).keep (fun b _ => by rw [hh]) (by rw [hh]; exact Nat.le_refl _)
              have hoc : Out R (R + 1) w8 wc := (unhide HOUT).trans ⟨ho1, ho2, ho3, by rw [hh]; exact Nat.le_refl _, fun b _ _ => by rw [hh]⟩
              have hlc : TAt (fun b => b ≠ R ∧ b < wc.heap.size) wc 2 (lf X (offs gs j) g) (.int .i64 9) (.int .i64 0) (.string s1) (.slice xa xl xc) :=
                ((unhide HLF).keep fun b _ => by rw [hh]).mono fun b hb => ⟨hb.1, by rw [hh]; exact hb.2⟩
              have hq : wc.heap[q]? = wr.heap[q]? := by rw [hh]
              have hRR : wc.heap[R]? = wr.heap[R]? := by rw [hh]
              replace E0 := (World.cell?_of_block (a := ⟨q, off + j * 4, none⟩) hq).trans E0
              replace E1 := (World.cell?_of_block (a := ⟨q, off + j * 4 + 1, none⟩) hq).trans E1
              replace E2 := (World.cell?_of_block (a := ⟨q, off + j * 4 + 2, none⟩) hq).trans E2
              replace E3 := (World.cell?_of_block (a := ⟨q, off + j * 4 + 3, none⟩) hq).trans E3
              replace c5 := (World.cell?_of_block (a := ⟨R, j * 9 + 5, none⟩) hRR).trans c5
              replace c6 := (World.cell?_of_block (a := ⟨R, j * 9 + 6, none⟩) hRR).trans c6
              replace c7 := (World.cell?_of_block (a := ⟨R, j * 9 + 7, none⟩) hRR).trans c7
              replace c8 := (World.cell?_of_block (a := ⟨R, j * 9 + 8, none⟩) hRR).trans c8
              have z9 := hfz
              replace hfz : ∀ o : Nat, wc.frozen? ⟨R, o, none⟩ = false := by
                obtain ⟨⟨N, _, hrw⟩, _⟩ := hgc
                exact fun o => hrw.frozen o
              obtain ⟨hgv, hov⟩ := hgc.val (by rw [hstl]; exact hjl) (unhide HHE) hlc
              have hn6c := (hoc.block w5.heap.size (by have := unhide HS8; omega) (.inr (by have := unhide HRL; omega))).trans (unhide HN68)
              have hb5 : w5.heap.size ≠ R := by have := unhide HRL; omega
              have HB5 := hide hb5
              have HOC := hide hoc
              have HN6C := hide hn6c
              have HBLT := hide (show w5.heap.size < wc.heap.size from by have := hoc.size; have := unhide HS8; omega)
              clear hgc hoc hlc hq hRR hh ho1 ho2 ho3 z9 c0 c1 c2 c3 c4 hn6c hb5 HGJ HOUT HLF v1 hg1b
              go_upto_region 29 with fail
              obtain ⟨wv, hwv⟩ : ∃ wv, wv = setL wc R (j * 9 + 5) [.int .i64 9, .int .i64 0, .string s1, .slice xa xl xc] := ⟨_, rfl⟩
              have hwv' : wv = (((wc.setCell ⟨R, j * 9 + 5, none⟩ (.int .i64 9)).setCell ⟨R, j * 9 + 5 + 1, none⟩ (.int .i64 0)).setCell ⟨R, j * 9 + 5 + 2, none⟩ (.string s1)).setCell ⟨R, j * 9 + 5 + 3, none⟩ (.slice xa xl xc) := hwv
              rw [← hwv'] at ⊢
              rw [← hwv] at hgv hov
              obtain ⟨kx, mx, sx, ux, hc9, _⟩ := hgv.nine (j := j) (g := withV g (lf X (offs gs j) g)) (by rw [List.length_set, hstl]; exact hjl) (List.getElem_set_self _)
              have d1 : wv.cell? ⟨R, j * 9 + 1, none⟩ = some (.int .i64 g.2.1) := hc9 1 (by decide)
              have hf1 : ∀ o : Nat, wv.frozen? ⟨R, o, none⟩ = false := by
                obtain ⟨⟨N, _, hrw⟩, _⟩ := hgv
                exact fun o => hrw.frozen o
              have hov2 := (unhide HOC).trans hov
              have HN6V := hide ((hov.block w5.heap.size (unhide HBLT) (by have := unhide HB5; omega)).trans (unhide HN6C))
              have HBLV := hide (Nat.lt_of_lt_of_le (unhide HBLT) hov.size)
              clear hwv hwv' c5 c6 c7 c8 E0 E1 E2 E3 hfz hov hc9 HOC HN6C
              by_cases hneg : g.2.1 < 0
              rotate_left
              · have hnl : ¬ g.2.1 < 0 := hneg
                rw [← turn_pos hnl, unhide HNX] at hgv
                have HGV := hide hgv
                have HOV := hide hov2
                clear hgv hov2 hnl hf1
                go_wp2_with fail
                go_roundw
                case rel => exact ⟨j + 1, hjl, by go_num, (unhide HGV), by first | exact unhide HOV | exact (unhide HOV).drew | exact (unhide HOV).drew.drew⟩
                case measure => simp [intOf]; omega
              · have hjL : j + 1 = gs.length := by
                  rcases Nat.lt_or_ge (j + 1) gs.length with h | h
                  · have := unhide HPJ h; omega
                  · omega
                have b0 : wv.cell? ⟨w5.heap.size, 0, none⟩ = some (.int .i64 X.length) := cell_of_heap (unhide HN6V) 0
                have HGV := hide hgv
                have HOV := hide hov2
                have HJL := hide hjL
                clear hgv hov2 hjL
                go_upto_region 31 with fail
                have hXl : In64 (X.length : Int) := in64_by (by omega) (by have := unhide HMOST; omega)
                obtain ⟨hga, hoa⟩ := (unhide HGV).siz (j := j) (g := withV g (lf X (offs gs j) g)) hXl (by rw [List.length_set, hstl]; exact hjl) (List.getElem_set_self _)
                obtain ⟨wa, hwa⟩ : ∃ wa, wa = setL wv R (j * 9 + 1) [.int .i64 X.length] := ⟨_, rfl⟩
                have hwa' : wa = wv.setCell ⟨R, j * 9 + 1, none⟩ (.int .i64 X.length) := hwa
                rw [← hwa'] at ⊢
                rw [← hwa] at hga hoa
                rw [List.set_set] at hga
                have HN6A := hide ((hoa.block w5.heap.size (unhide HBLV) (by have := unhide HB5; omega)).trans (unhide HN6V))
                have HBLA := hide (Nat.lt_of_lt_of_le (unhide HBLV) hoa.size)
                have HOA := hide ((unhide HOV).trans hoa)
                have HGA := hide hga
                clear hga hoa hwa hwa' b0 d1 hf1 HGV HOV hXl
                go_wp2_with fail
                go_loopw [13, 14] (fun uv kv wl => ∃ kk : Nat, kk ≤ j ∧ kv = .int .i64 kk ∧ uv = .int .i64 ((offs gs kk : Nat) : Int) ∧ wl.heap = wa.heap ∧ wl.os = wa.os ∧ wl.tape = wa.tape ∧ wl.output = wa.output) (fun _ kv _ => 300 - (intOf kv).toNat)
                case atStart => exact ⟨0, by omega, rfl, rfl, rfl, rfl, rfl, rfl⟩
                case round =>
                  obtain ⟨kk, hkk, rfl, rfl, hh, ho1, ho2, ho3⟩ := hrel
                  have hgr := (unhide HGA).keep (w' := wr) (fun b _ => by rw [hh]) (by rw [hh]; exact Nat.le_refl _)
                  have HHW := hide (And.intro hh (And.intro ho1 (And.intro ho2 ho3)))
                  clear hh ho1 ho2 ho3
                  by_cases hkj : kk < j
                  · have hkI : (kk : Int) < (j : Int) := by omega
                    have hkL : (kk : Int) < (gs.length : Int) := by omega
                    have hpk := unhide HPOS kk (by omega) (by omega)
                    have hwk := fact_wid (unhide HAX).1 (unhide HAX).2 (show kk < gs.length by omega)
                    have hek : (((stL X gs j).set j ((withV g (lf X (offs gs j) g)).1, (X.length : Int), (withV g (lf X (offs gs j) g)).2.2))[kk]'(by rw [List.length_set, hstl]; omega)) = withV (gs[kk]'(by omega)) (lf X (offs gs kk) (gs[kk]'(by omega))) := by
                      rw [List.getElem_set_ne (by omega)]
                      have h1 := stL_done (X := X) hj hkj
                      rw [List.getElem?_eq_getElem (by rw [hstl]; omega)] at h1
                      injection h1 with h1
                      rw [h1, turn_pos (by omega)]
                    obtain ⟨kx, mx, sx, ux, hc9, _⟩ := hgr.nine (j := kk) (by rw [List.length_set, hstl]; omega) hek
                    have f1 : wr.cell? ⟨R, kk * 9 + 1, none⟩ = some (.int .i64 (gs[kk]'(by omega)).2.1) := hc9 1 (by decide)
                    have f2 : wr.cell? ⟨R, kk * 9 + 2, none⟩ = some (.int .i64 (gs[kk]'(by omega)).2.2.1) := hc9 2 (by decide)
                    have hoff := offs_next gs kk (by omega)
                    have hmost := unhide HMOST
                    have g1 := hwk.1 hpk
                    have g2 := hwk.2.1
                    clear hek hc9 hgr hwk
                    generalize (gs[kk]'(by omega)).2.1 = sz at f1 g1 hpk
                    generalize (gs[kk]'(by omega)).2.2.1 = un at f2 g1
                    generalize widG (gs[kk]'(by omega)) = wd at g1 g2 hoff
                    have v1 : IntKind.i64.wrap (sz * un) = (wd : Int) := by rw [g1, IntKind.wrap_i64]; omega
                    have v2 : IntKind.i64.wrap (((offs gs kk : Nat) : Int) + (wd : Int)) = ((offs gs (kk + 1) : Nat) : Int) := by rw [hoff, IntKind.wrap_i64]; omega
                    clear g1 g2 hoff hmost hpk
                    go_wp2_with fail
                    go_region
                    go_wp2_with fail
                    go_roundw
                    case rel => exact ⟨kk + 1, hkj, by go_num, rfl, (unhide HHW).1, (unhide HHW).2.1, (unhide HHW).2.2.1, (unhide HHW).2.2.2⟩
                    case measure => simp [intOf]; omega
                  · have hkI : ¬ (kk : Int) < (j : Int) := by omega
                    have hoffk : offs gs kk = offs gs j := by rw [show kk = j by omega]
                    have hfwL := (unhide HFW).2.2 (unhide HJL)
                    have hmost := unhide HMOST
                    have v3 : IntKind.i64.wrap ((X.length : Int) - ((offs gs kk : Nat) : Int)) = (widG g : Int) := by rw [hoffk, IntKind.wrap_i64]; omega
                    have hn6 := unhide HN6A
                    rw [← (unhide HHW).1] at hn6
                    have b0 : wr.cell? ⟨w5.heap.size, 0, none⟩ = some (.int .i64 X.length) := cell_of_heap hn6 0
                    obtain ⟨kx, mx, sx, ux, hc9, _⟩ := hgr.nine (j := j) (g := ((withV g (lf X (offs gs j) g)).1, (X.length : Int), (withV g (lf X (offs gs j) g)).2.2)) (by rw [List.length_set, hstl]; exact hjl) (List.getElem_set_self _)
                    have f1 : wr.cell? ⟨R, j * 9 + 1, none⟩ = some (.int .i64 X.length) := hc9 1 (by decide)
                    have hf1 : ∀ o : Nat, wr.frozen? ⟨R, o, none⟩ = false := by
                      obtain ⟨⟨N, _, hrw⟩, _⟩ := hgr
                      exact fun o => hrw.frozen o
                    have hwd : In64 (widG g : Int) := in64_by (by omega) (by omega)
                    obtain ⟨hgb, hob⟩ := hgr.siz (j := j) hwd (by rw [List.length_set, hstl]; exact hjl) (List.getElem_set_self _)
                    have hor : Out R (R + 1) w8 wr := (unhide HOA).trans ⟨(unhide HHW).2.1, (unhide HHW).2.2.1, (unhide HHW).2.2.2, by rw [(unhide HHW).1]; exact Nat.le_refl _, fun b _ _ => by rw [(unhide HHW).1]⟩
                    have HNG := hide hneg
                    have HOB := hide (hor.trans hob)
                    rw [List.set_set] at hgb
                    have HGB := hide hgb
                    clear hgr hc9 hn6 hoffk hfwL hmost hwd hor hob hgb hneg
                    go_upto_region 37 with fail
                    have hgb := unhide HGB
                    have hob := unhide HOB
                    obtain ⟨wb, hwb⟩ : ∃ wb, wb = setL wr R (j * 9 + 1) [.int .i64 (widG g : Int)] := ⟨_, rfl⟩
                    have hwb' : wb = wr.setCell ⟨R, j * 9 + 1, none⟩ (.int .i64 (widG g : Int)) := hwb
                    rw [← hwb'] at ⊢
                    rw [← hwb] at hgb hob
                    obtain ⟨ky, my, sy, uy, hc8, _⟩ := hgb.nine (j := j) (by rw [List.length_set, hstl]; exact hjl) (List.getElem_set_self _)
                    have f2 := hc8 2 (by decide)
                    replace f2 : wb.cell? ⟨R, j * 9 + 2, none⟩ = some (.int .i64 g.2.2.1) := f2
                    have hf2 : ∀ o : Nat, wb.frozen? ⟨R, o, none⟩ = false := by
                      obtain ⟨⟨N, _, hrw⟩, _⟩ := hgb
                      exact fun o => hrw.frozen o
                    obtain ⟨hgd, hod⟩ := hgb.uni (j := j) (n := 1) in1 (by rw [List.length_set, hstl]; exact hjl) (List.getElem_set_self _)
                    rw [List.set_set] at hgd
                    have hnx := unhide HNX
                    rw [turn_neg (unhide HNG)] at hnx
                    have hgd2 : GRow R (stL X gs (j + 1)) (setL wb R (j * 9 + 2) [.int .i64 1]) := by rw [← hnx]; exact hgd
                    have HGD := hide hgd2
                    have HOD := hide (hob.trans hod)
                    clear hgb hob hwb hwb' hc8 hgd hod hnx hgd2 f1 hf1 b0 HGB HOB
                    go_wp2_with fail
                    go_roundw
                    case rel => exact ⟨j + 1, hjl, by go_num, (unhide HGD), by first | exact unhide HOD | exact (unhide HOD).drew | exact (unhide HOD).drew.drew | exact (unhide HOD).drew.drew.drew⟩
                    case measure => simp [intOf]; omega

end Go.Proofs.YtcgbonlffcpofaaGreatDoor
