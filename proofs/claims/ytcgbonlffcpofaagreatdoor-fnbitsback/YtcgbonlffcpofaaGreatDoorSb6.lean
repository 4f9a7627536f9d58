/- spec.BitBuild. -/
import Derived.Test.YtcgbonlffcpofaaGreatDoorQ35
import Derived.Deep.DeepCutAuto
import Derived.Lib.AppendZeros
namespace Go.Proofs.YtcgbonlffcpofaaGreatDoor
open Go.RowKit Go.Deep

theorem bin_size {n : Nat} {t : Tm n} (h : okB n t = true) (hk : tK n t = 9) : (tS n t).size ≤ 4000 := by
  cases n with
  | zero => exact t.elim
  | succ n =>
    obtain ⟨k, m, s, ks⟩ := t
    have hk' : k = 9 := hk
    subst hk'
    unfold okB at h
    have h2 := (Bool.and_eq_true_iff.1 h).2
    unfold rightB at h2
    have h3 := (Bool.and_eq_true_iff.1 (Bool.and_eq_true_iff.1 h2).1).1
    unfold fitB at h3
    simp at h3
    exact h3.1.2

/-- What BitBuild answers, as a value. -/
def builtA {n : Nat} (gs : List (SgT n)) : Value := .tuple #[.agg #[.int .i64 (builtX gs).2.length, .string (strB (builtX gs).2)], .int .i64 (builtX gs).1]
theorem builtA_of {n : Nat} {gs : List (SgT n)} {c : Int} {X : List Int} (h : builtX gs = (c, X)) : builtA gs = .tuple #[.agg #[.int .i64 X.length, .string (strB X)], .int .i64 c] := by unfold builtA; rw [h]
theorem builtX_no {n : Nat} {gs : List (SgT n)} (h : allX gs = false) : builtX gs = (1, []) := by unfold builtX; rw [h]; rfl
theorem builtX_yes {n : Nat} {gs : List (SgT n)} (h : allX gs = true) : builtX gs = buildX [] gs := by unfold builtX; rw [h]; rfl

set_option maxRecDepth 40000 in
set_option maxHeartbeats 4000000 in
theorem sBuild_any {n : Nat} (gs : List (SgT n)) (v : Value) (w : World) (hv : SgsAt (Under w.heap.size) w n gs v) :
    Calls Tryz.prog 6 #[v] w fun e w' => e = .returned (builtA gs) ∧ Below w.heap.size w w' := by
  obtain ⟨a, cap, rfl, hcap⟩ : ∃ a cap, v = .slice a gs.length cap ∧ gs.length ≤ 2 ^ 47 := by obtain ⟨a, cap, h, _, h2, _⟩ := hv; exact ⟨a, cap, h, h2⟩
  obtain ⟨W0, hW0⟩ : ∃ W0, W0 = (w.alloc (.cells #[.int .i64 0, .string ⟨#[]⟩] 27)).alloc (.cells #[.int .i64 0, .string ⟨#[]⟩] 27) := ⟨_, rfl⟩
  have hb0 : Below w.heap.size w W0 := by rw [hW0]; exact below_two _ _ _
  have hs0 : W0.heap.size = w.heap.size + 2 := by rw [hW0]; simp
  have hK : ∀ w', Below W0.heap.size W0 w' → (w'.cell? ⟨w.heap.size, 0, none⟩ = some (.int .i64 0) ∧ w'.cell? ⟨w.heap.size, 1, none⟩ = some (.string ⟨#[]⟩)) ∧ (w'.cell? ⟨w.heap.size + 1, 0, none⟩ = some (.int .i64 0) ∧ w'.cell? ⟨w.heap.size + 1, 1, none⟩ = some (.string ⟨#[]⟩)) ∧
      (w'.frozen? ⟨w.heap.size, 0, none⟩ = false ∧ w'.frozen? ⟨w.heap.size, 1, none⟩ = false) := fun w' hb => by
    obtain ⟨g0, g1, _, _⟩ := two_news w (.cells #[.int .i64 0, .string ⟨#[]⟩] 27) (.cells #[.int .i64 0, .string ⟨#[]⟩] 27)
    rw [← hW0] at g0 g1
    have k0 := (hb.block _ (by omega)).trans g0
    have k1 := (hb.block _ (by omega)).trans g1
    exact ⟨⟨cell_of_heap k0 0, cell_of_heap k0 1⟩, ⟨cell_of_heap k1 0, cell_of_heap k1 1⟩, frozen_of_heap k0 0, frozen_of_heap k0 1⟩
  have HK := hide hK
  have Hb0 := hide hb0
  have HW := hide hW0
  have HV := hide (hv.up hb0)
  clear hK hb0 hv
  by_cases hbig : (200 : Int) < (gs.length : Int)
  · have hr := hide (builtA_of (builtX_no (gs := gs) (by unfold allX; rw [decide_eq_false (show ¬ gs.length ≤ 200 by omega)]; rfl)))
    obtain ⟨⟨q0, q1⟩, ⟨r0, r1⟩, f0, f1⟩ := unhide HK W0 (Below.refl _ _)
    go_enter Tryz.func6, Tryz.ntmps6
    go_wp2_with fail
    rw [← unhide HW]
    exact bodyPost_ret (v := .tuple #[.agg #[.int .i64 0, .string ⟨#[]⟩], .int .i64 1]) (by simp [results, Tryz.results6, go_sem, q0, q1]) rfl ⟨by rw [unhide hr]; rfl, unhide Hb0⟩
  have hno : allX gs = false → builtA gs = .tuple #[.agg #[.int .i64 0, .string ⟨#[]⟩], .int .i64 1] := fun h => by rw [builtA_of (builtX_no h)]; rfl
  have HNO := hide hno
  have hlen : gs.length ≤ 200 := by omega
  clear hno
  go_enter Tryz.func6, Tryz.ntmps6
  go_wp2_with fail
  rw [← unhide HW]
  clear hW0
  go_loopw [5] (fun iv wr => ∃ k : Nat, k ≤ gs.length ∧ iv = .int .i64 k ∧ Below W0.heap.size W0 wr ∧ ∀ i (hi : i < gs.length), i < k → (sgOK gs[i] && okB n gs[i].2.2.2.2.2) = true) (fun iv _ => gs.length - (intOf iv).toNat)
  case atStart => exact ⟨0, by omega, rfl, Below.refl _ _, fun i _ hi => absurd hi (by omega)⟩
  case round =>
    obtain ⟨k, hk, rfl, hb, hall⟩ := hrel
    by_cases hlt : k < gs.length
    · obtain ⟨b, off, kk, km, ks, ku, rfl, hS, e0, e1, e2, e3, e4, e5, e6, e7, e8, i1, i2, i3, hr⟩ := ((unhide HV).up hb).at k hlt
      obtain ⟨g1, g2, g3, g4, g5, t, hgk⟩ : ∃ g1 g2 g3 g4 g5 t, gs[k] = ((g1, g2, g3, g4, g5, t) : SgT n) := ⟨_, _, _, _, _, _, rfl⟩
      rw [hgk] at e0 e1 e2 e3 e4 hr
      dsimp only at e0 e1 e2 e3 e4 hr
      obtain ⟨_, _, _, ua, ul, uc, h1, h2, h3, rfl⟩ := hr.shape
      have HC := hide (fun w => sSegOK_any g1 g2 g3 g4 g5 t (.int .i64 kk) (.int .i64 km) (.string ks) (.slice ua ul uc) w ⟨_, _, _, _, _, _, rfl, rfl, rfl, rfl⟩)
      have HT := hide (fun w' (hb : Below wr.heap.size wr w') => sOK_any t _ _ _ _ w' (hr.up hb))
      have hcc := fun w1 (hb1 : Below wr.heap.size wr w1) => bcell hb1
      have HGK := hide hgk
      have HB := hide hb
      have Hx5 := hide (And.intro e5 (And.intro e6 (And.intro e7 (And.intro e8 hS))))
      clear hr hb h1 h2 h3 i1 i2 i3 hgk
      go_wp2_with fail
      refine ((unhide HC) wr).mono ?_
      rintro e w1 ⟨rfl, hb1⟩
      have hw1 := (unhide HB).trans (hb1.mono (unhide HB).size)
      obtain ⟨⟨q0, q1⟩, ⟨r0, r1⟩, f0, f1⟩ := unhide HK w1 hw1
      obtain ⟨x5, x6, x7, x8, xS⟩ := unhide Hx5
      have y5 := (hcc w1 hb1 b _ xS).trans x5
      have y6 := (hcc w1 hb1 b _ xS).trans x6
      have y7 := (hcc w1 hb1 b _ xS).trans x7
      have y8 := (hcc w1 hb1 b _ xS).trans x8
      have H1 := hide hb1
      have HW1 := hide hw1
      clear hb1 hw1 hcc x5 x6 x7 x8 e0 e1 e2 e3 e4 e5 e6 e7 e8
      cases hok : sgOK ((g1, g2, g3, g4, g5, t) : SgT n) with
      | false =>
        have hans := unhide HNO (by unfold allX; rw [allB_not (i := k) hlt (by rw [unhide HGK, hok]; rfl)]; simp)
        have HA := hide hans
        clear hans hok
        go_wp2_with fail
        exact bodyPost_ret (v := .tuple #[.agg #[.int .i64 0, .string ⟨#[]⟩], .int .i64 1]) (by simp [results, Tryz.results6, go_sem, q0, q1]) rfl
          ⟨by rw [unhide HA], (((unhide Hb0).trans ((unhide HW1).mono (unhide Hb0).size)).setCell (p := ⟨w.heap.size, 0, none⟩) (Nat.le_refl _) _).setCell (p := ⟨w.heap.size, 1, none⟩) (Nat.le_refl _) _⟩
      | true =>
        have HOK := hide hok
        clear hok
        go_wp2_with fail
        refine ((unhide HT) w1 (unhide H1)).mono ?_
        rintro e w2 ⟨rfl, hb2⟩
        have hw2 := (unhide HW1).trans (hb2.mono (unhide HW1).size)
        have HW2 := hide hw2
        clear q0 q1 r0 r1 f0 f1 y5 y6 y7 y8
        obtain ⟨⟨q0, q1⟩, ⟨r0, r1⟩, f0, f1⟩ := unhide HK w2 hw2
        clear hb2 hw2
        cases hok2 : okB n t with
        | false =>
          have hans := unhide HNO (by unfold allX; rw [allB_not (i := k) hlt (by rw [unhide HGK]; show (sgOK ((g1, g2, g3, g4, g5, t) : SgT n) && okB n t) = false; rw [hok2]; simp)]; simp)
          have HA := hide hans
          clear hans hok2
          go_wp2_with fail
          exact bodyPost_ret (v := .tuple #[.agg #[.int .i64 0, .string ⟨#[]⟩], .int .i64 1]) (by simp [results, Tryz.results6, go_sem, q0, q1]) rfl
            ⟨by rw [unhide HA], (((unhide Hb0).trans ((unhide HW2).mono (unhide Hb0).size)).setCell (p := ⟨w.heap.size, 0, none⟩) (Nat.le_refl _) _).setCell (p := ⟨w.heap.size, 1, none⟩) (Nat.le_refl _) _⟩
        | true =>
          have HOK2 := hide hok2
          clear hok2
          go_wp2_with fail
          go_roundw
          case rel => exact ⟨k + 1, hlt, by go_num, unhide HW2, fun i hi hik => by
            rcases (show i < k ∨ i = k by omega) with h | rfl
            · exact hall i hi h
            · rw [unhide HGK]; show (sgOK ((g1, g2, g3, g4, g5, t) : SgT n) && okB n t) = true; rw [unhide HOK, unhide HOK2]; rfl⟩
          case measure => simp [intOf]; omega
    · have hans : allX gs = true := by
        unfold allX
        rw [decide_eq_true hlen, allB_of fun i hi => hall i hi (by omega)]
        rfl
      have HALL := hide (fun i (hi : i < gs.length) => hall i hi (by omega))
      have HB := hide hb
      have hyes := builtX_yes hans
      have HY := hide hyes
      clear hans hyes hall hb
      have hlit : (wr.alloc (.cells #[] 5)).ownsRow W0.heap.size 5 1 (.slice (some ⟨wr.heap.size, 0, none⟩) 0 0) 0 (u8s []) := World.ownsRow_lit (base := W0.heap.size) wr #[] 0 (unhide HB).size (by unfold maxLen; omega) (by simp)
      have HLIT := hide hlit
      clear hlit
      go_wp2_with fail
      go_loopw [6, 7] (fun rv iv wr => ∃ (k : Nat) (acc : List Int), k ≤ gs.length ∧ iv = .int .i64 k ∧ wr.ownsRow W0.heap.size 5 1 rv acc.length (u8s acc) ∧ Below W0.heap.size W0 wr ∧ (∀ x ∈ acc, x = 0 ∨ x = 1) ∧ acc.length ≤ 32000 ∧ buildX acc (gs.drop k) = builtX gs) (fun _ iv _ => gs.length - (intOf iv).toNat)
      case atStart => exact ⟨0, [], by omega, rfl, unhide HLIT, (unhide HB).alloc (unhide HB).size _, fun x hx => (by cases hx), by simp, by rw [List.drop_zero]; exact (unhide HY).symm⟩
      case round =>
        clear HLIT HB
        obtain ⟨k, acc, hk, rfl, hown, hb, h01, hacc, hbx⟩ := hrel
        have HOW := hide hown
        have HB := hide hb
        have H01 := hide h01
        have HBX := hide hbx
        clear hown h01 hbx
        by_cases hlt : k < gs.length
        case neg =>
          obtain rfl : k = gs.length := by omega
          have hend : builtX gs = (0, acc) := by
            have := unhide HBX
            rw [List.drop_length] at this
            exact this.symm
          have hans := builtA_of hend
          obtain ⟨S, hS⟩ : ∃ S, strB acc = S := ⟨_, rfl⟩
          rw [hS] at hans
          have hra : RowAt wr u6 acc := RowAt.of_own (base := W0.heap.size) (e := 5) (unhide HOW)
          have hpk := hide (pack_as u6 acc acc.length S wr hra (unhide H01) rfl (by omega) hS)
          have HA := hide hans
          clear hend hans hS hra
          go_wp2_with fail
          refine (unhide hpk).mono ?_
          rintro e w1 ⟨rfl, hb1⟩
          have hw1 := (unhide HB).trans (hb1.mono (unhide HB).size)
          obtain ⟨⟨q0, q1⟩, ⟨r0, r1⟩, f0, f1⟩ := unhide HK w1 hw1
          have HW1 := hide hw1
          clear hb1 hw1
          go_wp2_with fail
          exact bodyPost_ret (v := .tuple #[.agg #[.int .i64 acc.length, .string S], .int .i64 0]) (by simp [results, Tryz.results6, go_sem, q0, q1]) rfl
            ⟨by rw [unhide HA], (((unhide Hb0).trans ((unhide HW1).mono (unhide Hb0).size)).setCell (p := ⟨w.heap.size, 0, none⟩) (Nat.le_refl _) _).setCell (p := ⟨w.heap.size, 1, none⟩) (Nat.le_refl _) _⟩
        case pos =>
          obtain ⟨b, off, kk, km, ks, ku, rfl, hS, e0, e1, e2, e3, e4, e5, e6, e7, e8, i1, i2, i3, hr⟩ := ((unhide HV).up (unhide HB)).at k hlt
          obtain ⟨g1, g2, g3, g4, g5, t, hgk⟩ : ∃ g1 g2 g3 g4 g5 t, gs[k] = ((g1, g2, g3, g4, g5, t) : SgT n) := ⟨_, _, _, _, _, _, rfl⟩
          have hok := (unhide HALL) k hlt
          have hbx := unhide HBX
          rw [List.drop_eq_getElem_cons hlt, hgk] at hbx
          rw [hgk] at e0 e1 e2 e3 e4 hr hok
          dsimp only at e0 e1 e2 e3 e4 hr hok
          obtain ⟨hk1, hk2, hk3⟩ := hr.head
          obtain ⟨_, _, _, ua, ul, uc, h1, h2, h3, rfl⟩ := hr.shape
          obtain ⟨hok1, hok2⟩ := Bool.and_eq_true_iff.1 hok
          rw [sgOK_eq] at hok1
          simp only [Bool.and_eq_true, decide_eq_true_eq] at hok1
          obtain ⟨⟨⟨⟨p1, p2⟩, p3⟩, p4⟩, p5⟩ := hok1
          have w1 := wide_wrap p1 p2 p3 p4
          have HBXK := hide hbx
          have HOK2 := hide hok2
          have HKT := hide (And.intro hk1 (And.intro hk2 hk3))
          have HBa := hide ((unhide HB).alloc (unhide HB).size (sgO g1 g2 g3 g4 g5 kk km ks ua ul uc))
          have HOWa := hide (ownsRow_below (unhide HOW) ((Below.refl wr.heap.size wr).alloc (Nat.le_refl _) (sgO g1 g2 g3 g4 g5 kk km ks ua ul uc)))
          clear hr h1 h2 h3 i1 i2 i3 hgk hok hok2 hbx hk1 hk2 hk3
          obtain ⟨⟨q0, q1⟩, ⟨r0, r1⟩, f0, f1⟩ := unhide HK _ (unhide HBa)
          by_cases ht : g1 = 1
          · subst ht
            rw [if_pos rfl] at p5
            simp only [Bool.and_eq_true, decide_eq_true_eq] at p5
            obtain ⟨p5, p6⟩ := p5
            by_cases hkind : kk = 1
            · subst hkind
              obtain ⟨W, hW⟩ : ∃ W : Nat, g2 * g3 = (W : Int) := ⟨(g2 * g3).toNat, by have := Int.mul_nonneg p5 (by omega : 0 ≤ g3); omega⟩
              have hW9 : W ≤ 49 := by omega
              have hseg : segX ((1, g2, g3, g4, g5, t) : SgT n) = some (putBits km W g5) := by
                obtain ⟨hk1, hk2, _⟩ := unhide HKT
                unfold segX
                rw [if_pos rfl, if_pos hk1.symm]
                show some (putBits (tN n t) (g2 * g3).toNat g5) = _
                rw [← hk2, hW]
                rfl
              have HSEG := hide hseg
              have HP := hide (fun w => put_any km W g5 w hW9)
              have w2 : IntKind.i64.wrap (g2 * g3) = (W : Int) := w1.trans hW
              clear hseg w1
              go_wp2_with fail
              first | rw [hW] | skip
              clear w2
              refine ((unhide HP) _).mono ?_
              rintro e w2 ⟨u, rfl, hu, hb2⟩
              clear q0 q1 r0 r1 f0 f1
              have own2 := ownsRow_below (unhide HOWa) hb2
              have B2 := (unhide HBa).trans (hb2.mono (unhide HBa).size)
              obtain ⟨v', w3, hr3, ho3, hg3⟩ := app_u8 W0.heap.size _ u6 u acc.length W acc (putBits km W g5) w2 own2 hu (by omega) B2.size 22
              have B3 := B2.grown hg3 B2.size fun k hk => (own2.lt k hk).1
              obtain ⟨va, vc, rfl⟩ : ∃ va vc, v' = .slice va (acc.length + W) vc := by
                rcases u8_place ho3 with ⟨h, h0, _⟩ | ⟨g, c, h, _⟩
                · exact ⟨none, 0, by rw [h, h0]⟩
                · exact ⟨_, c, h⟩
              have hxl : (acc ++ (putBits km W g5)).length = acc.length + W := by rw [List.length_append, putBits_length]
              have HR := hide hr3
              have HB3 := hide B3
              have HO3 := hide ho3
              have HXL := hide hxl
              obtain ⟨⟨q0, q1⟩, ⟨r0, r1⟩, f0, f1⟩ := unhide HK w3 B3
              clear own2 B2 hr3 ho3 hg3 B3 hxl hb2
              by_cases hfull : (32000 : Int) < ((acc.length + W : Nat) : Int)
              · have hans := builtA_of ((unhide HBXK).symm.trans (buildX_full (unhide HSEG) (by have := unhide HXL; rw [List.length_append] at this; omega)))
                have HA := hide hans
                clear hans
                go_wp2_with (at_builtin; refine Go.Lib.wpList_append_run _ rfl (.tmp 62) (.tmp 69) 22 22 rfl _ _ rfl rfl _ _ (unhide HR) ?_)
                exact bodyPost_ret (v := .tuple #[.agg #[.int .i64 0, .string ⟨#[]⟩], .int .i64 3]) (by simp [results, Tryz.results6, go_sem, q0, q1]) rfl
                  ⟨by rw [unhide HA]; rfl, (((unhide Hb0).trans ((unhide HB3).mono (unhide Hb0).size)).setCell (p := ⟨w.heap.size, 0, none⟩) (Nat.le_refl _) _).setCell (p := ⟨w.heap.size, 1, none⟩) (Nat.le_refl _) _⟩
              · go_wp2_with (at_builtin; refine Go.Lib.wpList_append_run _ rfl (.tmp 62) (.tmp 69) 22 22 rfl _ _ rfl rfl _ _ (unhide HR) ?_)
                go_roundw
                case rel => exact ⟨k + 1, acc ++ (putBits km W g5), hlt, by go_num, by rw [unhide HXL]; exact unhide HO3, unhide HB3, fun x hx => by
                  rcases List.mem_append.1 hx with h | h
                  · exact unhide H01 x h
                  · exact segX_01 (unhide HSEG) x h, by rw [unhide HXL]; omega, by rw [← buildX_on (unhide HSEG) (by have := unhide HXL; rw [List.length_append] at this; omega)]; exact unhide HBXK⟩
                case measure => simp [intOf]; omega
            · have hkind' : (kk != 1) = true := by simpa using hkind
              have hseg : segX ((1, g2, g3, g4, g5, t) : SgT n) = none := by
                obtain ⟨hk1, _⟩ := unhide HKT
                unfold segX
                rw [if_pos rfl, if_neg (by show ¬ tK n t = 1; rw [← hk1]; exact hkind)]
              have hans := builtA_of ((unhide HBXK).symm.trans (buildX_none hseg))
              have HA := hide hans
              clear hans hseg hkind
              go_wp2_with fail
              exact bodyPost_ret (v := .tuple #[.agg #[.int .i64 0, .string ⟨#[]⟩], .int .i64 5]) (by simp [results, Tryz.results6, go_sem, q0, q1]) rfl
                ⟨by rw [unhide HA]; rfl, (((unhide Hb0).trans ((unhide HBa).mono (unhide Hb0).size)).setCell (p := ⟨w.heap.size, 0, none⟩) (Nat.le_refl _) _).setCell (p := ⟨w.heap.size, 1, none⟩) (Nat.le_refl _) _⟩
          · rw [if_neg ht] at p5
            simp only [Bool.and_eq_true, decide_eq_true_eq, Bool.not_eq_true'] at p5
            obtain ⟨⟨rfl, rfl⟩, rfl⟩ := p5
            clear ht
            by_cases hkind : kk = 9
            · subst hkind
              have hkt := unhide HKT
              have hsz : ks.size ≤ 4000 := by rw [hkt.2.2]; exact bin_size (unhide HOK2) hkt.1.symm
              obtain ⟨N, hN⟩ : ∃ N : Nat, N = 8 * ks.size := ⟨_, rfl⟩
              have hN8 : (8 : Int) * (ks.size : Int) = (N : Int) := by omega
              have w8 : IntKind.i64.wrap (8 * (ks.size : Int)) = (N : Int) := by rw [IntKind.wrap_i64]; omega
              have HRW := hide (fun w => row_some (N : Int) ks w (by omega) (by omega))
              have hseg : segX ((2, g2, g3, false, false, t) : SgT n) = (if sgW ((2, g2, g3, false, false, t) : SgT n) (N : Int) ≤ (N : Int) ∧ sgW ((2, g2, g3, false, false, t) : SgT n) (N : Int) % g3 = 0 then some (bitsOf ks (sgW ((2, g2, g3, false, false, t) : SgT n) (N : Int)).toNat) else none) := by
                unfold segX
                rw [if_neg (show ¬ (2 : Int) = 1 by omega), if_pos (show tK n t = 9 from hkt.1.symm)]
                show (if sgW ((2, g2, g3, false, false, t) : SgT n) (8 * (tS n t).size) ≤ 8 * (tS n t).size ∧ sgW ((2, g2, g3, false, false, t) : SgT n) (8 * (tS n t).size) % g3 = 0 then some (bitsOf (tS n t) (sgW ((2, g2, g3, false, false, t) : SgT n) (8 * (tS n t).size)).toNat) else none) = _
                rw [← hkt.2.2, hN8]
              have HSG := hide hseg
              have HNN := hide hN
              clear hseg hkt hN
              by_cases hopen : g2 = -1
              · subst hopen
                go_wp2_with fail
                first | rw [hN8] | skip
                refine ((unhide HRW) _).mono ?_
                rintro e w2 ⟨gr, capr, rfl, hor, hb2⟩
                rw [Int.toNat_natCast] at hor ⊢
                have B2 := (unhide HBa).trans (hb2.mono (unhide HBa).size)
                have own2 := ownsRow_below (unhide HOWa) hb2
                have y := fun o => cell_of_heap ((hb2.block wr.heap.size (by simp)).trans (heap_new wr (sgO 2 (-1) g3 false false 9 km ks ua ul uc))) o
                have y1 := y 1
                have y2 := y 2
                have HB2 := hide B2
                have HO2 := hide own2
                have HOR := hide hor
                have hcapr : N ≤ capr := by
                  rcases u8_place hor with ⟨h, _⟩ | ⟨g, c, h, h2⟩
                  · cases h
                  · cases h; exact h2
                clear hb2 B2 own2 hor y q0 q1 r0 r1 f0 f1 w8
                have hw : sgW ((2, -1, g3, false, false, t) : SgT n) (N : Int) = (N : Int) := if_pos rfl
                have hsg := unhide HSG
                rw [hw, Int.toNat_natCast] at hsg
                by_cases hrem : (N : Int) % g3 = 0
                · have hr1 : ((N : Int) % g3 != 0) = false := by simp [hrem]
                  have hseg : segX ((2, -1, g3, false, false, t) : SgT n) = some (bitsOf ks N) := by rw [hsg, if_pos ⟨Int.le_refl _, hrem⟩]
                  have HSEG := hide hseg
                  clear hseg hsg hw hrem
                  obtain ⟨v', w3, hr3, ho3, hg3⟩ := app_u8c W0.heap.size u6 acc.length N acc (bitsOf ks N) w2 (unhide HO2) gr capr (bitsOf_length _ _) (fun j u hj => (unhide HOR).cells rfl j u (bits_first (Nat.le_refl _) hj)) (by have := unhide HNN; omega) (unhide HB2).size 22
                  have B3 := (unhide HB2).grown hg3 (unhide HB2).size fun k hk => ((unhide HO2).lt k hk).1
                  obtain ⟨va, vc, rfl⟩ : ∃ va vc, v' = .slice va (acc.length + N) vc := by
                    rcases u8_place ho3 with ⟨h, h0, _⟩ | ⟨g, c, h, _⟩
                    · exact ⟨none, 0, by rw [h, h0]⟩
                    · exact ⟨_, c, h⟩
                  have hxl : (acc ++ (bitsOf ks N)).length = acc.length + N := by rw [List.length_append, bitsOf_length]
                  have HR := hide hr3
                  have HB3 := hide B3
                  have HO3 := hide ho3
                  have HXL := hide hxl
                  obtain ⟨⟨q0, q1⟩, ⟨r0, r1⟩, f0, f1⟩ := unhide HK w3 B3
                  clear hr3 ho3 hg3 B3 hxl
                  by_cases hfull : (32000 : Int) < ((acc.length + N : Nat) : Int)
                  · have hans := builtA_of ((unhide HBXK).symm.trans (buildX_full (unhide HSEG) (by have := unhide HXL; rw [List.length_append] at this; omega)))
                    have HA := hide hans
                    clear hans
                    go_wp2_with (at_builtin; refine Go.Lib.wpList_append_run _ rfl (.tmp 103) (.tmp 106) 22 22 rfl u6 (.slice (some ⟨gr, 0, none⟩) N capr) rfl rfl _ _ (unhide HR) ?_)
                    exact bodyPost_ret (v := .tuple #[.agg #[.int .i64 0, .string ⟨#[]⟩], .int .i64 3]) (by simp [results, Tryz.results6, go_sem, q0, q1]) rfl
                      ⟨by rw [unhide HA]; rfl, (((unhide Hb0).trans ((unhide HB3).mono (unhide Hb0).size)).setCell (p := ⟨w.heap.size, 0, none⟩) (Nat.le_refl _) _).setCell (p := ⟨w.heap.size, 1, none⟩) (Nat.le_refl _) _⟩
                  · go_wp2_with (at_builtin; refine Go.Lib.wpList_append_run _ rfl (.tmp 103) (.tmp 106) 22 22 rfl u6 (.slice (some ⟨gr, 0, none⟩) N capr) rfl rfl _ _ (unhide HR) ?_)
                    go_roundw
                    case rel => exact ⟨k + 1, acc ++ (bitsOf ks N), hlt, by go_num, by rw [unhide HXL]; exact unhide HO3, unhide HB3, fun x hx => by
                      rcases List.mem_append.1 hx with h | h
                      · exact unhide H01 x h
                      · exact segX_01 (unhide HSEG) x h, by rw [unhide HXL]; omega, by rw [← buildX_on (unhide HSEG) (by have := unhide HXL; rw [List.length_append] at this; omega)]; exact unhide HBXK⟩
                    case measure => simp [intOf]; omega
                · have hr1 : ((N : Int) % g3 != 0) = true := by simpa using hrem
                  have hseg : segX ((2, -1, g3, false, false, t) : SgT n) = none := by rw [hsg, if_neg fun h => hrem h.2]
                  clear hsg hw hrem
                  have hans := builtA_of ((unhide HBXK).symm.trans (buildX_none hseg))
                  have HA := hide hans
                  clear hans hseg
                  obtain ⟨⟨q0, q1⟩, ⟨r0, r1⟩, f0, f1⟩ := unhide HK w2 (unhide HB2)
                  go_wp2_with fail
                  exact bodyPost_ret (v := .tuple #[.agg #[.int .i64 0, .string ⟨#[]⟩], .int .i64 5]) (by simp [results, Tryz.results6, go_sem, q0, q1]) rfl
                    ⟨by rw [unhide HA]; rfl, (((unhide Hb0).trans ((unhide HB2).mono (unhide Hb0).size)).setCell (p := ⟨w.heap.size, 0, none⟩) (Nat.le_refl _) _).setCell (p := ⟨w.heap.size, 1, none⟩) (Nat.le_refl _) _⟩
              · have hopen' : (g2 == -1) = false := by simpa using hopen
                have hm0 := Int.mul_nonneg (show 0 ≤ g2 by omega) (show 0 ≤ g3 by omega)
                obtain ⟨W, hW⟩ : ∃ W : Nat, g2 * g3 = (W : Int) := ⟨(g2 * g3).toNat, by omega⟩
                have hWb : W ≤ 8192000 := by have := (wide_bounds p1 p2 p3 p4).2; omega
                have hw : sgW ((2, g2, g3, false, false, t) : SgT n) (N : Int) = (W : Int) := (if_neg hopen).trans hW
                have hdiv : (W : Int) % g3 = 0 := by rw [← hW]; exact Int.mul_emod_left _ _
                have hr1 : ((W : Int) % g3 != 0) = false := by simp [hdiv]
                have hsg := unhide HSG
                rw [hw, Int.toNat_natCast] at hsg
                have w9 : IntKind.i64.wrap (g2 * g3) = (W : Int) := w1.trans hW
                have HSG2 := hide hsg
                have HDIV := hide hdiv
                clear hsg hw hdiv w1 hm0 hopen
                go_wp2_with fail
                first | rw [hN8] | skip
                first | rw [hW] | skip
                refine ((unhide HRW) _).mono ?_
                rintro e w2 ⟨gr, capr, rfl, hor, hb2⟩
                rw [Int.toNat_natCast] at hor ⊢
                have B2 := (unhide HBa).trans (hb2.mono (unhide HBa).size)
                have own2 := ownsRow_below (unhide HOWa) hb2
                have y := fun o => cell_of_heap ((hb2.block wr.heap.size (by simp)).trans (heap_new wr (sgO 2 g2 g3 false false 9 km ks ua ul uc))) o
                have y1 := y 1
                have y2 := y 2
                have HB2 := hide B2
                have HO2 := hide own2
                have HOR := hide hor
                have hcapr : N ≤ capr := by
                  rcases u8_place hor with ⟨h, _⟩ | ⟨g, c, h, h2⟩
                  · cases h
                  · cases h; exact h2
                clear hb2 B2 own2 hor y q0 q1 r0 r1 f0 f1 w8
                clear w9
                by_cases hle : W ≤ N
                · have hle1 : ¬ (N : Int) < (W : Int) := by omega
                  have hle2 : (W : Int) ≤ (capr : Int) := by omega
                  have hle3 : (0 : Int) ≤ (W : Int) := by omega
                  have hseg : segX ((2, g2, g3, false, false, t) : SgT n) = some (bitsOf ks W) := by rw [unhide HSG2, if_pos ⟨by omega, unhide HDIV⟩]
                  have HSEG := hide hseg
                  clear hseg
                  obtain ⟨v', w3, hr3, ho3, hg3⟩ := app_u8c W0.heap.size u6 acc.length W acc (bitsOf ks W) w2 (unhide HO2) gr capr (bitsOf_length _ _) (fun j u hj => (unhide HOR).cells rfl j u (bits_first hle hj)) (by have := unhide HNN; omega) (unhide HB2).size 22
                  have B3 := (unhide HB2).grown hg3 (unhide HB2).size fun k hk => ((unhide HO2).lt k hk).1
                  obtain ⟨va, vc, rfl⟩ : ∃ va vc, v' = .slice va (acc.length + W) vc := by
                    rcases u8_place ho3 with ⟨h, h0, _⟩ | ⟨g, c, h, _⟩
                    · exact ⟨none, 0, by rw [h, h0]⟩
                    · exact ⟨_, c, h⟩
                  have hxl : (acc ++ (bitsOf ks W)).length = acc.length + W := by rw [List.length_append, bitsOf_length]
                  have HR := hide hr3
                  have HB3 := hide B3
                  have HO3 := hide ho3
                  have HXL := hide hxl
                  obtain ⟨⟨q0, q1⟩, ⟨r0, r1⟩, f0, f1⟩ := unhide HK w3 B3
                  clear hr3 ho3 hg3 B3 hxl
                  by_cases hfull : (32000 : Int) < ((acc.length + W : Nat) : Int)
                  · have hans := builtA_of ((unhide HBXK).symm.trans (buildX_full (unhide HSEG) (by have := unhide HXL; rw [List.length_append] at this; omega)))
                    have HA := hide hans
                    clear hans
                    go_wp2_with (at_builtin; refine Go.Lib.wpList_append_run _ rfl (.tmp 103) (.tmp 106) 22 22 rfl u6 (.slice (some ⟨gr, 0, none⟩) W capr) rfl rfl _ _ (unhide HR) ?_)
                    exact bodyPost_ret (v := .tuple #[.agg #[.int .i64 0, .string ⟨#[]⟩], .int .i64 3]) (by simp [results, Tryz.results6, go_sem, q0, q1]) rfl
                      ⟨by rw [unhide HA]; rfl, (((unhide Hb0).trans ((unhide HB3).mono (unhide Hb0).size)).setCell (p := ⟨w.heap.size, 0, none⟩) (Nat.le_refl _) _).setCell (p := ⟨w.heap.size, 1, none⟩) (Nat.le_refl _) _⟩
                  · go_wp2_with (at_builtin; refine Go.Lib.wpList_append_run _ rfl (.tmp 103) (.tmp 106) 22 22 rfl u6 (.slice (some ⟨gr, 0, none⟩) W capr) rfl rfl _ _ (unhide HR) ?_)
                    go_roundw
                    case rel => exact ⟨k + 1, acc ++ (bitsOf ks W), hlt, by go_num, by rw [unhide HXL]; exact unhide HO3, unhide HB3, fun x hx => by
                      rcases List.mem_append.1 hx with h | h
                      · exact unhide H01 x h
                      · exact segX_01 (unhide HSEG) x h, by rw [unhide HXL]; omega, by rw [← buildX_on (unhide HSEG) (by have := unhide HXL; rw [List.length_append] at this; omega)]; exact unhide HBXK⟩
                    case measure => simp [intOf]; omega
                · have hle1 : (N : Int) < (W : Int) := by omega
                  have hseg : segX ((2, g2, g3, false, false, t) : SgT n) = none := by rw [unhide HSG2, if_neg fun h => by have := h.1; omega]
                  have hans := builtA_of ((unhide HBXK).symm.trans (buildX_none hseg))
                  have HA := hide hans
                  clear hans hseg
                  obtain ⟨⟨q0, q1⟩, ⟨r0, r1⟩, f0, f1⟩ := unhide HK w2 (unhide HB2)
                  go_wp2_with fail
                  exact bodyPost_ret (v := .tuple #[.agg #[.int .i64 0, .string ⟨#[]⟩], .int .i64 5]) (by simp [results, Tryz.results6, go_sem, q0, q1]) rfl
                    ⟨by rw [unhide HA]; rfl, (((unhide Hb0).trans ((unhide HB2).mono (unhide Hb0).size)).setCell (p := ⟨w.heap.size, 0, none⟩) (Nat.le_refl _) _).setCell (p := ⟨w.heap.size, 1, none⟩) (Nat.le_refl _) _⟩
            · have hkind' : (kk != 9) = true := by simpa using hkind
              have hseg : segX ((2, g2, g3, false, false, t) : SgT n) = none := by
                obtain ⟨hk1, _⟩ := unhide HKT
                unfold segX
                rw [if_neg (show ¬ (2 : Int) = 1 by omega), if_neg (by show ¬ tK n t = 9; rw [← hk1]; exact hkind)]
              have hans := builtA_of ((unhide HBXK).symm.trans (buildX_none hseg))
              have HA := hide hans
              clear hans hseg hkind
              go_wp2_with fail
              exact bodyPost_ret (v := .tuple #[.agg #[.int .i64 0, .string ⟨#[]⟩], .int .i64 5]) (by simp [results, Tryz.results6, go_sem, q0, q1]) rfl
                ⟨by rw [unhide HA]; rfl, (((unhide Hb0).trans ((unhide HBa).mono (unhide Hb0).size)).setCell (p := ⟨w.heap.size, 0, none⟩) (Nat.le_refl _) _).setCell (p := ⟨w.heap.size, 1, none⟩) (Nat.le_refl _) _⟩

end Go.Proofs.YtcgbonlffcpofaaGreatDoor
