/- The bits of a row that is made. -/
import Derived.Test.YtcgbonlffcpofaaGreatDoorBj6
import Derived.Test.YtcgbonlffcpofaaGreatDoorSb8
namespace Go.Proofs.YtcgbonlffcpofaaGreatDoor
open Go.RowKit Go.Deep

set_option maxRecDepth 100000 in
theorem rbits_nil (R : Nat) (n : Int) (w : World) (h0 : w.cell? ⟨R, 0, none⟩ = some (.int .i64 n)) (h1 : w.cell? ⟨R, 1, none⟩ = some (.slice none 0 0)) (hR : R < w.heap.size) :
    Calls Tryz.prog 20 #[.pointer (some ⟨R, 0, none⟩)] w fun e w' => e = .returned (.agg #[.int .i64 n, .string ⟨#[]⟩]) ∧ Below w.heap.size w w' := by
  have hcv := run_convert_bytes_nil (P := Tryz.prog) (w := (w.alloc (.cells #[.int .i64 0, .string ⟨#[]⟩] 27)).drew) 22 5 Tryz.underlying22 Tryz.underlying5 0 0 9 Tryz.underlying9
  have hE : (ByteArray.empty : ByteArray) = ⟨#[]⟩ := rfl
  rw [hE] at hcv
  go_enter Tryz.func20, Tryz.ntmps20
  go_wp2_with fail
  go_region
  go_wp2_with fail
  have hc0 : ((w.alloc (.cells #[.int .i64 n, .string ⟨#[]⟩] 27)).drew).cell? ⟨w.heap.size, 0, none⟩ = some (.int .i64 n) := (two_new w _ _ _).1
  have hc1 : ((w.alloc (.cells #[.int .i64 n, .string ⟨#[]⟩] 27)).drew).cell? ⟨w.heap.size, 1, none⟩ = some (.string ⟨#[]⟩) := (two_new w _ _ _).2
  exact bodyPost_ret (v := .agg #[.int .i64 n, .string ⟨#[]⟩]) (by simp [results, Tryz.results20, go_sem, hc0, hc1]) rfl ⟨rfl, ((Below.refl w.heap.size w).alloc (Nat.le_refl _) _).drew⟩

/-- bits of what join left. -/
theorem rbits_join (R base n : Nat) (X : List Int) (w w' : World) (hX : X.length = n) (hR : R < w'.heap.size) (h : JoinEnd R base n X w w') :
    Calls Tryz.prog 20 #[.pointer (some ⟨R, 0, none⟩)] w' fun e w2 => e = .returned (.agg #[.int .i64 n, .string (strB X)]) ∧ Below w'.heap.size w' w2 := by
  obtain ⟨v, h0, h1, f0, f1, hown, hb⟩ := h
  have hs : strB X = strOfNums (bytesAt X n) := by unfold strB; rw [hX]
  rcases hown.2 with ⟨rfl, hm⟩ | ⟨g, cap, cur, rfl, hbg, hh, hnc, hcm, hsz, htk⟩
  · have hnil : bytesAt X n = [] := List.eq_nil_of_length_eq_zero (by rw [bytesAt_length]; omega)
    rw [hs, hnil]
    exact rbits_nil R n w' h0 h1 hR
  · rw [hs]
    exact rbits_any R g ((n + 7) / 8) cap n (bytesAt X n) w' h0 h1 hR (by rw [bytesAt_length, hX]) (fun i hi => own_cell hown i hi) (Array.getElem?_eq_some_iff.1 hh).1

end Go.Proofs.YtcgbonlffcpofaaGreatDoor
/- impl.BitBuild. -/
namespace Go.Proofs.YtcgbonlffcpofaaGreatDoor
open Go.RowKit Go.Deep

theorem strB_end (xs : List Int) (hx : ∀ x ∈ xs, x = 0 ∨ x = 1) (hl : xs.length ≤ 32000) : ∀ i, xs.length ≤ i → i < 8 * (strB xs).size → bit (strB xs) i = 0 := by
  have hlen : okLen (xs.length : Int) (strB xs) := ⟨by omega, by omega, by rw [strB_size]; omega⟩
  exact (okS_iff xs.length (strB xs) hlen).1 (by rw [okS_true hlen, Int.toNat_natCast, bitsOf_strB xs hx]; simp)

theorem JoinEnd.up {R base n : Nat} {X : List Int} {w w1 w2 : World} (h : JoinEnd R base n X w w1) (hR : R < w1.heap.size) (hb : Below w1.heap.size w1 w2) : JoinEnd R base n X w w2 := by
  obtain ⟨v, h0, h1, f0, f1, ho, hB⟩ := h
  have hh := hb.block R hR
  exact ⟨v, (World.cell?_of_block (w := w1) hh).trans h0, (World.cell?_of_block (w := w1) hh).trans h1, (World.frozen?_of_block (w := w1) hh).trans f0, (World.frozen?_of_block (w := w1) hh).trans f1, ownsRow_below ho hb, hB.trans (hb.mono (Nat.le_of_lt hR))⟩

theorem segX_len {n : Nat} {g1 g2 g3 : Int} {g4 g5 : Bool} {t : Tm n} {xs : List Int} (hok : sgOK ((g1, g2, g3, g4, g5, t) : SgT n) = true) (hok2 : okB n t = true) (h : segX ((g1, g2, g3, g4, g5, t) : SgT n) = some xs) : xs.length ≤ 32000 := by
  rw [sgOK_eq] at hok
  simp only [Bool.and_eq_true, decide_eq_true_eq] at hok
  obtain ⟨_, p5⟩ := hok
  unfold segX at h
  by_cases ht : g1 = 1
  · rw [if_pos ht] at p5
    simp only [Bool.and_eq_true, decide_eq_true_eq] at p5
    rw [if_pos ht] at h
    split at h
    · cases h
      rw [putBits_length]
      have h2 : g2 * g3 ≤ 49 := p5.2
      show (g2 * g3).toNat ≤ 32000
      omega
    · cases h
  · rw [if_neg ht] at h
    split at h
    · rename_i hk
      split at h
      · rename_i hc
        cases h
        rw [bitsOf_length]
        have hs : (tS n t).size ≤ 4000 := bin_size hok2 hk
        show (sgW ((g1, g2, g3, g4, g5, t) : SgT n) (8 * (tS n t).size)).toNat ≤ 32000
        have hc1 : sgW ((g1, g2, g3, g4, g5, t) : SgT n) (8 * (tS n t).size) ≤ 8 * (tS n t).size := hc.1
        omega
      · cases h
    · cases h

theorem all_both {n : Nat} (gs : List (SgT n)) : allX gs = ((decide (gs.length ≤ 200) && fitX gs) && okX gs) := by
  have h : (gs.all fun g => sgOK g && okB n g.2.2.2.2.2) = (fitX gs && okX gs) := by
    unfold fitX okX
    induction gs with
    | nil => rfl
    | cons g gs ih =>
      simp only [List.all_cons, ih]
      cases sgOK g <;> cases okB n g.2.2.2.2.2 <;> simp
  unfold allX
  rw [h, Bool.and_assoc]

set_option maxRecDepth 100000 in
set_option maxHeartbeats 4000000 in
theorem iBuild_any {n : Nat} (gs : List (SgT n)) (v : Value) (w : World) (hv : SgsAt (Under w.heap.size) w n gs v) (hm : Masks 0 w) :
    Calls Tryz.prog 7 #[v] w fun e w' => e = .returned (builtA gs) ∧ Below w.heap.size w w' := by
  obtain ⟨a, cap, rfl, hcap⟩ : ∃ a cap, v = .slice a gs.length cap ∧ gs.length ≤ 2 ^ 47 := by obtain ⟨a, cap, h, _, h2, _⟩ := hv; exact ⟨a, cap, h, h2⟩
  obtain ⟨W0, hW0⟩ : ∃ W0, W0 = w.alloc (.cells #[.int .i64 0, .string ⟨#[]⟩] 27) := ⟨_, rfl⟩
  have hb0 : Below w.heap.size w W0 := by rw [hW0]; exact (Below.refl _ _).alloc (Nat.le_refl _) _
  have hs0 : W0.heap.size = w.heap.size + 1 := by rw [hW0]; simp
  have hK : ∀ w', Below W0.heap.size W0 w' → (w'.cell? ⟨w.heap.size, 0, none⟩ = some (.int .i64 0) ∧ w'.cell? ⟨w.heap.size, 1, none⟩ = some (.string ⟨#[]⟩)) ∧ (w'.frozen? ⟨w.heap.size, 0, none⟩ = false ∧ w'.frozen? ⟨w.heap.size, 1, none⟩ = false) := fun w' hb => by
    have g0 := heap_new w (.cells #[.int .i64 0, .string ⟨#[]⟩] 27)
    rw [← hW0] at g0
    have k0 := (hb.block _ (by omega)).trans g0
    exact ⟨⟨cell_of_heap k0 0, cell_of_heap k0 1⟩, frozen_of_heap k0 0, frozen_of_heap k0 1⟩
  have HK := hide hK
  have Hb0 := hide hb0
  have HW := hide hW0
  have HV := hide (hv.up hb0)
  have HM := hide (hm.keep hb0)
  have hA := hide (fun w' (hb : Below W0.heap.size W0 w') => areSegs_any gs _ w' ((hv.up hb0).up hb))
  have hT := hide (fun w' (hb : Below W0.heap.size W0 w') => haveTerms_any gs _ w' ((hv.up hb0).up hb))
  have hno : allX gs = false → builtA gs = .tuple #[.agg #[.int .i64 0, .string ⟨#[]⟩], .int .i64 1] := fun h => by rw [builtA_of (builtX_no h)]; rfl
  have HNO := hide hno
  clear hK hb0 hv hm hno
  go_enter Tryz.func7, Tryz.ntmps7
  go_wp2_with fail
  rw [← unhide HW]
  clear hW0
  refine ((unhide hA) W0 (Below.refl _ _)).mono ?_
  rintro e w1 ⟨rfl, hb1⟩
  have HB1 := hide hb1
  obtain ⟨⟨q0, q1⟩, f0, f1⟩ := unhide HK w1 hb1
  clear hb1
  cases hfit : (decide (gs.length ≤ 200) && fitX gs) with
  | false =>
    have hans := unhide HNO (by rw [all_both, hfit]; rfl)
    have HAN := hide hans
    clear hans hfit
    go_wp2_with fail
    exact bodyPost_ret (v := .tuple #[.agg #[.int .i64 0, .string ⟨#[]⟩], .int .i64 1]) (by simp [results, Tryz.results7, go_sem, q0, q1]) rfl
      ⟨by rw [unhide HAN], (((unhide Hb0).trans ((unhide HB1).mono (unhide Hb0).size)).setCell (p := ⟨w.heap.size, 0, none⟩) (Nat.le_refl _) _).setCell (p := ⟨w.heap.size, 1, none⟩) (Nat.le_refl _) _⟩
  | true =>
    have HFIT := hide hfit
    clear hfit
    go_wp2_with fail
    refine ((unhide hT) w1 (unhide HB1)).mono ?_
    rintro e w2 ⟨rfl, hb2⟩
    have hw2 := (unhide HB1).trans (hb2.mono (unhide HB1).size)
    have HB2 := hide hw2
    clear q0 q1 f0 f1 hb2
    obtain ⟨⟨q0, q1⟩, f0, f1⟩ := unhide HK w2 hw2
    clear hw2
    cases hokx : okX gs with
    | false =>
      have hans := unhide HNO (by rw [all_both, hokx]; simp)
      have HAN := hide hans
      clear hans hokx
      go_wp2_with fail
      exact bodyPost_ret (v := .tuple #[.agg #[.int .i64 0, .string ⟨#[]⟩], .int .i64 1]) (by simp [results, Tryz.results7, go_sem, q0, q1]) rfl
        ⟨by rw [unhide HAN], (((unhide Hb0).trans ((unhide HB2).mono (unhide Hb0).size)).setCell (p := ⟨w.heap.size, 0, none⟩) (Nat.le_refl _) _).setCell (p := ⟨w.heap.size, 1, none⟩) (Nat.le_refl _) _⟩
    | true =>
      have hall : allX gs = true := by rw [all_both, unhide HFIT, hokx]; rfl
      have hyes := builtX_yes hall
      have hea : ∀ i (hi : i < gs.length), (sgOK gs[i] && okB n gs[i].2.2.2.2.2) = true := fun i hi => by
        unfold allX at hall
        exact List.all_eq_true.1 (Bool.and_eq_true_iff.1 hall).2 _ (List.getElem_mem hi)
      have HALL := hide hea
      have HY := hide hyes
      obtain ⟨Wl, hWl⟩ : ∃ Wl, Wl = w2.alloc (.cells #[.int .i64 0, .slice none 0 0] 48) := ⟨_, rfl⟩
      have hn0 := heap_new w2 (.cells #[.int .i64 0, .slice none 0 0] 48)
      rw [← hWl] at hn0
      have hsl : Wl.heap.size = w2.heap.size + 1 := by rw [hWl]; simp
      have hbl : Below W0.heap.size W0 Wl := by rw [hWl]; exact (unhide HB2).alloc (unhide HB2).size _
      have hje : JoinEnd w2.heap.size (w2.heap.size + 1) 0 [] Wl Wl := ⟨.slice none 0 0, cell_of_heap hn0 0, cell_of_heap hn0 1, frozen_of_heap hn0 0, frozen_of_heap hn0 1, World.ownsRow_nil Wl _ _ 1, Below.refl _ _⟩
      have HJE := hide hje
      have HBL := hide hbl
      have HWL := hide hWl
      clear hall hyes hea hokx hn0 hbl hje q0 q1 f0 f1
      go_wp2_with fail
      rw [← unhide HWL]
      clear hWl
      go_loopw [20] (fun iv wr => ∃ (k : Nat) (acc : List Int), k ≤ gs.length ∧ iv = .int .i64 k ∧ JoinEnd w2.heap.size (w2.heap.size + 1) acc.length acc Wl wr ∧ (∀ x ∈ acc, x = 0 ∨ x = 1) ∧ acc.length ≤ 32000 ∧ buildX acc (gs.drop k) = builtX gs) (fun iv _ => gs.length - (intOf iv).toNat)
      case atStart => exact ⟨0, [], by omega, rfl, unhide HJE, fun x hx => (by cases hx), by simp, by rw [List.drop_zero]; exact (unhide HY).symm⟩
      case round =>
        obtain ⟨k, acc, hk, rfl, hje, h01, hacc, hbx⟩ := hrel
        have hbr : Below W0.heap.size W0 wr := by
          obtain ⟨_, _, _, _, _, _, hb⟩ := hje
          exact (unhide HBL).trans (hb.mono (unhide HB2).size)
        have hRw : w2.heap.size < wr.heap.size := by
          obtain ⟨_, _, _, _, _, _, hb⟩ := hje
          have := hb.size
          omega
        have HJ := hide hje
        have HB := hide hbr
        have H01 := hide h01
        have HBX := hide hbx
        clear hje hbr h01 hbx HJE
        by_cases hlt : k < gs.length
        case neg =>
          obtain rfl : k = gs.length := by omega
          have hend : builtX gs = (0, acc) := by
            have := unhide HBX
            rw [List.drop_length] at this
            exact this.symm
          have hans := builtA_of hend
          have hrb := rbits_join w2.heap.size (w2.heap.size + 1) acc.length acc Wl wr rfl hRw (unhide HJ)
          generalize strB acc = S at hans hrb
          have HA := hide hans
          have HRB := hide hrb
          clear hend hans hrb
          go_wp2_with fail
          refine (unhide HRB).mono ?_
          rintro e w3 ⟨rfl, hb3⟩
          have hw3 := (unhide HB).trans (hb3.mono (unhide HB).size)
          obtain ⟨⟨q0, q1⟩, f0, f1⟩ := unhide HK w3 hw3
          have HW3 := hide hw3
          clear hb3 hw3
          go_wp2_with fail
          exact bodyPost_ret (v := .tuple #[.agg #[.int .i64 acc.length, .string S], .int .i64 0]) (by simp [results, Tryz.results7, go_sem, q0, q1]) rfl
            ⟨by rw [unhide HA], (((unhide Hb0).trans ((unhide HW3).mono (unhide Hb0).size)).setCell (p := ⟨w.heap.size, 0, none⟩) (Nat.le_refl _) _).setCell (p := ⟨w.heap.size, 1, none⟩) (Nat.le_refl _) _⟩
        case pos =>
          obtain ⟨b, off, kk, km, ks, ku, rfl, hS, e0, e1, e2, e3, e4, e5, e6, e7, e8, i1, i2, i3, hr⟩ := ((unhide HV).up (unhide HB)).at k hlt
          obtain ⟨g1, g2, g3, g4, g5, t, hgk⟩ : ∃ g1 g2 g3 g4 g5 t, gs[k] = ((g1, g2, g3, g4, g5, t) : SgT n) := ⟨_, _, _, _, _, _, rfl⟩
          have hok := (unhide HALL) k hlt
          have hbx := unhide HBX
          rw [List.drop_eq_getElem_cons hlt, hgk] at hbx
          rw [hgk] at e0 e1 e2 e3 e4 hr hok
          dsimp only at e0 e1 e2 e3 e4 hr hok
          have hkt := hr.head
          have HOKS := hide (Bool.and_eq_true_iff.1 hok)
          obtain ⟨_, _, _, ua, ul, uc, h1, h2, h3, rfl⟩ := hr.shape
          obtain ⟨hok1, hok2⟩ := Bool.and_eq_true_iff.1 hok
          have HBXK := hide hbx
          have HBa := hide ((unhide HB).alloc (unhide HB).size (sgO g1 g2 g3 g4 g5 kk km ks ua ul uc))
          have HC := hide (segBuild_any g1 g2 g3 g4 g5 kk km ks ua ul uc (wr.alloc (sgO g1 g2 g3 g4 g5 kk km ks ua ul uc)) t ((unhide HM).keep (unhide HBa)) hok1 hok2 hkt)
          have HJa := hide ((unhide HJ).up hRw ((Below.refl wr.heap.size wr).alloc (Nat.le_refl _) (sgO g1 g2 g3 g4 g5 kk km ks ua ul uc)))
          have hRa : w2.heap.size < (wr.alloc (sgO g1 g2 g3 g4 g5 kk km ks ua ul uc)).heap.size := by simp; omega
          have HRA := hide hRa
          clear hr h1 h2 h3 i1 i2 i3 hok hok1 hok2 hbx hgk hkt hRa
          go_wp2_with fail
          refine (unhide HC).mono ?_
          rintro e w3 ⟨rfl, hb3⟩
          have hw3 := (unhide HBa).trans (hb3.mono (unhide HBa).size)
          have hj3 := (unhide HJa).up (unhide HRA) hb3
          have hR3 : w2.heap.size < w3.heap.size := Nat.lt_of_lt_of_le (unhide HRA) hb3.size
          have HW3 := hide hw3
          have HJ3 := hide hj3
          have HR3 := hide hR3
          clear hb3 hw3
          cases hseg : segX ((g1, g2, g3, g4, g5, t) : SgT n) with
          | none =>
            have hans := builtA_of ((unhide HBXK).symm.trans (buildX_none hseg))
            have HAN := hide hans
            have hK3 := fun x : Obj => unhide HK (w3.alloc x) ((unhide HW3).alloc (unhide HW3).size x)
            have q0 := fun x => (hK3 x).1.1
            have q1 := fun x => (hK3 x).1.2
            have f0 := fun x => (hK3 x).2.1
            have f1 := fun x => (hK3 x).2.2
            clear hans hK3 hseg hj3 hR3
            simp only [segA]
            go_wp2_with fail
            exact bodyPost_ret (v := .tuple #[.agg #[.int .i64 0, .string ⟨#[]⟩], .int .i64 5]) (by simp [results, Tryz.results7, go_sem, q0, q1]) rfl
              ⟨by rw [unhide HAN]; rfl, ((((unhide Hb0).trans ((unhide HW3).mono (unhide Hb0).size)).alloc ((unhide Hb0).trans ((unhide HW3).mono (unhide Hb0).size)).size _).setCell (p := ⟨w.heap.size, 0, none⟩) (Nat.le_refl _) _).setCell (p := ⟨w.heap.size, 1, none⟩) (Nat.le_refl _) _⟩
          | some xs =>
            have hx01 := segX_01 hseg
            have hxl := segX_len (unhide HOKS).1 (unhide HOKS).2 hseg
            have hsz := strB_size xs
            have hse := strB_end xs hx01 hxl
            have hbs := bitsOf_strB xs hx01
            have hsA : segA (some xs) = .tuple #[.agg #[.int .i64 xs.length, .string (strB xs)], .int .i64 0] := rfl
            rw [hsA]
            generalize strB xs = S at hsz hse hbs ⊢
            obtain ⟨vj, j0, j1, jf0, jf1, jo, jB⟩ := hj3
            obtain ⟨ja, jc, rfl⟩ : ∃ ja jc, vj = .slice ja ((acc.length + 7) / 8) jc := by
              rcases u8_place jo with ⟨h, h0, _⟩ | ⟨g, c, h, _⟩
              · exact ⟨none, 0, by rw [h, h0]⟩
              · exact ⟨_, c, h⟩
            have hK3 := fun x : Obj => unhide HK (w3.alloc x) ((unhide HW3).alloc (unhide HW3).size x)
            have q0 := fun x => (hK3 x).1.1
            have q1 := fun x => (hK3 x).1.2
            have f0 := fun x => (hK3 x).2.1
            have f1 := fun x => (hK3 x).2.2
            have hblk := fun x : Obj => Below.heap_alloc w3 x w2.heap.size hR3
            have F0 := fun x : Obj => (World.cell?_of_block (a := ⟨w2.heap.size, 0, none⟩) (hblk x)).trans j0
            have F1 := fun x : Obj => (World.cell?_of_block (a := ⟨w2.heap.size, 1, none⟩) (hblk x)).trans j1
            have HJN := hide (fun x : Obj => join_any w2.heap.size (w2.heap.size + 1) xs.length acc S ja jc (w3.alloc x) (F0 x) (F1 x) ((World.frozen?_of_block (w := w3) (hblk x)).trans jf0) ((World.frozen?_of_block (w := w3) (hblk x)).trans jf1)
              (ownsRow_below jo ((Below.refl w3.heap.size w3).alloc (Nat.le_refl _) x)) (Nat.lt_succ_self _) (by simp; omega) (unhide H01) (by omega) (by omega) hsz hse)
            have HSEG := hide hseg
            have HX01 := hide hx01
            have HBS := hide hbs
            have HJB := hide (fun x : Obj => (jB.alloc (Nat.le_of_lt (Nat.lt_of_lt_of_le hR3 (Nat.le_refl _))) x))
            clear hA hT hK3 hsz hse hbs hsA hseg hx01 j0 j1 jf0 jf1 jo jB hblk hR3
            by_cases hfull : (32000 : Int) < (acc.length : Int) + (xs.length : Int)
            · have hans := builtA_of ((unhide HBXK).symm.trans (buildX_full (unhide HSEG) (by omega)))
              have HAN := hide hans
              clear hans
              go_wp2_with fail
              exact bodyPost_ret (v := .tuple #[.agg #[.int .i64 0, .string ⟨#[]⟩], .int .i64 3]) (by simp [results, Tryz.results7, go_sem, q0, q1]) rfl
                ⟨by rw [unhide HAN]; rfl, ((((unhide Hb0).trans ((unhide HW3).mono (unhide Hb0).size)).alloc ((unhide Hb0).trans ((unhide HW3).mono (unhide Hb0).size)).size _).setCell (p := ⟨w.heap.size, 0, none⟩) (Nat.le_refl _) _).setCell (p := ⟨w.heap.size, 1, none⟩) (Nat.le_refl _) _⟩
            · go_wp2_with fail
              refine ((unhide HJN) _).mono ?_
              rintro e w4 ⟨rfl, hj4⟩
              rw [unhide HBS] at hj4
              have hje4 : JoinEnd w2.heap.size (w2.heap.size + 1) (acc ++ xs).length (acc ++ xs) Wl w4 := by
                obtain ⟨vk, k0, k1, kf0, kf1, ko, kB⟩ := hj4
                rw [List.length_append]
                exact ⟨vk, k0, k1, kf0, kf1, ko, (unhide HJB _).trans kB⟩
              have HJ4 := hide hje4
              clear hj4 hje4 q0 q1 f0 f1 F0 F1
              go_wp2_with fail
              go_roundw
              case rel => exact ⟨k + 1, acc ++ xs, hlt, by go_num, unhide HJ4, fun x hx => by
                rcases List.mem_append.1 hx with h | h
                · exact unhide H01 x h
                · exact unhide HX01 x h, by rw [List.length_append]; omega, by rw [← buildX_on (unhide HSEG) (by omega)]; exact unhide HBXK⟩
              case measure => simp [intOf]; omega

end Go.Proofs.YtcgbonlffcpofaaGreatDoor
