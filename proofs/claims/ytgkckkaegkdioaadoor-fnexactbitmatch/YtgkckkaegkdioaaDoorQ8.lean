/- The laws' helpers on rows of bits: szBits, toBits. -/
import Derived.Test.YtgkckkaegkdioaaDoorQ7
import Derived.Test.YtgkckkaegkdioaaDoorQ2
namespace Go.Proofs.YtgkckkaegkdioaaDoor
open Go.RowKit Go.Deep

set_option maxRecDepth 100000 in
theorem szB_any (n : Int) (s : ByteArray) (l : Int) (w : World) (hs : s.size ≤ 9223372036854775807) (h0 : 0 ≤ l) (hl : l ≤ 1048576) :
    Calls Tryd.prog 4 #[.agg #[.int .i64 n, .string s], .int .i64 l] w fun e w' => e = .returned (.int .i64 (leftB s l)) ∧ Below w.heap.size w w' := by
  by_cases h : (s.size : Int) ≤ l
  · have hr := hide (show leftB s l = l - s.size from if_pos h)
    have h1 : ¬ l - (s.size : Int) < 0 := by omega
    go_enter Tryd.func4, Tryd.ntmps4
    go_wp2_with fail
    go_ret
    exact ⟨by rw [unhide hr]; rfl, (Below.refl w.heap.size w).alloc (Nat.le_refl _) _⟩
  · have hr := hide (show leftB s l = -1 from if_neg h)
    have h1 : l - (s.size : Int) < 0 := by omega
    go_enter Tryd.func4, Tryd.ntmps4
    go_wp2_with fail
    go_ret
    exact ⟨by rw [unhide hr]; rfl, (Below.refl w.heap.size w).alloc (Nat.le_refl _) _⟩

set_option maxRecDepth 100000 in
theorem toB_any (n : Int) (s : ByteArray) (w : World) :
    Calls Tryd.prog 7 #[.agg #[.int .i64 n, .string s]] w fun e w' => e = .returned (.agg #[.int .i64 n, .string s]) ∧ Below w.heap.size w w' := by
  go_enter Tryd.func7, Tryd.ntmps7
  go_wp2_with fail
  have hc := two_new (w.alloc (.cells #[.int .i64 n, .string s] 23)) (.int .i64 n) (.string s) 30
  simp only [World.size_alloc] at hc
  have hc0 := (World.cell?_alloc_past (w := (w.alloc (.cells #[.int .i64 n, .string s] 23)).alloc (.cells #[.int .i64 n, .string s] 30)) (.cells #[.int .i64 n, .string s] 30) _ _ (show w.heap.size + 1 < _ by simp)).trans hc.1
  have hc1 := (World.cell?_alloc_past (w := (w.alloc (.cells #[.int .i64 n, .string s] 23)).alloc (.cells #[.int .i64 n, .string s] 30)) (.cells #[.int .i64 n, .string s] 30) _ _ (show w.heap.size + 1 < _ by simp)).trans hc.2
  exact bodyPost_ret (v := .agg #[.int .i64 n, .string s]) (by simp [results, Tryd.results7, go_sem, hc0, hc1]) rfl ⟨rfl, (((Below.refl w.heap.size w).alloc (Nat.le_refl _) _).alloc (by simp) _).alloc (by simp; omega) _⟩

end Go.Proofs.YtgkckkaegkdioaaDoor
/- The law of BitMatch: its own walk. -/
namespace Go.Proofs.YtgkckkaegkdioaaDoor
open Go.RowKit Go.Deep

theorem siz_tot : ∀ (n : Nat) (t : Tm n), siz n t ≤ 1 + tot n t
  | 0, t => t.elim
  | n + 1, (k, m, s, ks) => by
    have h : ∀ l : List (Tm n), sizS l ≤ l.length + totS l := by
      intro l
      induction l with
      | nil => simp [sizS, totS]
      | cons t l ih =>
        have h1 := siz_tot n t
        have e1 : sizS (t :: l) = siz n t + sizS l := by simp [sizS]
        have e2 : totS (t :: l) = tot n t + totS l := by simp [totS]
        rw [e1, e2, List.length_cons]; omega
    have := h ks
    show 1 + sizS ks ≤ 1 + (s.size + (ks.length + totS ks))
    omega
theorem mkG_tot {n : Nat} (gs : List (SgT (n + 1))) : mkG gs ≤ 8 * gs.length + 3 * totG gs := by
  induction gs with
  | nil => simp [mkG, totG]
  | cons g gs ih =>
    have h1 := siz_tot (n + 1) g.2.2.2.2.2
    rw [siz_kids] at h1
    have e1 : mkG (g :: gs) = (8 + 3 * sizS (kidsOf g.2.2.2.2.2)) + mkG gs := by simp [mkG]
    have e2 : totG (g :: gs) = tot (n + 1) g.2.2.2.2.2 + totG gs := by simp [totG]
    rw [e1, e2, List.length_cons]; omega
theorem Out.from {lo hi B : Nat} {w w' : World} (h : Out lo hi w w') (hB : B ≤ lo) (hs : B ≤ w.heap.size) : Below B w w' :=
  ⟨h.os, h.tape, h.output, h.size, fun b hb => h.block b (by omega) (.inl (by omega))⟩
theorem leaf_fresh {w w' : World} {ts : List (Tm 1)} {u : Value} (h : SAt (Fresh w w') w' (TAt (Fresh w w') w' 1) ts u) {wi : World} (hk : ∀ b, w.heap.size ≤ b → b < w'.heap.size → wi.heap[b]? = w'.heap[b]?) (hs : w'.heap.size ≤ wi.heap.size) :
    SAt (Under wi.heap.size) wi (TAt (Under wi.heap.size) wi 1) ts u :=
  (h.keep (fun b hb => hk b hb.1 hb.2) fun _ _ _ _ _ _ ht => ht.keep fun b hb => hk b hb.1 hb.2).mono (fun _ hb => Nat.lt_of_lt_of_le hb.2 hs) fun _ _ _ _ _ _ ht => ht.mono fun _ hb => Nat.lt_of_lt_of_le hb.2 hs

set_option maxRecDepth 100000 in
set_option maxHeartbeats 4000000 in
theorem law12_any {n : Nat} (L : Int) (s : ByteArray) (gs : List (SgT (n + 1))) (v : Value) (w : World) (hv : SgsAt (Under w.heap.size) w (n + 1) gs v) (hm : Masks 0 w) (hs : s.size ≤ 9223372036854775807) :
    Calls Tryd.prog 3 #[.agg #[.int .i64 L, .string s], v] w fun e w' => e = .returned (.bool true) ∧ Below w.heap.size w w' := by
  have hbx := hide ((Below.refl w.heap.size w).alloc (Nat.le_refl _) (.cells #[.int .i64 L, .string s] 23))
  have hsz := hide (fun w => szB_any L s 1048576 w hs (by omega) (by omega))
  have HM := hide hm
  have HV := hide hv
  obtain ⟨a, cap, rfl⟩ : ∃ a cap, v = .slice a gs.length cap := by obtain ⟨a, cap, h, _⟩ := hv; exact ⟨a, cap, h⟩
  clear hv hm
  by_cases hl : s.size ≤ 1048576
  rotate_left
  · have hle : leftB s 1048576 = -1 := if_neg (by omega)
    go_enter Tryd.func3, Tryd.ntmps3
    go_wp2_with fail
    refine (unhide hsz _).mono ?_
    rintro e w1 ⟨rfl, hb1⟩
    rw [hle]
    have H1 := hide hb1
    clear hb1
    go_wp2_with fail
    go_ret
    exact ⟨rfl, (unhide hbx).trans ((unhide H1).mono (by simp))⟩
  have hle : leftB s 1048576 = 1048576 - (s.size : Int) := if_pos (by omega)
  have hzg := hide (fun w' (hb : Below w.heap.size w w') => szSegS_any gs (.slice a gs.length cap) (1048576 - (s.size : Int)) w' ((unhide HV).up hb) (by omega) (by omega))
  by_cases hg : gs.length + totG gs + s.size ≤ 1048576
  rotate_left
  · have hlg : left (gs.length + totG gs) (1048576 - (s.size : Int)) = -1 := left_neg (by omega)
    rw [hlg] at hzg
    have hnn : ¬ (1048576 : Int) - (s.size : Int) < 0 := by omega
    go_enter Tryd.func3, Tryd.ntmps3
    go_wp2_with fail
    refine (unhide hsz _).mono ?_
    rintro e w1 ⟨rfl, hb1⟩
    rw [hle]
    have H1 := hide ((unhide hbx).trans (hb1.mono (by simp)))
    clear hb1
    go_wp2_with fail
    refine ((unhide hzg) w1 (unhide H1)).mono ?_
    rintro e w2 ⟨rfl, hb2⟩
    have H2 := hide ((unhide H1).trans (hb2.mono (unhide H1).size))
    clear hb2
    go_wp2_with fail
    go_ret
    exact ⟨rfl, unhide H2⟩
  have hlg : left (gs.length + totG gs) (1048576 - (s.size : Int)) = (1048576 - (s.size : Int)) - ((gs.length + totG gs : Nat) : Int) := left_pos (by omega)
  rw [hlg] at hzg
  have hnn : ¬ (1048576 : Int) - (s.size : Int) < 0 := by omega
  have hnn2 : ¬ (1048576 : Int) - (s.size : Int) - ((gs.length + totG gs : Nat) : Int) < 0 := by omega
  obtain ⟨c, ts, hA⟩ := matA_ex L s gs
  have hcc : (c != c) = false := by simp
  have HTL := hide (matA_len hA)
  have HTo := hide (fun w' (hb : Below w.heap.size w w') => toSegOS_any gs (.slice a gs.length cap) w' ((unhide HV).up hb) (by omega))
  have HSP := hide (fun (u : Value) (w' : World) (hu : SgsAt (Under w'.heap.size) w' (n + 1) gs u) => sMatch_any L s gs u w' hu c ts hA)
  have HIM := hide (fun (u : Value) (w' : World) (hu : SgsAt (Under w'.heap.size) w' (n + 1) gs u) (hM : Masks 0 w') => iMatch_any L s gs u w' hu hM hl c ts hA)
  have hmk : 1 + mkG gs ≤ 100000000 := by have := mkG_tot gs; omega
  have HMK := hide hmk
  clear hA hlg hmk hl hg
  generalize (1048576 : Int) - (s.size : Int) - ((gs.length + totG gs : Nat) : Int) = z2 at hzg hnn2
  generalize hz1 : (1048576 : Int) - (s.size : Int) = z1 at hle hzg hnn
  clear hz1
  go_enter Tryd.func3, Tryd.ntmps3
  go_wp2_with fail
  refine (unhide hsz _).mono ?_
  rintro e w1 ⟨rfl, hb1⟩
  rw [hle]
  have hB1 := hb1.mono (show w.heap.size + 1 ≤ _ by simp)
  obtain ⟨f0, f1⟩ := box2 w _ _ _ hB1
  have K1 := hide hB1
  have H1 := hide ((unhide hbx).trans (hb1.mono (by simp)))
  clear hb1 hB1 hle
  go_wp2_with fail
  refine ((unhide hzg) w1 (unhide H1)).mono ?_
  rintro e w2 ⟨rfl, hb2⟩
  have hB2 := (unhide K1).trans (hb2.mono (by have := (unhide K1).size; simpa using this))
  clear f0 f1
  obtain ⟨f0, f1⟩ := box2 w _ _ _ hB2
  have K2 := hide hB2
  clear hb2 hB2
  go_wp2_with fail
  refine (toB_any L s _).mono ?_
  rintro e w3 ⟨rfl, hb3⟩
  have hB3 := (unhide K2).trans (hb3.mono (by have := (unhide K2).size; simpa using this))
  have K3 := hide hB3
  have H3 := hide ((unhide hbx).trans (hB3.mono (Nat.le_succ _)))
  clear hb3 hB3 f0 f1
  go_wp2_with fail
  refine ((unhide HTo) w3 (unhide H3)).mono ?_
  rintro e w4 ⟨u4, rfl, hu4, _, hb4⟩
  have hB4 := (unhide K3).trans (hb4.mono (by have := (unhide K3).size; simpa using this))
  have K4 := hide hB4
  have HU4 := hide (hu4.mono fun b hb => hb.2 : SgsAt (Under w4.heap.size) w4 (n + 1) gs u4)
  clear hu4 hb4 hB4
  go_wp2_with fail
  refine ((unhide HSP) u4 w4 (unhide HU4)).mono ?_
  rintro e w5 ⟨hb5, u5, rfl, hs5⟩
  have hB5 := (unhide K4).trans (hb5.mono (by have := (unhide K4).size; simpa using this))
  have K5 := hide hB5
  have HS5 := hide hs5
  have H5 := hide ((unhide hbx).trans (hB5.mono (Nat.le_succ _)))
  have HZ5 := hide (show w.heap.size + 1 ≤ w5.heap.size by have := hB5.size; simpa using this)
  have HZ45 := hide hb5.size
  clear hb5 hs5 hB5 HU4
  go_wp2_with fail
  refine ((unhide HTo) w5 (unhide H5)).mono ?_
  rintro e w6 ⟨u6, rfl, hu6, ho6, hb6⟩
  have k6 := hb6
  obtain ⟨f0, f1⟩ := box2 w _ _ _ ((unhide K5).trans (k6.mono (unhide HZ5)))
  have K6 := hide k6
  have HU6 := hide (hu6.mono fun b hb => hb.2 : SgsAt (Under w6.heap.size) w6 (n + 1) gs u6)
  have HO6 := hide ho6
  clear hu6 ho6 hb6 k6
  go_wp2_with fail
  refine (toB_any L s _).mono ?_
  rintro e w7 ⟨rfl, hb7⟩
  have k7 := (unhide K6).trans (hb7.mono (unhide K6).size)
  have K7 := hide k7
  have HU7 := hide ((unhide HU6).up hb7)
  have HO7 := hide ((unhide HO6).keep fun b _ h2 => hb7.block b h2)
  have HZ67 := hide hb7.size
  have HM7 := hide ((unhide HM).keep ((unhide H5).trans (k7.mono (unhide H5).size)))
  clear hb7 k7 f0 f1 HU6 HO6
  go_wp2_with fail
  refine ((unhide HIM) u6 w7 (unhide HU7) (unhide HM7)).mono ?_
  rintro e w8 ⟨hb8, u8, rfl, hs8, ho8⟩
  have k8 := (unhide K7).trans (hb8.mono (unhide K7).size)
  have K8 := hide k8
  have HS8 := hide hs8
  have HI8 := hide ho8
  have HU8 := hide ((unhide HU7).up hb8)
  have HO8 := hide ((unhide HO7).keep fun b _ h2 => hb8.block b (Nat.lt_of_lt_of_le h2 (unhide HZ67)))
  have HZ78 := hide hb8.size
  have HE8 := hide (eqS_of (eq_any 1) ts u8 u5 w8 (leaf_fresh hs8 (fun _ _ _ => rfl) (Nat.le_refl _)) (leaf_fresh (unhide HS5) (fun b _ h2 => k8.block b h2) k8.size))
  clear hb8 hs8 ho8 k8 HU7 HO7
  go_wp2_with fail
  refine (unhide HE8).mono ?_
  rintro e w9 ⟨rfl, hb9⟩
  have K9 := hide ((unhide K8).trans (hb9.mono (unhide K8).size))
  have P9 := hide hb9
  clear hb9 HE8
  go_wp2_with fail
  refine ((unhide HTo) w9 ((unhide H5).trans ((unhide K9).mono (unhide H5).size))).mono ?_
  rintro e w10 ⟨u10, rfl, hu10, _, hb10⟩
  have hp10 := (unhide P9).trans (hb10.mono (unhide P9).size)
  have K10 := hide ((unhide K9).trans (hb10.mono (unhide K9).size))
  have P10 := hide hp10
  have HE := hide (eqSegS_any gs u6 u10 w10 ((unhide HU8).up hp10) (hu10.mono fun b hb => hb.2))
  clear hu10 hb10 hp10
  go_wp2_with fail
  refine (unhide HE).mono ?_
  rintro e w11 ⟨rfl, hb11⟩
  have hp11 := (unhide P10).trans (hb11.mono (unhide P10).size)
  have K11 := hide ((unhide K10).trans (hb11.mono (unhide K10).size))
  have P11 := hide hp11
  have hz6 : w6.heap.size ≤ w8.heap.size := Nat.le_trans (unhide HZ67) (unhide HZ78)
  have HG := markG_any gs u6 w5.heap.size w6.heap.size 1 w11 ((unhide HO8).keep fun b _ h2 => hp11.block b (by omega)) (Nat.le_trans hz6 hp11.size) (unhide HMK)
  obtain ⟨Z, hZ⟩ : ∃ Z : Int, Z = ((1 + mkG gs : Nat) : Int) := ⟨_, rfl⟩
  rw [← hZ] at HG
  have hZ0 : ¬ Z < 0 := by omega
  have HGG := hide HG
  have HZ6 := hide hz6
  clear hb11 hp11 HE HG hZ hz6 HU8 HO8
  go_wp2_with fail
  refine (unhide HGG).mono ?_
  rintro e w12 ⟨rfl, ho12⟩
  have k12 := (unhide K11).trans (ho12.from (Nat.le_refl _) (unhide K11).size)
  have hz6 := unhide HZ6
  have h67 := unhide HZ67
  have h78 := unhide HZ78
  have hp := unhide P11
  have hi12 : ∀ b, w7.heap.size ≤ b → b < w8.heap.size → w12.heap[b]? = w8.heap[b]? := fun b h1 h2 => (ho12.block b (Nat.lt_of_lt_of_le h2 hp.size) (.inr (by omega))).trans (hp.block b h2)
  have hs12 : w8.heap.size ≤ w12.heap.size := Nat.le_trans hp.size ho12.size
  have HE12 := hide (eqS_of (eq_any 1) ts u8 u5 w12 (leaf_fresh (unhide HS8) hi12 hs12) (leaf_fresh (unhide HS5) (fun b _ h2 => k12.block b h2) k12.size))
  have K12 := hide k12
  have HI12 := hide hi12
  have HS12 := hide hs12
  clear ho12 k12 hz6 h67 h78 hp hi12 hs12 HGG
  go_wp2_with fail
  refine (unhide HE12).mono ?_
  rintro e w13 ⟨rfl, hb13⟩
  have k13 := (unhide K12).trans (hb13.mono (unhide K12).size)
  have hs13 : w8.heap.size ≤ w13.heap.size := Nat.le_trans (unhide HS12) hb13.size
  have HMA := mark_any 1 ts u8 w7.heap.size w8.heap.size 1 w13 ((unhide HI8).keep fun b h1 h2 => (hb13.block b (Nat.lt_of_lt_of_le h2 (unhide HS12))).trans (unhide HI12 b h1 h2)) hs13 (by rw [leaf_siz']; have := unhide HTL; omega)
  obtain ⟨Y, hY⟩ : ∃ Y : Int, Y = ((1 + 3 * sizS ts : Nat) : Int) := ⟨_, rfl⟩
  rw [← hY] at HMA
  have hY0 : ¬ Y < 0 := by omega
  have hYY : (Y != Y) = false := by simp
  have HMM := hide HMA
  have HY := hide hY
  have K13 := hide k13
  have HS13 := hide hs13
  clear hb13 k13 hs13 HMA hY HE12
  go_wp2_with fail
  refine (unhide HMM).mono ?_
  rintro e w14 ⟨rfl, ho14, hk14⟩
  have k14 := (unhide K13).trans (ho14.from (Nat.le_trans (unhide K6).size (unhide HZ67)) (unhide K13).size)
  have hs14 := Nat.le_trans (unhide HS13) ho14.size
  have HH := held_any 1 ts u8 w7.heap.size w8.heap.size 1 w14 hk14 hs14 (by rw [leaf_siz']; have := unhide HTL; omega)
  rw [← unhide HY] at HH
  have HHH := hide HH
  have HK14 := hide hk14
  have K14 := hide k14
  have HS14 := hide hs14
  clear ho14 hk14 k14 hs14 HH HMM
  go_wp2_with fail
  refine (unhide HHH).mono ?_
  rintro e w15 ⟨rfl, hb15⟩
  have k15 := (unhide K14).trans (hb15.mono (unhide K14).size)
  obtain ⟨f0, f1⟩ := box2 w _ _ _ ((unhide K5).trans (k15.mono (unhide HZ5)))
  have K15 := hide k15
  have P15 := hide hb15
  clear hb15 k15 HHH
  go_wp2_with fail
  refine (toB_any L s _).mono ?_
  rintro e w16 ⟨rfl, hb16⟩
  have k16 := (unhide K15).trans (hb16.mono (unhide K15).size)
  have K16 := hide k16
  have P16 := hide ((unhide P15).trans (hb16.mono (unhide P15).size))
  have H16 := hide ((unhide H5).trans (k16.mono (unhide H5).size))
  clear hb16 k16 f0 f1
  go_wp2_with fail
  refine ((unhide HTo) w16 (unhide H16)).mono ?_
  rintro e w17 ⟨u17, rfl, hu17, _, hb17⟩
  have K17 := hide ((unhide K16).trans (hb17.mono (unhide K16).size))
  have P17 := hide ((unhide P16).trans (hb17.mono (unhide P16).size))
  have HU17 := hide (hu17.mono fun b hb => hb.2 : SgsAt (Under w17.heap.size) w17 (n + 1) gs u17)
  have HM17 := hide ((unhide HM).keep ((unhide H16).trans (hb17.mono (unhide H16).size)))
  clear hu17 hb17
  go_wp2_with fail
  refine ((unhide HIM) u17 w17 (unhide HU17) (unhide HM17)).mono ?_
  rintro e w18 ⟨hb18, u18, rfl, hs18, _⟩
  have k18 := (unhide K17).trans (hb18.mono (unhide K17).size)
  have K18 := hide k18
  have P18 := hide ((unhide P17).trans (hb18.mono (unhide P17).size))
  have HE18 := hide (eqS_of (eq_any 1) ts u18 u5 w18 (leaf_fresh hs18 (fun _ _ _ => rfl) (Nat.le_refl _)) (leaf_fresh (unhide HS5) (fun b _ h2 => k18.block b h2) k18.size))
  clear hb18 hs18 k18
  go_wp2_with fail
  refine (unhide HE18).mono ?_
  rintro e w19 ⟨rfl, hb19⟩
  have hp19 := (unhide P18).trans (hb19.mono (unhide P18).size)
  have K19 := hide ((unhide K18).trans (hb19.mono (unhide K18).size))
  have HH := held_any 1 ts u8 w7.heap.size w8.heap.size 1 w19 ((unhide HK14).keep (fun b _ h2 => hp19.block b (Nat.lt_of_lt_of_le h2 (unhide HS14))) (Nat.le_refl _) (Nat.le_refl _)) (Nat.le_trans (unhide HS14) hp19.size) (by rw [leaf_siz']; have := unhide HTL; omega)
  rw [← unhide HY] at HH
  have HHH := hide HH
  clear hb19 hp19 HH HE18
  go_wp2_with fail
  refine (unhide HHH).mono ?_
  rintro e w20 ⟨rfl, hb20⟩
  have K20 := hide ((unhide K19).trans (hb20.mono (unhide K19).size))
  clear hb20 HHH
  go_wp2_with fail
  go_ret
  exact ⟨rfl, (unhide H5).trans ((unhide K20).mono (unhide H5).size)⟩

end Go.Proofs.YtgkckkaegkdioaaDoor
