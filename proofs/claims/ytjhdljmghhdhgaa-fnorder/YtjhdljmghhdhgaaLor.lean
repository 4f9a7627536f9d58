/- The law of TermCompare's order: its own walk. -/
import Derived.Test.YtjhdljmghhdhgaaSam
import Derived.Test.YtjhdljmghhdhgaaDw7
import Derived.Test.YtjhdljmghhdhgaaCm1
import Derived.Test.YtjhdljmghhdhgaaCm2
import Derived.Deep.DeepCutAuto
namespace Go.Proofs.Ytjhdljmghhdhgaa
open Go.RowKit Go.Deep

/-- A code's bytes that came in. -/
def CodeIn (w : World) (L : Nat) (v : Value) : Prop :=
  ∃ a cap, v = .slice a L cap ∧ L ≤ cap ∧ cap ≤ 2 ^ 47 ∧ ∀ i, i < L → ∃ b off x, a = some ⟨b, off, none⟩ ∧ b < w.heap.size ∧ w.cell? ⟨b, off + i, none⟩ = some (.int .u8 x) ∧ 0 ≤ x ∧ x < 256
theorem CodeIn.at {w : World} {L : Nat} {v : Value} (h : CodeIn w L v) (hL : L ≤ 1048576) : CodeAt w.heap.size L v w := by
  obtain ⟨a, cap, h1, h2, h3, h4⟩ := h
  exact ⟨a, cap, h1, h2, h3, hL, h4⟩
theorem CodeIn.up {w w' : World} {L : Nat} {v : Value} (h : CodeIn w L v) (hb : Below w.heap.size w w') : CodeIn w' L v := by
  obtain ⟨a, cap, h1, h2, h3, h4⟩ := h
  refine ⟨a, cap, h1, h2, h3, fun i hi => ?_⟩
  obtain ⟨b, off, x, g1, g2, g3, g4⟩ := h4 i hi
  exact ⟨b, off, x, g1, Nat.lt_of_lt_of_le g2 hb.size, ((bcell hb) b _ g2).trans g3, g4⟩

theorem big_any (a : Option Addr) (L cap : Nat) (w : World) : Calls Try.prog 8 #[.slice a L cap] w fun e w' => e = .returned (.bool (decide (1048576 < L))) ∧ w' = w := by
  by_cases h : 1048576 < L
  all_goals
    go_enter Try.func8, Try.ntmps8
    go_wp2_with fail
    go_ret
    exact ⟨by simp [h]; omega, rfl⟩

theorem ahead_any (a : Option Addr) (L cap n : Nat) (z : Int) (hz : z = n) (w : World) (hn : n ≤ L) (hL : L ≤ cap) (hc : CodeIn w L (.slice a L cap)) :
    Calls Try.prog 10 #[.slice a L cap, .int .i64 z] w fun e w' => (∃ v, e = .returned v ∧ CodeIn w n v) ∧ w' = w := by
  subst hz
  have HC := hide hc
  clear hc
  have hle : ¬ (L : Int) < (n : Int) := by omega
  go_enter Try.func10, Try.ntmps10
  go_wp2_with fail
  go_ret
  obtain ⟨a', cap', h2, h3, h4, h5⟩ := unhide HC
  simp at h2
  obtain ⟨rfl, rfl⟩ := h2
  exact ⟨⟨_, rfl, a, cap, rfl, by omega, h4, fun i hi => h5 i (by omega)⟩, rfl⟩

/-- Orders are -1, 0, 1. -/
def Sm (x : Int) : Prop := -1 ≤ x ∧ x ≤ 1
theorem Sm.thn {x y : Int} (h : Sm x) (k : Sm y) : Sm (thn x y) := by unfold Go.Proofs.Ytjhdljmghhdhgaa.thn; split; exact k; exact h
theorem sm_sgn (a b : Int) : Sm (sgn a b) := by unfold sgn Sm; split <;> (try split) <;> omega
theorem sm_lex {α β : Type} {f : α → β → Int} (H : ∀ x y, Sm (f x y)) : ∀ xs ys, Sm (lexL f xs ys)
  | [], [] => by simp [lexL, Sm]
  | [], _ :: _ => by simp [lexL, Sm]
  | _ :: _, [] => by simp [lexL, Sm]
  | x :: xs, y :: ys => by rw [lexL]; exact (H x y).thn (sm_lex H xs ys)
theorem cmp_sm : ∀ (n m : Nat) (t : Tm n) (u : Tm m), Sm (cmpT n m t u)
  | 0, _, t, _ => t.elim
  | _ + 1, 0, _, u => u.elim
  | n + 1, m + 1, (k, i, s, ks), (k', i', s', ls) => by
    rw [cmp_thn]
    refine (sm_sgn _ _).thn ((sm_sgn _ _).thn (Sm.thn ?_ ?_))
    · rw [ordS_lex]; exact sm_lex (fun x y => sm_sgn _ _) _ _
    · unfold kidC
      split
      · exact sm_lex (cmp_sm n m) _ _
      · refine (sm_sgn _ _).thn ?_
        split
        · exact (sm_lex (cmp_sm n m) _ _).thn (sm_lex (cmp_sm n m) _ _)
        · exact sm_lex (cmp_sm n m) _ _

theorem ans_ok {n m : Nat} {t : Tm n} {u : Tm m} (h : okB n t = true) (k : okB m u = true) : cmpAns n m t u = cmpT n m t u ∧ cmpCode n m t u = 0 := by
  unfold cmpAns cmpCode; rw [if_pos ⟨h, k⟩, if_pos ⟨h, k⟩]; exact ⟨rfl, rfl⟩

set_option maxRecDepth 100000 in
set_option maxHeartbeats 4000000 in
theorem lor_any (L : Nat) (v : Value) (w : World) (hc : CodeIn w L v) : Calls Try.prog 3 #[v] w fun e w' => e = .returned (.bool true) ∧ Below w.heap.size w w' := by
  have HC := hide hc
  obtain ⟨a, cap, rfl, hLc, hcap, -⟩ := hc
  by_cases hL : L ≤ 1048576
  case neg =>
    have hb := hide (big_any a L cap w)
    have hd : decide (1048576 < L) = true := by simp; omega
    rw [hd] at hb
    go_enter Try.func3, Try.ntmps3
    go_wp2_with (go_at_call 8; refine (unhide hb).mono ?_; rintro e w1 ⟨rfl, rfl⟩)
    go_ret
    exact ⟨rfl, Below.refl _ _⟩
  have hb := hide (big_any a L cap w)
  have hd : decide (1048576 < L) = false := by simp; omega
  rw [hd] at hb
  have hcm := hide (dcmp_any L _ w ((unhide HC).at hL))
  have HLC := hide hLc
  clear hd hcap
  go_enter Try.func3, Try.ntmps3
  go_wp2_with fail
  refine (unhide hb).mono ?_
  rintro e w' ⟨rfl, hw⟩
  have hw := hw.symm
  subst hw
  clear hb
  go_wp2_with fail
  refine (unhide hcm).mono ?_
  rintro e w1 ⟨n, t, m, u, c0, c1, c2, c3, d0, d1, d2, d3, rfl, ht, hu, hb1⟩
  obtain ⟨k0, k1, k2, k3, k4, k5, rfl, rfl, rfl, rfl⟩ := ht.shape
  obtain ⟨l0, l1, l2, l3, l4, l5, rfl, rfl, rfl, rfl⟩ := hu.shape
  have HT := hide (ht.mono (S' := Under w1.heap.size) fun b hb => hb.2)
  have HU := hide (hu.mono (S' := Under w1.heap.size) fun b hb => hb.2)
  have HB1 := hide hb1
  clear ht hu hb1 hcm
  obtain ⟨w2, hw2⟩ : ∃ w2, w2 = (w1.alloc (.cells #[.int .i64 k0, .int .i64 k1, .string k2, .slice k3 k4 k5] 26)).alloc (.cells #[.int .i64 l0, .int .i64 l1, .string l2, .slice l3 l4 l5] 26) := ⟨_, rfl⟩
  have hb12 : Below w1.heap.size w1 w2 := by rw [hw2]; exact below_two _ _ _
  have ha := hide (ahead_any a L cap (L / 2) ((L : Int) / 2) (by omega) w2 (by omega) hLc (((unhide HC).up (unhide HB1)).up hb12))
  have HW2 := hide hw2
  have HB12 := hide hb12
  clear hb12
  go_wp2_with fail
  rw [← hw2]
  clear hw2
  refine (unhide ha).mono ?_
  rintro e w' ⟨⟨v2, rfl, hc2⟩, hw⟩
  have hw := hw.symm
  subst hw
  have hcm := hide (dcmp_any (L / 2) v2 w2 (hc2.at (by omega)))
  clear ha hc2
  go_wp2_with fail
  refine (unhide hcm).mono ?_
  rintro e w3 ⟨n', t', m', u', c0, c1, c2, c3, d0, d1, d2, d3, rfl, ht, hu, hb3⟩
  obtain ⟨g0, g1, g2, g3, g4, g5, rfl, rfl, rfl, rfl⟩ := ht.shape
  obtain ⟨o0, o1, o2, o3, o4, o5, rfl, rfl, rfl, rfl⟩ := hu.shape
  obtain ⟨w4, hw4⟩ : ∃ w4, w4 = (w3.alloc (.cells #[.int .i64 g0, .int .i64 g1, .string g2, .slice g3 g4 g5] 26)).alloc (.cells #[.int .i64 o0, .int .i64 o1, .string o2, .slice o3 o4 o5] 26) := ⟨_, rfl⟩
  have hb34 : Below w3.heap.size w3 w4 := by rw [hw4]; exact below_two _ _ _
  have hs2 : w2.heap.size = w1.heap.size + 2 := by rw [unhide HW2]; simp
  have hs4 : w4.heap.size = w3.heap.size + 2 := by rw [hw4]; simp
  have hs3 := hb3.size
  have hb24 : Below w2.heap.size w2 w4 := hb3.trans (hb34.mono hb3.size)
  have hb14 : Below w1.heap.size w1 w4 := (unhide HB12).trans (hb24.mono (by omega))
  have hbw4 : Below w.heap.size w w4 := (unhide HB1).trans (hb14.mono (unhide HB1).size)
  have k1' : w4.heap[w1.heap.size]? = some (.cells #[.int .i64 k0, .int .i64 k1, .string k2, .slice k3 k4 k5] 26 (0, 0)) := by
    rw [hb24.block _ (by omega), unhide HW2, Below.heap_alloc _ _ _ (by simp)]; exact heap_new w1 _
  have k2' : w4.heap[w1.heap.size + 1]? = some (.cells #[.int .i64 l0, .int .i64 l1, .string l2, .slice l3 l4 l5] 26 (0, 0)) := by
    rw [hb24.block _ (by omega), unhide HW2]
    have := heap_new (w1.alloc (.cells #[.int .i64 k0, .int .i64 k1, .string k2, .slice k3 k4 k5] 26)) (.cells #[.int .i64 l0, .int .i64 l1, .string l2, .slice l3 l4 l5] 26)
    simpa using this
  have k3' : w4.heap[w3.heap.size + 1]? = some (.cells #[.int .i64 o0, .int .i64 o1, .string o2, .slice o3 o4 o5] 26 (0, 0)) := by
    rw [hw4]
    have := heap_new (w3.alloc (.cells #[.int .i64 g0, .int .i64 g1, .string g2, .slice g3 g4 g5] 26)) (.cells #[.int .i64 o0, .int .i64 o1, .string o2, .slice o3 o4 o5] 26)
    simpa using this
  have t1' := ((unhide HT).up hb14)
  have t2' := ((unhide HU).up hb14)
  have t3' := ((hu.mono (S' := Under w3.heap.size) fun b hb => hb.2).up hb34)
  obtain ⟨A1, hA1⟩ : ∃ A1, A1 = w1.heap.size := ⟨_, rfl⟩
  obtain ⟨A3, hA3⟩ : ∃ A3, A3 = w3.heap.size := ⟨_, rfl⟩
  have hX : ∀ wr, Below w4.heap.size w4 wr → wr.heap[A1]? = some (.cells #[.int .i64 k0, .int .i64 k1, .string k2, .slice k3 k4 k5] 26 (0, 0)) ∧ wr.heap[A1 + 1]? = some (.cells #[.int .i64 l0, .int .i64 l1, .string l2, .slice l3 l4 l5] 26 (0, 0)) ∧
      wr.heap[A3 + 1]? = some (.cells #[.int .i64 o0, .int .i64 o1, .string o2, .slice o3 o4 o5] 26 (0, 0)) ∧ Below w.heap.size w wr ∧
      TAt (Under wr.heap.size) wr n t (.int .i64 k0) (.int .i64 k1) (.string k2) (.slice k3 k4 k5) ∧ TAt (Under wr.heap.size) wr m u (.int .i64 l0) (.int .i64 l1) (.string l2) (.slice l3 l4 l5) ∧ TAt (Under wr.heap.size) wr m' u' (.int .i64 o0) (.int .i64 o1) (.string o2) (.slice o3 o4 o5) := fun wr hb => by
    rw [hA1, hA3]
    exact ⟨(hb.block _ (by omega)).trans k1', (hb.block _ (by omega)).trans k2', (hb.block _ (by omega)).trans k3', hbw4.trans (hb.mono hbw4.size), t1'.up hb, t2'.up hb, t3'.up hb⟩
  have HX := hide hX
  have HW4 := hide hw4
  have HA1 := hide hA1
  have HA3 := hide hA3
  clear hX hw4 k1' k2' k3' t1' t2' t3' hb34 hs2 hs4 hs3 hb24 hb14 hbw4 ht hu hb3 hcm
  go_upto_region 5 with fail
  rw [← unhide HW4, ← hA1, ← hA3]
  clear hA1 hA3
  have hX0 := unhide HX w4 (Below.refl _ _)
  obtain ⟨p0, p1, p2, p3⟩ := heap4 hX0.1
  have hok := hide (sOK_any t _ _ _ _ w4 hX0.2.2.2.2.1)
  clear hX0
  cases ht1 : okB n t with
  | false =>
    rw [ht1] at hok
    have HO := hide ht1
    clear ht1
    go_wp2_with (go_at_call 11; refine (unhide hok).mono ?_; rintro e w5 ⟨rfl, hb5⟩)
    go_ret
    exact ⟨rfl, (unhide HX w5 hb5).2.2.2.1⟩
  | true =>
    rw [ht1] at hok
    have HO := hide ht1
    clear ht1
    go_wp2_with fail
    refine (unhide hok).mono ?_
    rintro e w5 ⟨rfl, hb5⟩
    have B5 := hide hb5
    obtain ⟨r0, r1, r2, r3⟩ := heap4 (unhide HX w5 hb5).2.1
    have hok := hide (sOK_any u _ _ _ _ w5 (unhide HX w5 hb5).2.2.2.2.2.1)
    clear hb5 p0 p1 p2 p3
    cases ht1 : okB m u with
    | false =>
      rw [ht1] at hok
      have HO2 := hide ht1
      clear ht1
      go_wp2_with (go_at_call 11; refine (unhide hok).mono ?_; rintro e w6 ⟨rfl, hb6⟩)
      go_ret
      exact ⟨rfl, (unhide HX w6 ((unhide B5).trans (hb6.mono (unhide B5).size))).2.2.2.1⟩
    | true =>
      rw [ht1] at hok
      have HO2 := hide ht1
      clear ht1
      go_wp2_with fail
      refine (unhide hok).mono ?_
      rintro e w6 ⟨rfl, hb6⟩
      have b6 := (unhide B5).trans (hb6.mono (unhide B5).size)
      have B6 := hide b6
      clear r0 r1 r2 r3
      obtain ⟨s0, s1, s2, s3⟩ := heap4 (unhide HX w6 b6).2.2.1
      have hok := hide (sOK_any u' _ _ _ _ w6 (unhide HX w6 b6).2.2.2.2.2.2)
      clear hb6 b6
      cases ht1 : okB m' u' with
      | false =>
        rw [ht1] at hok
        have HO3 := hide ht1
        clear ht1
        go_wp2_with (go_at_call 11; refine (unhide hok).mono ?_; rintro e w7 ⟨rfl, hb7⟩)
        go_ret
        exact ⟨rfl, (unhide HX w7 ((unhide B6).trans (hb7.mono (unhide B6).size))).2.2.2.1⟩
      | true =>
        rw [ht1] at hok
        have HO3 := hide ht1
        clear ht1
        go_wp2_with fail
        refine (unhide hok).mono ?_
        rintro e w7 ⟨rfl, hb7⟩
        have b7 := (unhide B6).trans (hb7.mono (unhide B6).size)
        have B7 := hide b7
        clear s0 s1 s2 s3 hok
        obtain ⟨p0, p1, p2, p3⟩ := heap4 (unhide HX w7 b7).1
        obtain ⟨r0, r1, r2, r3⟩ := heap4 (unhide HX w7 b7).2.1
        have e1 := (ans_ok (unhide HO) (unhide HO2))
        have e2 := (ans_ok (unhide HO2) (unhide HO))
        have e3 := (ans_ok (unhide HO2) (unhide HO3))
        have e4 := (ans_ok (unhide HO) (unhide HO3))
        have E1 := hide e1
        have E2 := hide e2
        have E3 := hide e3
        have E4 := hide e4
        have hX1 := unhide HX w7 b7
        have hcp := hide (iCmp_any t u _ _ _ _ _ _ _ _ w7 hX1.2.2.2.2.1 hX1.2.2.2.2.2.1)
        clear hb7 b7 e1 e2 e3 e4 hX1
        go_wp2_with fail
        refine (unhide hcp).mono ?_
        rintro e w8 ⟨rfl, hb8⟩
        rw [(unhide E1).1, (unhide E1).2]
        have b8 := (unhide B7).trans (hb8.mono (unhide B7).size)
        have B8 := hide b8
        clear p0 p1 p2 p3 r0 r1 r2 r3 hcp
        obtain ⟨p0, p1, p2, p3⟩ := heap4 (unhide HX w8 b8).1
        obtain ⟨r0, r1, r2, r3⟩ := heap4 (unhide HX w8 b8).2.1
        have hX1 := unhide HX w8 b8
        have hcp := hide (iCmp_any u t _ _ _ _ _ _ _ _ w8 hX1.2.2.2.2.2.1 hX1.2.2.2.2.1)
        clear hb8 b8 hX1
        go_wp2_with fail
        refine (unhide hcp).mono ?_
        rintro e w9 ⟨rfl, hb9⟩
        rw [(unhide E2).1, (unhide E2).2]
        have b9 := (unhide B8).trans (hb9.mono (unhide B8).size)
        have B9 := hide b9
        clear p0 p1 p2 p3 r0 r1 r2 r3 hcp
        obtain ⟨r0, r1, r2, r3⟩ := heap4 (unhide HX w9 b9).2.1
        obtain ⟨s0, s1, s2, s3⟩ := heap4 (unhide HX w9 b9).2.2.1
        have hX1 := unhide HX w9 b9
        have hcp := hide (iCmp_any u u' _ _ _ _ _ _ _ _ w9 hX1.2.2.2.2.2.1 hX1.2.2.2.2.2.2)
        clear hb9 b9 hX1
        go_wp2_with fail
        refine (unhide hcp).mono ?_
        rintro e w10 ⟨rfl, hb10⟩
        rw [(unhide E3).1, (unhide E3).2]
        have b10 := (unhide B9).trans (hb10.mono (unhide B9).size)
        have B10 := hide b10
        clear r0 r1 r2 r3 s0 s1 s2 s3 hcp
        obtain ⟨p0, p1, p2, p3⟩ := heap4 (unhide HX w10 b10).1
        obtain ⟨s0, s1, s2, s3⟩ := heap4 (unhide HX w10 b10).2.2.1
        have hX1 := unhide HX w10 b10
        have hcp := hide (iCmp_any t u' _ _ _ _ _ _ _ _ w10 hX1.2.2.2.2.1 hX1.2.2.2.2.2.2)
        clear hb10 b10 hX1
        go_wp2_with fail
        refine (unhide hcp).mono ?_
        rintro e w11 ⟨rfl, hb11⟩
        rw [(unhide E4).1, (unhide E4).2]
        have b11 := (unhide B10).trans (hb11.mono (unhide B10).size)
        have B11 := hide b11
        clear p0 p1 p2 p3 s0 s1 s2 s3 hcp
        obtain ⟨p0, p1, p2, p3⟩ := heap4 (unhide HX w11 b11).1
        obtain ⟨r0, r1, r2, r3⟩ := heap4 (unhide HX w11 b11).2.1
        have hX1 := unhide HX w11 b11
        have hsm := hide (sam_any n m t u _ _ _ _ _ _ _ _ w11 hX1.2.2.2.2.1 hX1.2.2.2.2.2.1)
        have f1 := cmp_anti n m t u
        have f2 := cmp_zero n m t u
        have f3 := cmp_T3 n m m' t u u'
        have f4 := cmp_sm n m t u
        have f5 := cmp_sm m m' u u'
        have f6 := cmp_sm n m' t u'
        obtain ⟨x, hx⟩ : ∃ x, x = cmpT n m t u := ⟨_, rfl⟩
        obtain ⟨z, hz⟩ : ∃ z, z = cmpT m m' u u' := ⟨_, rfl⟩
        obtain ⟨y, hy⟩ : ∃ y, y = cmpT n m' t u' := ⟨_, rfl⟩
        obtain ⟨q, hq⟩ : ∃ q, q = sameT n m t u := ⟨_, rfl⟩
        rw [f1, ← hx, ← hz, ← hy]
        rw [← hx] at f2 f4
        rw [← hq] at f2 hsm
        rw [← hx, ← hz, ← hy] at f3
        rw [← hz] at f5
        rw [← hy] at f6
        have F3 := hide f3
        have F5 := hide f5
        have F6 := hide f6
        clear hb11 b11 hX1 f1 f3 f5 f6 hx hz hy hq
        unfold Sm at f4
        have hx3 : x = -1 ∨ x = 0 ∨ x = 1 := by omega
        rcases hx3 with rfl | rfl | rfl
        · have hq : q = false := by cases q <;> simp at f2 ⊢
          subst hq
          by_cases hz : 0 < z
          · go_wp2_with (go_at_call 13; refine (unhide hsm).mono ?_; rintro e w12 ⟨rfl, hb12⟩)
            go_ret
            exact ⟨by simp, (unhide HX w12 ((unhide B11).trans (hb12.mono (unhide B11).size))).2.2.2.1⟩
          · have hy : y ≤ 0 := by have h1 := unhide F3 (by omega) (by omega); omega
            go_wp2_with (go_at_call 13; refine (unhide hsm).mono ?_; rintro e w12 ⟨rfl, hb12⟩)
            go_ret
            exact ⟨by simp, (unhide HX w12 ((unhide B11).trans (hb12.mono (unhide B11).size))).2.2.2.1⟩
        · have hq : q = true := by cases q <;> simp at f2 ⊢
          subst hq
          by_cases hz : 0 < z
          · go_wp2_with (go_at_call 13; refine (unhide hsm).mono ?_; rintro e w12 ⟨rfl, hb12⟩)
            go_ret
            exact ⟨by simp, (unhide HX w12 ((unhide B11).trans (hb12.mono (unhide B11).size))).2.2.2.1⟩
          · have hy : y ≤ 0 := by have h1 := unhide F3 (by omega) (by omega); omega
            go_wp2_with (go_at_call 13; refine (unhide hsm).mono ?_; rintro e w12 ⟨rfl, hb12⟩)
            go_ret
            exact ⟨by simp, (unhide HX w12 ((unhide B11).trans (hb12.mono (unhide B11).size))).2.2.2.1⟩
        · have hq : q = false := by cases q <;> simp at f2 ⊢
          subst hq
          go_wp2_with (go_at_call 13; refine (unhide hsm).mono ?_; rintro e w12 ⟨rfl, hb12⟩)
          go_ret
          exact ⟨by simp, (unhide HX w12 ((unhide B11).trans (hb12.mono (unhide B11).size))).2.2.2.1⟩
end Go.Proofs.Ytjhdljmghhdhgaa
