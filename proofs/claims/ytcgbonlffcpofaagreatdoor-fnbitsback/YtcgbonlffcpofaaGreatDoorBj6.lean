/- impl's join: a row of bits put behind the bits that are there. -/
import Derived.Test.YtcgbonlffcpofaaGreatDoorQ43
import Derived.Deep.DeepCutAuto
namespace Go.Proofs.YtcgbonlffcpofaaGreatDoor
open Go.RowKit Go.Deep

/-- What join leaves behind: the row holds the bits of both. -/
def JoinEnd (R base n : Nat) (X : List Int) (w w' : World) : Prop := ∃ v', w'.cell? ⟨R, 0, none⟩ = some (.int .i64 (n : Nat)) ∧ w'.cell? ⟨R, 1, none⟩ = some v' ∧
  w'.frozen? ⟨R, 0, none⟩ = false ∧ w'.frozen? ⟨R, 1, none⟩ = false ∧ w'.ownsRow base 5 1 v' ((n + 7) / 8) (u8s (bytesAt X n)) ∧ Below R w w'

set_option maxRecDepth 100000 in
set_option maxHeartbeats 40000000 in
theorem join_any (R base M : Nat) (A : List Int) (t : ByteArray) (a : Option Addr) (cap : Nat) (w : World) (h0 : w.cell? ⟨R, 0, none⟩ = some (.int .i64 A.length)) (h1 : w.cell? ⟨R, 1, none⟩ = some (.slice a ((A.length + 7) / 8) cap))
    (f0 : w.frozen? ⟨R, 0, none⟩ = false) (f1 : w.frozen? ⟨R, 1, none⟩ = false) (hown : w.ownsRow base 5 1 (.slice a ((A.length + 7) / 8) cap) ((A.length + 7) / 8) (u8s (bytesAt A A.length))) (hR : R < base) (hbase : base ≤ w.heap.size)
    (hA : ∀ x ∈ A, x = 0 ∨ x = 1) (hN : A.length ≤ 40000) (hM : M ≤ 40000) (ht : t.size = (M + 7) / 8) (hz : ∀ i, M ≤ i → i < 8 * t.size → bit t i = 0) :
    Calls Tryz.prog 19 #[.pointer (some ⟨R, 0, none⟩), .agg #[.int .i64 M, .string t]] w fun e w' => e = .returned (.tuple #[]) ∧ JoinEnd R base (A.length + M) (A ++ bitsOf t M) w w' := by
  have hRw : R < w.heap.size := by omega
  obtain ⟨N, hNe⟩ : ∃ N, N = A.length := ⟨_, rfl⟩
  rw [← hNe] at h0 h1 hown hN ⊢
  have HNE := hide hNe
  have HO := hide hown
  have HA := hide hA
  have HZ := hide hz
  clear hNe hown hA hz
  go_enter Tryz.func19, Tryz.ntmps19
  go_wp2_with fail
  obtain ⟨W0, hW0⟩ : ∃ W0, W0 = w.alloc (.cells #[.int .i64 M, .string t] 27) := ⟨_, rfl⟩
  rw [← hW0]
  have hs0 : W0.heap.size = w.heap.size + 1 := by rw [hW0]; simp
  have hb0 : Below w.heap.size w W0 := by rw [hW0]; exact (Below.refl w.heap.size w).alloc (Nat.le_refl _) _
  obtain ⟨p0, p1⟩ : W0.cell? ⟨w.heap.size, 0, none⟩ = some (.int .i64 M) ∧ W0.cell? ⟨w.heap.size, 1, none⟩ = some (.string t) := by rw [hW0]; exact two_new w _ _ _
  have c0 : W0.cell? ⟨R, 0, none⟩ = some (.int .i64 N) := (hb0.cell (p := ⟨R, 0, none⟩) hRw).trans h0
  have c1 : W0.cell? ⟨R, 1, none⟩ = some (.slice a ((N + 7) / 8) cap) := (hb0.cell (p := ⟨R, 1, none⟩) hRw).trans h1
  have z0 : W0.frozen? ⟨R, 0, none⟩ = false := by rw [hW0, World.frozen?_alloc_past _ _ _ hRw]; exact f0
  have z1 : W0.frozen? ⟨R, 1, none⟩ = false := by rw [hW0, World.frozen?_alloc_past _ _ _ hRw]; exact f1
  have Ho0 := hide (ownsRow_below (unhide HO) hb0)
  have Hb0 := hide hb0
  have eS : IntKind.i64.wrap ((N : Int) + (M : Int)) = (N : Int) + (M : Int) := by simp [IntKind.wrap, IntKind.bits, IntKind.signed]; omega
  clear hW0 h0 h1 f0 f1 hb0
  go_region
  go_wp2_with fail
  obtain ⟨w1, hw1⟩ : ∃ w1, w1 = (W0.setCell ⟨R, 0, none⟩ (.int .i64 ((N : Int) + (M : Int)))).drew := ⟨_, rfl⟩
  rw [← hw1]
  have hs1 : w1.heap.size = w.heap.size + 1 := by rw [hw1]; simpa using hs0
  have own1 : w1.ownsRow base 5 1 (.slice a ((N + 7) / 8) cap) ((N + 7) / 8) (u8s (bytesAt A N)) := by rw [hw1]; exact (ownsRow_set (unhide Ho0) _ hR _).drew
  have hbR : Below R w W0 := (unhide Hb0).mono (Nat.le_of_lt hRw)
  have hb1 : Below R w w1 := by rw [hw1]; exact (hbR.setCell (p := ⟨R, 0, none⟩) (Nat.le_refl _) _).drew
  have d0 : w1.cell? ⟨R, 0, none⟩ = some (.int .i64 ((N : Int) + (M : Int))) := by rw [hw1]; exact World.cell?_setCell_same _ _ _ c0
  have d1 : w1.cell? ⟨R, 1, none⟩ = some (.slice a ((N + 7) / 8) cap) := by rw [hw1]; exact (World.cell?_setCell_other _ _ _ _ (by simp)).trans c1
  have b0 : w1.cell? ⟨w.heap.size, 0, none⟩ = some (.int .i64 M) := by rw [hw1]; exact (World.cell?_setCell_other _ _ _ _ (fun h => absurd (congrArg Addr.block h) (Nat.ne_of_lt hRw))).trans p0
  have b1 : w1.cell? ⟨w.heap.size, 1, none⟩ = some (.string t) := by rw [hw1]; exact (World.cell?_setCell_other _ _ _ _ (fun h => absurd (congrArg Addr.block h) (Nat.ne_of_lt hRw))).trans p1
  have y0 : w1.frozen? ⟨R, 0, none⟩ = false := by rw [hw1]; simpa [go_sem] using z0
  have y1 : w1.frozen? ⟨R, 1, none⟩ = false := by rw [hw1]; simpa [go_sem] using z1
  clear hw1 c0 c1 p0 p1 z0 z1 Ho0 Hb0 hs0 hbR
  obtain ⟨K, hK⟩ : ∃ K, K = (N + M + 7) / 8 - (N + 7) / 8 := ⟨_, rfl⟩
  have HK := hide (show (N + 7) / 8 + K = (N + M + 7) / 8 by omega)
  have eK : IntKind.i64.wrap (((N : Int) + (M : Int) + 7) / 8 - ((N : Int) + 7) / 8) = (K : Int) := by simp [IntKind.wrap, IntKind.bits, IntKind.signed]; omega
  have hAll : ∀ w', Below w1.heap.size w1 w' → w'.cell? ⟨R, 0, none⟩ = some (.int .i64 ((N : Int) + (M : Int))) ∧ w'.cell? ⟨R, 1, none⟩ = some (.slice a ((N + 7) / 8) cap) ∧
      w'.cell? ⟨w.heap.size, 0, none⟩ = some (.int .i64 M) ∧ w'.cell? ⟨w.heap.size, 1, none⟩ = some (.string t) ∧ w'.frozen? ⟨R, 0, none⟩ = false ∧ w'.frozen? ⟨R, 1, none⟩ = false := fun w' hb => by
    have hh := hb.block R (by omega)
    exact ⟨(hb.cell (p := ⟨R, 0, none⟩) (show R < w1.heap.size by omega)).trans d0, (hb.cell (p := ⟨R, 1, none⟩) (show R < w1.heap.size by omega)).trans d1, (hb.cell (p := ⟨w.heap.size, 0, none⟩) (show w.heap.size < w1.heap.size by omega)).trans b0, (hb.cell (p := ⟨w.heap.size, 1, none⟩) (show w.heap.size < w1.heap.size by omega)).trans b1,
      by rw [← y0]; simp [World.frozen?, hh], by rw [← y1]; simp [World.frozen?, hh]⟩
  have hAp : ∀ w', Below w1.heap.size w1 w' → ∃ a2 cap2 w2, (Builtin.append_ #[22, 3] 22 #[.slice a ((N + 7) / 8) cap, .int .i64 K]).run Tryz.prog w' = .ok (.slice a2 ((N + 7) / 8 + K) cap2) w2 ∧ w2.ownsRow base 5 1 (.slice a2 ((N + 7) / 8 + K) cap2) ((N + 7) / 8 + K) (u8s (bytesAt A N) ++ List.replicate K (.int .u8 0)) ∧
      (w2.cell? ⟨R, 0, none⟩ = some (.int .i64 ((N : Int) + (M : Int))) ∧ w2.cell? ⟨R, 1, none⟩ = some (.slice a ((N + 7) / 8) cap) ∧ w2.cell? ⟨w.heap.size, 0, none⟩ = some (.int .i64 M) ∧ w2.cell? ⟨w.heap.size, 1, none⟩ = some (.string t) ∧ w2.frozen? ⟨R, 0, none⟩ = false ∧ w2.frozen? ⟨R, 1, none⟩ = false) ∧ Below R w w2 ∧ w1.heap.size ≤ w2.heap.size := fun w' hb => by
    obtain ⟨i0, hi, q0, q1, q2⟩ := info_parts info_u8
    have ho := ownsRow_below own1 hb
    obtain ⟨v, w2, hr, ho2, hg⟩ := run_append_own_zeros (P := Tryz.prog) w' base 22 3 22 5 i0 (.int .u8 0) .i64 Tryz.underlying22 Tryz.underlying3 hi q0 q1 q2 rfl rfl _ _ K _ ho (by omega) (by omega) (by have := hb.size; omega)
    obtain ⟨a2, cap2, rfl⟩ := own_shape ho2
    have hne : ∀ k, k < base → some k ≠ (Value.slice a ((N + 7) / 8) cap).ownBlock := fun k hk h => by have := (ho.lt k h.symm).1; omega
    obtain ⟨k0, k1, k2, k3, k4, k5⟩ := hAll w' hb
    have hbx : some w.heap.size ≠ (Value.slice a ((N + 7) / 8) cap).ownBlock := fun h => by have := ((unhide HO).lt _ h.symm).2; omega
    have hRs : R < w'.heap.size := by have := hb.size; omega
    have hbw : Below R w w' := hb1.trans (hb.mono (by omega))
    refine ⟨a2, cap2, w2, hr, ho2, ⟨hg.cell k0 (hne R hR), hg.cell k1 (hne R hR), hg.cell k2 hbx, hg.cell k3 hbx, ?_, ?_⟩, hbw.grown hg (Nat.le_of_lt hRs) (fun k hk => Nat.le_of_lt (Nat.lt_of_lt_of_le hR (ho.lt k hk).1)), Nat.le_trans hb.size hg.size⟩
    · rw [hg.frozen_far _ hRs (hne R hR)]; exact k4
    · rw [hg.frozen_far _ hRs (hne R hR)]; exact k5
  have HAp := hide hAp
  have HAll := hide hAll
  have Hd := hide (show Below w1.heap.size w1 w1.drew from (Below.refl _ _).drew)
  have hbf := hide (fun w' => bf_any ((N : Int) + (M : Int)) w' (by omega) (by omega))
  clear hAp hAll own1 hK
  obtain ⟨w2, hw2⟩ : ∃ w2, w2 = w1.drew := ⟨_, rfl⟩
  have Hb2 : Hid (Below w1.heap.size w1 w2) := by rw [hw2]; exact Hd
  clear hw2
  go_cut [35] (fun _ wc => ∃ a2 cap2, wc.ownsRow base 5 1 (.slice a2 ((N + 7) / 8 + K) cap2) ((N + 7) / 8 + K) (u8s (bytesAt A N) ++ List.replicate K (.int .u8 0)) ∧ wc.cell? ⟨R, 0, none⟩ = some (.int .i64 ((N : Int) + (M : Int))) ∧ wc.cell? ⟨R, 1, none⟩ = some (.slice a2 ((N + 7) / 8 + K) cap2) ∧
      wc.cell? ⟨w.heap.size, 0, none⟩ = some (.int .i64 M) ∧ wc.cell? ⟨w.heap.size, 1, none⟩ = some (.string t) ∧ wc.frozen? ⟨R, 0, none⟩ = false ∧ wc.frozen? ⟨R, 1, none⟩ = false ∧ Below R w wc ∧ w1.heap.size ≤ wc.heap.size)
  case first =>
   go_region_law (first
    | (obtain ⟨a2, cap2, w3, hr, ho3, ⟨e0, e1, e2, e3, e4, e5⟩, hb3, hs3⟩ := unhide HAp w2 (unhide Hb2); refine step_append_run rfl (.tmp 23) (.tmp 34) 22 3 rfl _ _ rfl rfl _ w3 hr ?_; have Ho3 := hide ho3; have Hb3 := hide hb3; have Hs3 := hide hs3; clear hr ho3 hb3 hs3)
    | (go_simp; go_wp2_with (go_at_call 36; refine (unhide hbf _).mono ?_; rintro e w2 ⟨rfl, hb2⟩; have hB2 := (unhide Hd).trans (hb2.mono (unhide Hd).size); obtain ⟨k0, k1, k2, k3, k4, k5⟩ := unhide HAll w2 hB2; have Hb2 := hide hB2; clear hb2 hB2)))
   all_goals
    go_wp2_with fail
    go_meet
    exact ⟨a2, cap2, (ownsRow_set (unhide Ho3) _ hR _), (World.cell?_setCell_other _ _ _ _ (by simp)).trans e0, World.cell?_setCell_same _ _ _ e1, (World.cell?_setCell_other _ _ _ _ (fun h => absurd (congrArg Addr.block h) (Nat.ne_of_lt hRw))).trans e2, (World.cell?_setCell_other _ _ _ _ (fun h => absurd (congrArg Addr.block h) (Nat.ne_of_lt hRw))).trans e3, by simpa [go_sem] using e4, by simpa [go_sem] using e5, (unhide Hb3).setCell (p := ⟨R, 1, none⟩) (Nat.le_refl _) _, by simpa using unhide Hs3⟩
  case rest =>
    obtain ⟨a2, cap2, own3, e0, e1, e2, e3, e4, e5, hb3, hs3⟩ := hcut
    have hKe := unhide HK
    obtain ⟨X, hXe⟩ : ∃ X, X = A ++ bitsOf t M := ⟨_, rfl⟩
    have hXl : X.length = N + M := by rw [hXe, List.length_append, bitsOf_length, ← unhide HNE]
    have ownX : wc.ownsRow base 5 1 (.slice a2 ((N + 7) / 8 + K) cap2) ((N + 7) / 8 + K) (u8s (bytesAt X N)) := by
      have h := bytesAt_zeros A (bitsOf t M) K (by rw [bitsOf_length, ← unhide HNE]; exact hKe)
      rw [← hXe, ← unhide HNE] at h
      rw [← h]
      simpa [u8s] using own3
    have hXN : bytesAt X (N + M) = bytesAt X (A ++ bitsOf t M).length := by rw [← hXe, hXl]
    obtain ⟨m, hm⟩ : ∃ m, m = (N + 7) / 8 + K := ⟨_, rfl⟩
    rw [← hm] at e1 ownX hKe
    have hm1 : m ≤ 20000 := by omega
    have HX := hide hXe
    have HO3 := hide ownX
    have Hb3 := hide hb3
    clear hXN own3 ownX hm hb3 hb1 eK eS HAp HAll Hd hbf Hb2 d0 d1 b0 b1 y0 y1
    have hws : w.heap.size < wc.heap.size := by omega
    by_cases h8 : N % 8 = 0
    · have h8' : ((N : Int) % 8 == 0) = true := by simp; omega
      have HT := hide (And.intro ht hKe)
      by_cases ht0 : t.size = 0
      · have hq : N / 8 = m := by omega
        have hqI : (N : Int) / 8 = m := by omega
        have hrun := hide (fun (d : Option Addr) (l c : Nat) (w' : World) => Lib.run_copy_empty_string (P := Tryz.prog) w' 22 9 3 5 d l c t Tryz.underlying22 (by kernel_rfl) ht0)
        have hfin := hide (show bytesAt X N = bytesAt X (N + M) by rw [bytesAt_over X N (by rw [hXl]; omega), hXl])
        clear hXe ht hKe
        have hX2 : m ≤ cap2 := by
          rcases (unhide HO3).2 with ⟨hv, hm0⟩ | ⟨g, cap', cur, hv, hbg, hh, hnc, hcm, hsz, htk⟩
          · omega
          · simp only [Value.slice.injEq] at hv; omega
        have hA : 0 ≤ (N : Int) / 8 := by omega
        have hB : (N : Int) / 8 ≤ m := by omega
        have hC : ((N : Int) / 8).toNat = m := by omega
        have hWr : IntKind.i64.wrap ((N : Int) / 8) = (N : Int) / 8 := by simp [IntKind.wrap, IntKind.bits, IntKind.signed]; omega
        rcases (unhide HO3).2 with ⟨hv, hm0⟩ | ⟨g, cap', cur, hv, hbg, hh, hnc, hcm, hsz, htk⟩
        · simp only [Value.slice.injEq] at hv
          obtain ⟨rfl, rfl, rfl⟩ := hv
          have hB0 : (N : Int) / 8 ≤ 0 := by omega
          clear hqI
          go_wp2_with fail
          go_region_law (refine step_copy_run rfl (.tmp 47) (.tmp 49) 22 9 rfl _ _ rfl rfl _ _ (unhide hrun _ _ _ _) ?_)
          all_goals
            have HE := hide (And.intro e0 (And.intro e1 (And.intro e4 (And.intro e5 (And.intro HO3 Hb3)))))
            clear e0 e1 e4 e5 HO3 Hb3 hws e2 e3 hA hB hC hWr
            go_wp2_with fail
            all_goals
              refine bodyPost_ret (v := .tuple #[]) ?_ ?_ ?_
              · exact results_none rfl _ _ _
              · rfl
              obtain ⟨q0, q1, q4, q5, HO4, HB⟩ := unhide HE
              have r0 : wc.drew.cell? ⟨R, 0, none⟩ = some (.int .i64 ((N + M : Nat) : Int)) := by rw [show ((N + M : Nat) : Int) = (N : Int) + (M : Int) by omega]; simpa using q0
              have r4 : wc.drew.frozen? ⟨R, 0, none⟩ = false := by simpa [go_sem] using q4
              have r5 : wc.drew.frozen? ⟨R, 1, none⟩ = false := by simpa [go_sem] using q5
              have ho := (unhide HO4).drew
              rw [unhide hfin, unhide HX] at ho
              have r1 := (show wc.drew.cell? ⟨R, 1, none⟩ = _ from World.cell?_drew ..).trans q1
              refine ⟨rfl, _, r0, r1, r4, r5, ?_, (unhide HB).drew⟩
              rw [← (unhide HT).2]
              exact ho
        · simp only [Value.slice.injEq] at hv
          obtain ⟨rfl, _, rfl⟩ := hv
          clear hqI
          go_wp2_with fail
          go_region_law (refine step_copy_run rfl (.tmp 47) (.tmp 49) 22 9 rfl _ _ rfl rfl _ _ (unhide hrun _ _ _ _) ?_)
          all_goals
            have HE := hide (And.intro e0 (And.intro e1 (And.intro e4 (And.intro e5 (And.intro HO3 Hb3)))))
            clear e0 e1 e4 e5 HO3 Hb3 hws e2 e3 hA hB hC hWr
            go_wp2_with fail
            all_goals
              refine bodyPost_ret (v := .tuple #[]) ?_ ?_ ?_
              · exact results_none rfl _ _ _
              · rfl
              obtain ⟨q0, q1, q4, q5, HO4, HB⟩ := unhide HE
              have r0 : wc.drew.cell? ⟨R, 0, none⟩ = some (.int .i64 ((N + M : Nat) : Int)) := by rw [show ((N + M : Nat) : Int) = (N : Int) + (M : Int) by omega]; simpa using q0
              have r4 : wc.drew.frozen? ⟨R, 0, none⟩ = false := by simpa [go_sem] using q4
              have r5 : wc.drew.frozen? ⟨R, 1, none⟩ = false := by simpa [go_sem] using q5
              have ho := (unhide HO4).drew
              rw [unhide hfin, unhide HX] at ho
              have r1 := (show wc.drew.cell? ⟨R, 1, none⟩ = _ from World.cell?_drew ..).trans q1
              refine ⟨rfl, _, r0, r1, r4, r5, ?_, (unhide HB).drew⟩
              rw [← (unhide HT).2]
              exact ho
      · have hm0 : 0 < m := by omega
        have hts : t.size ≤ 10000 := by omega
        have hmt : N / 8 + t.size = m := by omega
        obtain ⟨g, rfl, hgb⟩ : ∃ g, a2 = some ⟨g, 0, none⟩ ∧ base ≤ g := by
          rcases (unhide HO3).2 with ⟨hv, h0⟩ | ⟨g, cap', cur, hv, hbg, hh, hnc, hcm, hsz, htk⟩
          · omega
          · simp only [Value.slice.injEq] at hv; exact ⟨g, hv.1, hbg⟩
        have hmc : m ≤ cap2 := by
          rcases (unhide HO3).2 with ⟨hv, h0⟩ | ⟨g, cap', cur, hv, hbg, hh, hnc, hcm, hsz, htk⟩
          · omega
          · simp only [Value.slice.injEq] at hv; omega
        have hgR : g ≠ R := by omega
        have hgw : g ≠ w.heap.size := by
          rintro rfl
          have h := own_cell (unhide HO3) 0 hm0
          rw [e2] at h
          simp at h
        have hbl : (Lib.byteCells t.data.toList).length = t.size := by rw [Lib.byteCells_length]; rfl
        obtain ⟨cur, hcur, hml, hafter⟩ := own_copied (o := N / 8) (zs := Lib.byteCells t.data.toList) (unhide HO3) (by rw [hbl]; exact hmt)
        rw [hbl] at hafter
        have hcp := copy_bytes A t M (by rw [← unhide HNE]; exact h8) ht (unhide HZ)
        rw [← unhide HNE, ← hXe] at hcp
        rw [hcp] at hafter
        have hrun := hide (fun (w' : World) (hc : w'.heap[g]? = some (.cells cur 5 (0, 0))) => Lib.run_copy_row_string (P := Tryz.prog) w' 22 9 3 5 g (N / 8) (m - N / 8) (cap2 - N / 8) t cur 5 Tryz.underlying22 (by kernel_rfl) hc (by omega) (by omega))
        have Hcur := hide hcur
        have Haf := hide hafter
        have hA : 0 ≤ (N : Int) / 8 := by omega
        have hB : (N : Int) / 8 ≤ m := by omega
        have hB1 : ¬ cap2 = N / 8 := by omega
        have hC : ((N : Int) / 8).toNat = N / 8 := by omega
        have hWr : IntKind.i64.wrap ((N : Int) / 8) = (N : Int) / 8 := by simp [IntKind.wrap, IntKind.bits, IntKind.signed]; omega
        clear hcp hafter hcur hbl ht hKe hXe
        go_wp2_with fail
        go_region_law (refine step_copy_run rfl (.tmp 47) (.tmp 49) 22 9 rfl _ _ rfl rfl _ _ (unhide hrun wc.drew (unhide Hcur)) ?_)
        all_goals
          obtain ⟨wd, hwd⟩ : ∃ wd, wd = wc.drew.setRow g (List.take (N / 8) cur.toList ++ (Lib.byteCells t.data.toList ++ List.drop m cur.toList)).toArray := ⟨_, rfl⟩
          rw [← hwd]
          have ho := unhide Haf wd (by rw [hwd, hmt, ← List.append_assoc]; rfl)
          rw [unhide HX, (unhide HT).2] at ho
          have r0 : wd.cell? ⟨R, 0, none⟩ = some (.int .i64 ((N + M : Nat) : Int)) := by rw [show ((N + M : Nat) : Int) = (N : Int) + (M : Int) by omega, hwd]; exact (cell_setRow_other _ g _ _ (fun h => hgR h.symm)).trans (by simpa using e0)
          have r1 : wd.cell? ⟨R, 1, none⟩ = some (.slice (some ⟨g, 0, none⟩) ((N + M + 7) / 8) cap2) := by rw [← (unhide HT).2, hwd]; exact (cell_setRow_other _ g _ _ (fun h => hgR h.symm)).trans (by simpa using e1)
          have hfz : ∀ o, wd.frozen? ⟨R, o, none⟩ = wc.frozen? ⟨R, o, none⟩ := fun o => by
            have hh : wd.heap[R]? = wc.heap[R]? := by rw [hwd]; unfold World.setRow; rw [Array.getElem?_modify, if_neg hgR]; rfl
            unfold World.frozen?; simp [hh]
          have r4 : wd.frozen? ⟨R, 0, none⟩ = false := (hfz 0).trans e4
          have r5 : wd.frozen? ⟨R, 1, none⟩ = false := (hfz 1).trans e5
          have hbd : Below R w wd := by rw [hwd]; exact below_setRow (unhide Hb3).drew (by omega) _
          have HE := hide (And.intro r0 (And.intro r1 (And.intro r4 (And.intro r5 (And.intro ho hbd)))))
          clear e0 e1 e4 e5 HO3 Hb3 hws e2 e3 hA hB hC hWr r0 r1 r4 r5 hbd ho hwd
          go_wp2_with fail
          refine bodyPost_ret (v := .tuple #[]) ?_ ?_ ?_
          · exact results_none rfl _ _ _
          · rfl
          obtain ⟨q0, q1, q4, q5, HO4, HB⟩ := unhide HE
          exact ⟨rfl, _, q0, q1, q4, q5, HO4, HB⟩
    · have h8' : ((N : Int) % 8 == 0) = false := by simp; omega
      have hm0 : 0 < m := by omega
      have HT := hide (And.intro ht hKe)
      obtain ⟨g, rfl, hgb⟩ : ∃ g, a2 = some ⟨g, 0, none⟩ ∧ base ≤ g := by
        rcases (unhide HO3).2 with ⟨hv, h0⟩ | ⟨g, cap', cur, hv, hbg, hh, hnc, hcm, hsz, htk⟩
        · omega
        · simp only [Value.slice.injEq] at hv; exact ⟨g, hv.1, hbg⟩
      have hgR : g ≠ R := by omega
      have hgw : g ≠ w.heap.size := by
        rintro rfl
        have h := own_cell (unhide HO3) 0 hm0
        rw [e2] at h
        simp at h
      have hXN : X.length = N + M := hXl
      have HXL := hide hXl
      have hts : t.size ≤ 10000 := by omega
      clear hXe hXl ht hKe
      go_wp2_with fail
      have HP := hide (And.intro e0 (And.intro e1 (And.intro e2 (And.intro e3 (And.intro e4 (And.intro e5 hws))))))
      go_loopw [5, 54] (fun jv iv wr => ∃ k : Nat, k ≤ t.size ∧ iv = .int .i64 k ∧ Below R w wr ∧ wr.cell? ⟨R, 0, none⟩ = some (.int .i64 ((N : Int) + (M : Int))) ∧ wr.cell? ⟨R, 1, none⟩ = some (.slice (some ⟨g, 0, none⟩) m cap2) ∧
        wr.cell? ⟨w.heap.size, 0, none⟩ = some (.int .i64 M) ∧ wr.cell? ⟨w.heap.size, 1, none⟩ = some (.string t) ∧ wr.frozen? ⟨R, 0, none⟩ = false ∧ wr.frozen? ⟨R, 1, none⟩ = false ∧ w.heap.size < wr.heap.size ∧
        wr.ownsRow base 5 1 (.slice (some ⟨g, 0, none⟩) m cap2) m (u8s (bytesAt X (N + 8 * k)))) (fun _ iv _ => t.size - (intOf iv).toNat)
      case atStart => exact ⟨0, Nat.zero_le _, rfl, unhide Hb3, e0, e1, e2, e3, e4, e5, hws, unhide HO3⟩
      case round =>
        obtain ⟨k, hk, rfl, hb, q0, q1, q2, q3, q4, q5, hs, ho⟩ := hrel
        have HB := hide hb
        have HO4 := hide ho
        clear hb ho e0 e1 e2 e3 e4 e5 hws HP
        by_cases hlt : k < t.size
        · have hltI : (k : Int) < t.size := by omega
          have eW1 : IntKind.i64.wrap (8 * (k : Int)) = 8 * (k : Int) := by simp [IntKind.wrap, IntKind.bits, IntKind.signed]; omega
          have eW2 : IntKind.i64.wrap ((N : Int) + 8 * (k : Int)) = (N : Int) + 8 * (k : Int) := by simp [IntKind.wrap, IntKind.bits, IntKind.signed]; omega
          have hKe := (unhide HT).2
          have hte := (unhide HT).1
          have hXlen : X.length = N + M := unhide HXL
          have hst := spread_step X (by rw [unhide HX]; exact join_01 A t M (unhide HA)) (N + 8 * k) ((t[k]'hlt).toNat : Int) (by omega) (by omega) (by omega) (by have := (t[k]'hlt).toNat_lt; omega)
            (fun r hr => by rw [unhide HX, ← byt_get t k hlt, unhide HNE]; exact join_bit A t M k r (unhide HZ) hlt hr)
          have hsp := spread_any R g m cap2 base (N + 8 * k) ((t[k]'hlt).toNat : Int) (bytesAt X (N + 8 * k)) wr q1 (unhide HO4) (by rw [bytesAt_length]; omega) (by omega) (by omega) hgR
          rw [hst, show ((N + 8 * k : Nat) : Int) = (N : Int) + 8 * (k : Int) by omega] at hsp
          have Hsp := hide hsp
          clear hsp hst hte hXlen hKe
          go_wp2_with fail
          refine (unhide Hsp).mono ?_
          rintro e w4 ⟨rfl, own4, oth, hb4, hs4⟩
          have r0 := (oth ⟨R, 0, none⟩ (fun h => hgR h.symm)).1.trans q0
          have r1 := (oth ⟨R, 1, none⟩ (fun h => hgR h.symm)).1.trans q1
          have r2 := (oth ⟨w.heap.size, 0, none⟩ (fun h => hgw h.symm)).1.trans q2
          have r3 := (oth ⟨w.heap.size, 1, none⟩ (fun h => hgw h.symm)).1.trans q3
          have r4 := (oth ⟨R, 0, none⟩ (fun h => hgR h.symm)).2.trans q4
          have r5 := (oth ⟨R, 1, none⟩ (fun h => hgR h.symm)).2.trans q5
          have hs5 : w.heap.size < w4.heap.size := by omega
          have HB4 := hide ((unhide HB).trans (hb4.mono (by omega)))
          have HO5 := hide own4
          clear oth hb4 own4 q0 q1 q2 q3 q4 q5 hs hs4
          go_wp2_with fail
          go_roundw
          case rel => exact ⟨k + 1, by omega, by go_num, unhide HB4, r0, r1, r2, r3, r4, r5, hs5, unhide HO5⟩
          case measure => simp [intOf]; omega
        · have hkm : k = t.size := by omega
          have hfin : bytesAt X (N + 8 * k) = bytesAt X (N + M) := by
            have hXlen : X.length = N + M := unhide HXL
            rw [bytesAt_over X (N + 8 * k) (by have := (unhide HT).1; omega), hXlen]
          have HF := hide hfin
          subst hkm
          clear hfin
          have HE := hide (And.intro q0 (And.intro q1 (And.intro q4 (And.intro q5 (And.intro HO4 HB)))))
          clear q0 q1 q4 q5 HO4 HB hs
          go_wp2_with fail
          refine bodyPost_end (v := .tuple #[]) ?_ ?_ ?_
          · exact results_none rfl _ _ _
          · rfl
          obtain ⟨q0, q1, q4, q5, HO4, HB⟩ := unhide HE
          refine ⟨rfl, _, by rw [q0]; simp, q1, q4, q5, ?_, unhide HB⟩
          rw [← (unhide HT).2, ← unhide HX, ← unhide HF]
          exact unhide HO4

end Go.Proofs.YtcgbonlffcpofaaGreatDoor
