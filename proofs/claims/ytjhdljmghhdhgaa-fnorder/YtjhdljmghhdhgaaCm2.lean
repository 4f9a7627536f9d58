/- spec.TermCompare. -/
import Derived.Test.YtjhdljmghhdhgaaSpc
namespace Go.Proofs.Ytjhdljmghhdhgaa
open Go.RowKit

theorem heap4 {w : World} {b : Nat} {x0 x1 x2 x3 : Value} {e : TypeId} (h : w.heap[b]? = some (.cells #[x0, x1, x2, x3] e (0, 0))) :
    w.cell? ⟨b, 0, none⟩ = some x0 ∧ w.cell? ⟨b, 1, none⟩ = some x1 ∧ w.cell? ⟨b, 2, none⟩ = some x2 ∧ w.cell? ⟨b, 3, none⟩ = some x3 :=
  ⟨cell_of_heap h 0, cell_of_heap h 1, cell_of_heap h 2, cell_of_heap h 3⟩

set_option maxRecDepth 40000 in
set_option maxHeartbeats 1000000 in
theorem sCmp_any {n m : Nat} (t : Tm n) (u : Tm m) (c0 c1 c2 c3 d0 d1 d2 d3 : Value) (w : World) (ht : TAt (Under w.heap.size) w n t c0 c1 c2 c3) (hu : TAt (Under w.heap.size) w m u d0 d1 d2 d3) :
    Calls Try.prog 20 #[.agg #[c0, c1, c2, c3], .agg #[d0, d1, d2, d3]] w fun e w' => e = .returned (.tuple #[.int .i64 (cmpAns n m t u), .int .i64 (cmpCode n m t u)]) ∧ Below w.heap.size w w' := by
  obtain ⟨k0, k1, k2, k3, k4, k5, rfl, rfl, rfl, rfl⟩ := ht.shape
  obtain ⟨l0, l1, l2, l3, l4, l5, rfl, rfl, rfl, rfl⟩ := hu.shape
  obtain ⟨W0, hW0⟩ : ∃ W0, W0 = (w.alloc (.cells #[.int .i64 k0, .int .i64 k1, .string k2, .slice k3 k4 k5] 26)).alloc (.cells #[.int .i64 l0, .int .i64 l1, .string l2, .slice l3 l4 l5] 26) := ⟨_, rfl⟩
  have hs0 : W0.heap.size = w.heap.size + 2 := by rw [hW0]; simp
  have hb0 : Below w.heap.size w W0 := by rw [hW0]; exact ((Below.refl w.heap.size w).alloc (Nat.le_refl _) _).alloc (by simp) _
  have g0 : W0.heap[w.heap.size]? = some (.cells #[.int .i64 k0, .int .i64 k1, .string k2, .slice k3 k4 k5] 26 (0, 0)) := by
    rw [hW0, Below.heap_alloc _ _ _ (by simp)]; exact heap_new w _
  have g1 : W0.heap[w.heap.size + 1]? = some (.cells #[.int .i64 l0, .int .i64 l1, .string l2, .slice l3 l4 l5] 26 (0, 0)) := by
    rw [hW0]
    have := heap_new (w.alloc (.cells #[.int .i64 k0, .int .i64 k1, .string k2, .slice k3 k4 k5] 26)) (.cells #[.int .i64 l0, .int .i64 l1, .string l2, .slice l3 l4 l5] 26)
    simpa using this
  have hK : ∀ w', Below W0.heap.size W0 w' → w'.heap[w.heap.size]? = some (.cells #[.int .i64 k0, .int .i64 k1, .string k2, .slice k3 k4 k5] 26 (0, 0)) ∧ w'.heap[w.heap.size + 1]? = some (.cells #[.int .i64 l0, .int .i64 l1, .string l2, .slice l3 l4 l5] 26 (0, 0)) ∧
      Below w.heap.size w w' := fun w' hb => ⟨(hb.block _ (by omega)).trans g0, (hb.block _ (by omega)).trans g1, hb0.trans (hb.mono hb0.size)⟩
  have HK := hide hK
  have HT := hide ht
  have HU := hide hu
  have HW := hide hW0
  have hok := hide (sOK_any t _ _ _ _ W0 (ht.up hb0))
  clear ht hu hK g0 g1
  cases hT : okB n t
  · have ha : cmpAns n m t u = 0 := by unfold cmpAns; rw [if_neg fun g => by rw [hT] at g; cases g.1]
    have hc : cmpCode n m t u = 1 := by unfold cmpCode; rw [if_neg fun g => by rw [hT] at g; cases g.1]
    have HA := hide ha
    have HC := hide hc
    clear ha hc
    go_enter Try.func20, Try.ntmps20
    go_wp2_with fail
    rw [← unhide HW]
    clear hW0
    refine (unhide hok).mono ?_
    rintro e w1 ⟨rfl, hb1⟩
    rw [hT]
    obtain ⟨q0, q1, hbw⟩ := unhide HK w1 hb1
    obtain ⟨p0, p1, p2, p3⟩ := heap4 q0
    obtain ⟨r0, r1, r2, r3⟩ := heap4 q1
    have HU1 := hide ((unhide HU).up hbw)
    have HT1 := hide ((unhide HT).up hbw)
    have HB1 := hide hb1
    have HBW := hide hbw
    clear hb1 hbw q0 q1
    go_wp2_with fail
    go_ret2
    exact ⟨ret_int2 (unhide HA).symm (unhide HC).symm, unhide HBW⟩
  cases hU : okB m u
  · have ha : cmpAns n m t u = 0 := by unfold cmpAns; rw [if_neg fun g => by rw [hU] at g; cases g.2]
    have hc : cmpCode n m t u = 1 := by unfold cmpCode; rw [if_neg fun g => by rw [hU] at g; cases g.2]
    have HA := hide ha
    have HC := hide hc
    clear ha hc
    go_enter Try.func20, Try.ntmps20
    go_wp2_with fail
    rw [← unhide HW]
    clear hW0
    refine (unhide hok).mono ?_
    rintro e w1 ⟨rfl, hb1⟩
    rw [hT]
    obtain ⟨q0, q1, hbw⟩ := unhide HK w1 hb1
    obtain ⟨p0, p1, p2, p3⟩ := heap4 q0
    obtain ⟨r0, r1, r2, r3⟩ := heap4 q1
    have HU1 := hide ((unhide HU).up hbw)
    have HT1 := hide ((unhide HT).up hbw)
    have HB1 := hide hb1
    have HBW := hide hbw
    clear hb1 hbw q0 q1
    go_wp2_with fail
    refine (sOK_any u _ _ _ _ w1 (unhide HU1)).mono ?_
    rintro e w2 ⟨rfl, hb2⟩
    rw [hU]
    obtain ⟨q0, q1, hbw⟩ := unhide HK w2 ((unhide HB1).trans (hb2.mono (unhide HB1).size))
    obtain ⟨p0, p1, p2, p3⟩ := heap4 q0
    obtain ⟨r0, r1, r2, r3⟩ := heap4 q1
    have HU2 := hide ((unhide HU).up hbw)
    have HT2 := hide ((unhide HT).up hbw)
    have HBW2 := hide hbw
    clear hb2 hbw q0 q1
    go_wp2_with fail
    go_ret2
    exact ⟨ret_int2 (unhide HA).symm (unhide HC).symm, unhide HBW2⟩
  have ha : cmpAns n m t u = cmpT n m t u := by unfold cmpAns; rw [if_pos ⟨hT, hU⟩]
  have hc : cmpCode n m t u = 0 := by unfold cmpCode; rw [if_pos ⟨hT, hU⟩]
  have HA := hide ha
  have HC := hide hc
  clear ha hc
  go_enter Try.func20, Try.ntmps20
  go_wp2_with fail
  rw [← unhide HW]
  clear hW0
  refine (unhide hok).mono ?_
  rintro e w1 ⟨rfl, hb1⟩
  rw [hT]
  obtain ⟨q0, q1, hbw⟩ := unhide HK w1 hb1
  obtain ⟨p0, p1, p2, p3⟩ := heap4 q0
  obtain ⟨r0, r1, r2, r3⟩ := heap4 q1
  have HU1 := hide ((unhide HU).up hbw)
  have HT1 := hide ((unhide HT).up hbw)
  have HB1 := hide hb1
  have HBW := hide hbw
  clear hb1 hbw q0 q1
  go_wp2_with fail
  refine (sOK_any u _ _ _ _ w1 (unhide HU1)).mono ?_
  rintro e w2 ⟨rfl, hb2⟩
  rw [hU]
  obtain ⟨q0, q1, hbw⟩ := unhide HK w2 ((unhide HB1).trans (hb2.mono (unhide HB1).size))
  obtain ⟨p0, p1, p2, p3⟩ := heap4 q0
  obtain ⟨r0, r1, r2, r3⟩ := heap4 q1
  have HU2 := hide ((unhide HU).up hbw)
  have HT2 := hide ((unhide HT).up hbw)
  have HBW2 := hide hbw
  clear hb2 hbw q0 q1
  go_wp2_with fail
  refine (cmp_any n m t u _ _ _ _ _ _ _ _ w2 (unhide HT2) (unhide HU2)).mono ?_
  rintro e w3 ⟨rfl, hb3⟩
  have HB3 := hide ((unhide HBW2).trans (hb3.mono (unhide HBW2).size))
  clear hb3
  go_wp2_with fail
  go_ret2
  exact ⟨ret_int2 (unhide HA).symm (unhide HC).symm, unhide HB3⟩

end Go.Proofs.Ytjhdljmghhdhgaa
