/- impl.TermCompare: the closure that recovers the walk's fault; the function. -/
import Derived.Test.YtjhdljmghhdhgaaRec
import Derived.Test.YtjhdljmghhdhgaaOrd2
import Derived.Deep.RegionWith
namespace Go.Proofs.Ytjhdljmghhdhgaa
open Go.RowKit

set_option maxRecDepth 40000 in
set_option maxHeartbeats 1000000 in
theorem tcm_panicking (b0 b1 : Nat) (x0 x1 : Value) (older : List PanicEntry) (w : World) (h0 : w.heap[b0]? = some (.cells #[x0] 3 (0, 0))) (h1 : w.heap[b1]? = some (.cells #[x1] 3 (0, 0))) (hne : b0 ≠ b1)
    (hl0 : b0 < w.heap.size) (hl1 : b1 < w.heap.size) :
    CallsD Try.prog 30 #[.pointer (some ⟨b0, 0, none⟩), .pointer (some ⟨b1, 0, none⟩)] (.panicking ({ v := faultV, recovered := false } :: older)) w fun e u' w' =>
      e = .returned (.tuple #[]) ∧ u' = .panicking ({ v := faultV, recovered := true } :: older) ∧ w'.cell? ⟨b0, 0, none⟩ = some (.int .i64 0) ∧ w'.cell? ⟨b1, 0, none⟩ = some (.int .i64 1) ∧ ∀ B, B ≤ b0 → B ≤ b1 → Below B w w' := by
  refine callsD_of_wpS Try.func30 rfl fun c₀ cs hu => ?_
  apply wpS_seq
  apply wpS_region
  simp [wpOpsS, go_sem, recoverD, hu, Try.ntmps30, Exit.thenS]
  refine (faultIn_fault _).mono ?_
  rintro e w1 ⟨rfl, hb1⟩
  simp [go_sem, Oper.upon, Result.andThen]
  have hw0 : (w1.alloc (.cells #[.int .i64 1, .int .i64 0] 48)).heap[b0]? = some (.cells #[x0] 3 (0, 0)) := ((Below.heap_alloc _ _ _ (Nat.lt_of_lt_of_le hl0 hb1.size)).trans (hb1.block _ hl0)).trans h0
  have hw1 : (w1.alloc (.cells #[.int .i64 1, .int .i64 0] 48)).heap[b1]? = some (.cells #[x1] 3 (0, 0)) := ((Below.heap_alloc _ _ _ (Nat.lt_of_lt_of_le hl1 hb1.size)).trans (hb1.block _ hl1)).trans h1
  have hw2 := heap_new w1 (.cells #[.int .i64 1, .int .i64 0] 48)
  have hbw : Below w.heap.size w (w1.alloc (.cells #[.int .i64 1, .int .i64 0] 48)) := hb1.alloc hb1.size _
  have hn0 : b0 ≠ w1.heap.size := by have := hb1.size; omega
  have hn1 : b1 ≠ w1.heap.size := by have := hb1.size; omega
  have hd0 : (w1.alloc (.cells #[.int .i64 1, .int .i64 0] 48)).heap.size > b0 := by simp; have := hb1.size; omega
  generalize w1.alloc (.cells #[.int .i64 1, .int .i64 0] 48) = W at hw0 hw1 hw2 hbw hd0 ⊢
  have c0 : W.cell? ⟨b0, 0, none⟩ = some x0 := cell_of_heap hw0 0
  have c1 : W.cell? ⟨b1, 0, none⟩ = some x1 := cell_of_heap hw1 0
  have c2 : W.cell? ⟨w1.heap.size, 0, none⟩ = some (.int .i64 1) := cell_of_heap hw2 0
  have z0 := frozen_of_heap hw0 0
  have z1 := frozen_of_heap hw1 0
  have R0 : Row b0 3 1 W := ⟨_, hw0, rfl⟩
  have R1 : Row b1 3 1 W := ⟨_, hw1, rfl⟩
  have HR := hide (And.intro R0 R1)
  clear hw0 hw1 hw2 R0 R1
  refine wpS_of_wp ?_
  change Code.wp _ _ _ { tmps := #[.pointer (some ⟨b0, 0, none⟩), .pointer (some ⟨b1, 0, none⟩), .pointer (some ⟨w1.heap.size, 0, none⟩), .bool true, .tuple #[.agg #[.int .i64 1, .int .i64 0], .bool true], faultV, .tuple #[.agg #[.int .i64 1, .int .i64 0], .bool true], .agg #[.int .i64 1, .int .i64 0], .bool true, undef, undef, undef], defers := [] } _
  have hne' := hne.symm
  have hn0' := hn0.symm
  have hn1' := hn1.symm
  go_wp2_with fail
  go_region
  go_wp2_with fail
  obtain ⟨R0, R1⟩ := unhide HR
  have R1' : Row b1 3 1 (W.setCell ⟨b0, 0, none⟩ (.int .i64 0)) := R1.keep (Below.heap_setCell _ _ _ _ hne')
  have q0 : ((W.setCell ⟨b0, 0, none⟩ (.int .i64 0)).setCell ⟨b1, 0, none⟩ (.int .i64 1)).cell? ⟨b0, 0, none⟩ = some (.int .i64 0) := (World.cell?_of_block (Below.heap_setCell _ _ _ _ hne)).trans (R0.set_get (by omega) _)
  have q1 := R1'.set_get (o := 0) (by omega) (.int .i64 1)
  have hB : ∀ B, B ≤ b0 → B ≤ b1 → Below B w ((W.setCell ⟨b0, 0, none⟩ (.int .i64 0)).setCell ⟨b1, 0, none⟩ (.int .i64 1)).drew := fun B k0 k1 =>
    (((hbw.mono (by omega)).setCell (p := ⟨b0, 0, none⟩) k0 _).setCell (p := ⟨b1, 0, none⟩) k1 _).drew
  clear c0 c1 c2 z0 z1
  simp [bodyPostS, results, Try.results30, q0, q1]
  exact hB

set_option maxRecDepth 40000 in
set_option maxHeartbeats 1000000 in
theorem tcm_idle (b0 b1 : Nat) (w : World) :
    CallsD Try.prog 30 #[.pointer (some ⟨b0, 0, none⟩), .pointer (some ⟨b1, 0, none⟩)] .returning w fun e u' w' => e = .returned (.tuple #[]) ∧ u' = .returning ∧ Below w.heap.size w w' := by
  refine callsD_of_wpS Try.func30 rfl fun c₀ cs hu => ?_
  apply wpS_seq
  apply wpS_region
  simp [wpOpsS, go_sem, recoverD, hu, Try.ntmps30, Exit.thenS]
  refine (faultIn_nil _).mono ?_
  rintro e w1 ⟨rfl, hb1⟩
  simp [go_sem, Oper.upon, Result.andThen]
  have hbw : Below w.heap.size w (w1.alloc (.cells #[.int .i64 0, .int .i64 0] 48)) := hb1.alloc hb1.size _
  generalize w1.alloc (.cells #[.int .i64 0, .int .i64 0] 48) = W at hbw ⊢
  refine wpS_of_wp ?_
  change Code.wp _ _ _ { tmps := #[.pointer (some ⟨b0, 0, none⟩), .pointer (some ⟨b1, 0, none⟩), .pointer (some ⟨w1.heap.size, 0, none⟩), .bool false, .tuple #[.agg #[.int .i64 0, .int .i64 0], .bool false], .nilIface, .tuple #[.agg #[.int .i64 0, .int .i64 0], .bool false], .agg #[.int .i64 0, .int .i64 0], .bool false, undef, undef, undef], defers := [] } _
  go_wp2_with fail
  have hu' := hide hbw
  clear hb1 hbw
  cases c₀
  simp_all [bodyPostS, results, Try.results30]
  exact unhide hu'

set_option maxRecDepth 40000 in
/-- At the door, behind the walk's fault: 0 and ErrBad. -/
theorem cmp_door {w : World} (tm : Array Value) (w3 : World) (b0 b1 : Nat) (x0 x1 : Value) (A C : Int) (hA : A = 0) (hC : C = 1) (h4 : tm.getD 4 undef = .pointer (some ⟨b0, 0, none⟩)) (h5 : tm.getD 5 undef = .pointer (some ⟨b1, 0, none⟩))
    (k1 : w3.heap[b0]? = some (.cells #[x0] 3 (0, 0))) (k2 : w3.heap[b1]? = some (.cells #[x1] 3 (0, 0))) (hne : b0 ≠ b1) (hl0 : b0 < w3.heap.size) (hl1 : b1 < w3.heap.size) (hb0 : w.heap.size ≤ b0) (hb1 : w.heap.size ≤ b1) (hbw : Below w.heap.size w w3) :
    bodyPostD Try.prog Try.f12 (fun e w' => e = .returned (.tuple #[.int .i64 A, .int .i64 C]) ∧ Below w.heap.size w w') (Exit.panic [{ v := faultV, recovered := false }])
      { tmps := tm, defers := [{ target := Target.fn (Fn.func 30) #[.pointer (some ⟨b0, 0, none⟩), .pointer (some ⟨b1, 0, none⟩)], args := #[] }] } w3 := by
  subst hA hC
  refine leaves_cons (f := 30) (args := #[.pointer (some ⟨b0, 0, none⟩), .pointer (some ⟨b1, 0, none⟩)]) (by simp) (by simp [go_sem]) ?_
  refine (tcm_panicking b0 b1 x0 x1 [] w3 k1 k2 hne hl0 hl1).mono ?_
  rintro e u' w4 ⟨rfl, rfl, g1, g2, hb4⟩
  have hB := hide (hbw.trans (hb4 w.heap.size hb0 hb1))
  clear hb4 hbw k1 k2
  have h4' : tm[4]?.getD undef = .pointer (some ⟨b0, 0, none⟩) := by simpa using h4
  have h5' : tm[5]?.getD undef = .pointer (some ⟨b1, 0, none⟩) := by simpa using h5
  simp [Leaves, settle, results, Try.results12, go_sem, h4', h5', g1, g2]
  exact unhide hB

theorem cmpAns_l {n m : Nat} {t : Tm n} {u : Tm m} (h : ¬ valOK n t 0 1) : cmpAns n m t u = 0 := by unfold cmpAns; rw [if_neg fun g => h (ok_val.1 g.1)]
theorem cmpCode_l {n m : Nat} {t : Tm n} {u : Tm m} (h : ¬ valOK n t 0 1) : cmpCode n m t u = 1 := by unfold cmpCode; rw [if_neg fun g => h (ok_val.1 g.1)]
theorem cmpAns_r {n m : Nat} {t : Tm n} {u : Tm m} (h : ¬ valOK m u 0 1) : cmpAns n m t u = 0 := by unfold cmpAns; rw [if_neg fun g => h (ok_val.1 g.2)]
theorem cmpCode_r {n m : Nat} {t : Tm n} {u : Tm m} (h : ¬ valOK m u 0 1) : cmpCode n m t u = 1 := by unfold cmpCode; rw [if_neg fun g => h (ok_val.1 g.2)]

set_option maxRecDepth 40000 in
set_option maxHeartbeats 2000000 in
theorem iCmp_any {n m : Nat} (t : Tm n) (u : Tm m) (c0 c1 c2 c3 d0 d1 d2 d3 : Value) (w : World) (ht : TAt (Under w.heap.size) w n t c0 c1 c2 c3) (hu : TAt (Under w.heap.size) w m u d0 d1 d2 d3) :
    Calls Try.prog 12 #[.agg #[c0, c1, c2, c3], .agg #[d0, d1, d2, d3]] w fun e w' => e = .returned (.tuple #[.int .i64 (cmpAns n m t u), .int .i64 (cmpCode n m t u)]) ∧ Below w.heap.size w w' := by
  obtain ⟨k0, k1, k2, k3, k4, k5, rfl, rfl, rfl, rfl⟩ := ht.shape
  obtain ⟨l0, l1, l2, l3, l4, l5, rfl, rfl, rfl, rfl⟩ := hu.shape
  have hmf : ∀ (fn : Fn) (first cap : Array Value) (w : World), (Instr.makeFunc fn first cap).run Try.prog w = .ok (.func fn first cap) w := fun _ _ _ _ => rfl
  obtain ⟨W0, hW0⟩ : ∃ W0, W0 = (((w.alloc (.cells #[.int .i64 k0, .int .i64 k1, .string k2, .slice k3 k4 k5] 26)).alloc (.cells #[.int .i64 l0, .int .i64 l1, .string l2, .slice l3 l4 l5] 26)).alloc (.cells #[.int .i64 0] 3)).alloc (.cells #[.int .i64 0] 3) := ⟨_, rfl⟩
  have hs0 : W0.heap.size = w.heap.size + 4 := by rw [hW0]; simp
  have hb0 : Below w.heap.size w W0 := by rw [hW0]; exact (((((Below.refl w.heap.size w).alloc (Nat.le_refl _) _).alloc (by simp) _).alloc (by simp; omega) _).alloc (by simp; omega) _)
  have g0 : W0.heap[w.heap.size]? = some (.cells #[.int .i64 k0, .int .i64 k1, .string k2, .slice k3 k4 k5] 26 (0, 0)) := by
    rw [hW0, Below.heap_alloc _ _ _ (by simp; omega), Below.heap_alloc _ _ _ (by simp; omega), Below.heap_alloc _ _ _ (by simp)]; exact heap_new w _
  have g1 : W0.heap[w.heap.size + 1]? = some (.cells #[.int .i64 l0, .int .i64 l1, .string l2, .slice l3 l4 l5] 26 (0, 0)) := by
    rw [hW0, Below.heap_alloc _ _ _ (by simp), Below.heap_alloc _ _ _ (by simp)]
    have := heap_new (w.alloc (.cells #[.int .i64 k0, .int .i64 k1, .string k2, .slice k3 k4 k5] 26)) (.cells #[.int .i64 l0, .int .i64 l1, .string l2, .slice l3 l4 l5] 26)
    simpa using this
  have g2 : W0.heap[w.heap.size + 2]? = some (.cells #[.int .i64 0] 3 (0, 0)) := by
    rw [hW0, Below.heap_alloc _ _ _ (by simp)]
    have := heap_new ((w.alloc (.cells #[.int .i64 k0, .int .i64 k1, .string k2, .slice k3 k4 k5] 26)).alloc (.cells #[.int .i64 l0, .int .i64 l1, .string l2, .slice l3 l4 l5] 26)) (.cells #[.int .i64 0] 3)
    simpa using this
  have g3 : W0.heap[w.heap.size + 3]? = some (.cells #[.int .i64 0] 3 (0, 0)) := by
    rw [hW0]
    have := heap_new (((w.alloc (.cells #[.int .i64 k0, .int .i64 k1, .string k2, .slice k3 k4 k5] 26)).alloc (.cells #[.int .i64 l0, .int .i64 l1, .string l2, .slice l3 l4 l5] 26)).alloc (.cells #[.int .i64 0] 3)) (.cells #[.int .i64 0] 3)
    simpa using this
  have hK : ∀ w', Below W0.heap.size W0 w' → w'.heap[w.heap.size]? = some (.cells #[.int .i64 k0, .int .i64 k1, .string k2, .slice k3 k4 k5] 26 (0, 0)) ∧ w'.heap[w.heap.size + 1]? = some (.cells #[.int .i64 l0, .int .i64 l1, .string l2, .slice l3 l4 l5] 26 (0, 0)) ∧
      w'.heap[w.heap.size + 2]? = some (.cells #[.int .i64 0] 3 (0, 0)) ∧ w'.heap[w.heap.size + 3]? = some (.cells #[.int .i64 0] 3 (0, 0)) ∧ Below w.heap.size w w' ∧ w.heap.size + 4 ≤ w'.heap.size := fun w' hb =>
    ⟨(hb.block _ (by omega)).trans g0, (hb.block _ (by omega)).trans g1, (hb.block _ (by omega)).trans g2, (hb.block _ (by omega)).trans g3, hb0.trans (hb.mono hb0.size), by have := hb.size; omega⟩
  have HK := hide hK
  have Hd := hide (show Below W0.heap.size W0 W0.drew from (Below.refl _ _).drew)
  have HT := hide ht
  have HU := hide hu
  have HW := hide hW0
  clear ht hu hK hb0 g0 g1 g2 g3
  go_enter_defers Try.func12, Try.ntmps12
  go_wp2_with fail
  rw [← unhide HW]
  clear hW0
  obtain ⟨q0, q1, q2, q3, hbd, hsd⟩ := unhide HK W0.drew (unhide Hd)
  have p0 : W0.drew.cell? ⟨w.heap.size, 0, none⟩ = some (.int .i64 k0) := cell_of_heap q0 0
  have p1 : W0.drew.cell? ⟨w.heap.size, 1, none⟩ = some (.int .i64 k1) := cell_of_heap q0 1
  have p2 : W0.drew.cell? ⟨w.heap.size, 2, none⟩ = some (.string k2) := cell_of_heap q0 2
  have p3 : W0.drew.cell? ⟨w.heap.size, 3, none⟩ = some (.slice k3 k4 k5) := cell_of_heap q0 3
  have r0 : W0.drew.cell? ⟨w.heap.size + 1, 0, none⟩ = some (.int .i64 l0) := cell_of_heap q1 0
  have r1 : W0.drew.cell? ⟨w.heap.size + 1, 1, none⟩ = some (.int .i64 l1) := cell_of_heap q1 1
  have r2 : W0.drew.cell? ⟨w.heap.size + 1, 2, none⟩ = some (.string l2) := cell_of_heap q1 2
  have r3 : W0.drew.cell? ⟨w.heap.size + 1, 3, none⟩ = some (.slice l3 l4 l5) := cell_of_heap q1 3
  have HTd := hide ((unhide HT).up hbd)
  clear q0 q1 q2 q3 hbd hsd
  go_region_with (first
    | (go_at_call_of 33 k2; refine (inward_any n t _ _ _ _ _ (unhide HTd)).mono ?_; rintro e w3 ⟨hb3, hend⟩; have hB3 := (unhide Hd).trans hb3; obtain ⟨q0, q1, q2, q3, hbw, hsz⟩ := unhide HK w3 hB3; rcases hend with ⟨hok, v, rfl, hv⟩ | ⟨hno, rfl⟩; rotate_left; exact cmp_door _ w3 (w.heap.size + 2) (w.heap.size + 3) _ _ _ _ (cmpAns_l hno) (cmpCode_l hno) rfl rfl q2 q3 (by omega) (by omega) (by omega) (by omega) (by omega) hbw; have r0 : w3.cell? ⟨w.heap.size + 1, 0, none⟩ = some (.int .i64 l0) := cell_of_heap q1 0; have r1 : w3.cell? ⟨w.heap.size + 1, 1, none⟩ = some (.int .i64 l1) := cell_of_heap q1 1; have r2 : w3.cell? ⟨w.heap.size + 1, 2, none⟩ = some (.string l2) := cell_of_heap q1 2; have r3 : w3.cell? ⟨w.heap.size + 1, 3, none⟩ = some (.slice l3 l4 l5) := cell_of_heap q1 3; have HV := hide hv; have HOK := hide hok; have HB3 := hide hB3; have HUd := hide ((unhide HU).up hbw); clear hok hv hb3 hB3 q0 q1 q2 q3 hbw hsz)
    | (go_at_call_of 33 l2; refine (inward_any m u _ _ _ _ _ (unhide HUd)).mono ?_; rintro e w4 ⟨hb4, hend⟩; have hB4 := (unhide HB3).trans (hb4.mono (unhide HB3).size); obtain ⟨q0, q1, q2, q3, hbw, hsz⟩ := unhide HK w4 hB4; rcases hend with ⟨hok, v', rfl, hv'⟩ | ⟨hno, rfl⟩; rotate_left; exact cmp_door _ w4 (w.heap.size + 2) (w.heap.size + 3) _ _ _ _ (cmpAns_r hno) (cmpCode_r hno) rfl rfl q2 q3 (by omega) (by omega) (by omega) (by omega) (by omega) hbw; have HV' := hide hv'; have HOK' := hide hok; have HB34 := hide hb4; have HB4 := hide hB4; clear hok hv' hb4 hB4 q0 q1 q2 q3 hbw hsz)
    | (go_at_call 32; refine (ord_any n m t u v v' w4 (((unhide HV).keep fun b hb => (unhide HB34).block b hb.2).mono fun b hb => Nat.lt_of_lt_of_le hb.2 (unhide HB34).size) ((unhide HV').mono fun b hb => hb.2) (unhide HOK).1 (unhide HOK').1).mono ?_; rintro e w5 ⟨rfl, hb5⟩; have hB5 := (unhide HB4).trans (hb5.mono (unhide HB4).size); obtain ⟨q0, q1, q2, q3, hbw, hsz⟩ := unhide HK w5 hB5; have s0 : w5.cell? ⟨w.heap.size + 2, 0, none⟩ = some (.int .i64 0) := cell_of_heap q2 0; have s1 : w5.cell? ⟨w.heap.size + 3, 0, none⟩ = some (.int .i64 0) := cell_of_heap q3 0; have z0 := frozen_of_heap q2 0; have z1 := frozen_of_heap q3 0; have HQ := hide (And.intro q2 q3); have HB5 := hide hbw; have HS5 := hide hsz; clear hb5 hB5 q0 q1 q2 q3 hbw hsz))
  all_goals
    have ha : cmpAns n m t u = cmpT n m t u := by unfold cmpAns; rw [if_pos ⟨ok_val.2 (unhide HOK), ok_val.2 (unhide HOK')⟩]
    have hb : cmpCode n m t u = 0 := by unfold cmpCode; rw [if_pos ⟨ok_val.2 (unhide HOK), ok_val.2 (unhide HOK')⟩]
    obtain ⟨x, hx⟩ : ∃ x, x = cmpT n m t u := ⟨_, rfl⟩
    rw [← hx] at ha
    rw [← hx]
    have HA := hide ha
    have HC := hide hb
    obtain ⟨w6, hw6⟩ : ∃ w6, w6 = (w5.setCell ⟨w.heap.size + 2, 0, none⟩ (.int .i64 x)).setCell ⟨w.heap.size + 3, 0, none⟩ (.int .i64 0) := ⟨_, rfl⟩
    have u0 : w6.cell? ⟨w.heap.size + 2, 0, none⟩ = some (.int .i64 x) := by
      rw [hw6]; exact (World.cell?_setCell_other _ _ _ _ (by simp)).trans (World.cell?_setCell_same _ _ _ s0)
    have u1 : w6.cell? ⟨w.heap.size + 3, 0, none⟩ = some (.int .i64 0) := by
      rw [hw6]; exact World.cell?_setCell_same _ _ _ ((World.cell?_setCell_other _ _ _ _ (by simp)).trans s1)
    have hB6 : Below w.heap.size w w6 := by
      rw [hw6]; exact ((unhide HB5).setCell (p := ⟨w.heap.size + 2, 0, none⟩) (by show w.heap.size ≤ w.heap.size + 2; omega) _).setCell (p := ⟨w.heap.size + 3, 0, none⟩) (by show w.heap.size ≤ w.heap.size + 3; omega) _
    have hs6 : w.heap.size + 4 ≤ w6.heap.size := by rw [hw6]; simpa using unhide HS5
    have e6 : (w5.setCell ⟨w.heap.size + 1 + 1, 0, none⟩ (.int .i64 x)).setCell ⟨w.heap.size + 1 + 1 + 1, 0, none⟩ (.int .i64 0) = w6 := hw6.symm
    rw [e6]
    have HB6 := hide hB6
    clear hw6 e6 s0 s1 z0 z1 ha hb hx hB6
    go_wp2_with fail
    refine leaves_cons (f := 30) (args := #[.pointer (some ⟨w.heap.size + 2, 0, none⟩), .pointer (some ⟨w.heap.size + 3, 0, none⟩)]) (by simp) (by simp [go_sem]) ?_
    refine (tcm_idle _ _ _).mono ?_
    rintro e u' w7 ⟨rfl, rfl, hb7⟩
    have g1 := (World.cell?_of_block (hb7.block (w.heap.size + 2) (by omega))).trans u0
    have g2 := (World.cell?_of_block (hb7.block (w.heap.size + 3) (by omega))).trans u1
    have hB7 := hide ((unhide HB6).trans (hb7.mono (unhide HB6).size))
    clear hb7 u0 u1
    rw [unhide HA, unhide HC]
    simp [Leaves, settle, results, Try.results12, go_sem, g1, g2]
    exact unhide hB7

end Go.Proofs.Ytjhdljmghhdhgaa
