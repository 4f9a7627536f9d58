/- spec.TermHash; impl.TermHash: the closure that recovers the walk's fault; the function. -/
import Derived.Test.YtpfalmoblmoaiaaHs3
import Derived.Test.YtpfalmoblmoaiaaRec
import Derived.Deep.RegionWith
namespace Go.Proofs.Ytpfalmoblmoaiaa
open Go.RowKit

/-- What TermHash answers: the number, or ErrBad. -/
def hashAns (n : Nat) (t : Tm n) : Int := if okB n t = true then hashT n t 5381 else 0
theorem u32_begin : U32 5381 := ⟨by decide, by decide⟩

set_option maxRecDepth 40000 in
set_option maxHeartbeats 1000000 in
theorem ths_panicking (b0 b1 : Nat) (x0 x1 : Value) (older : List PanicEntry) (w : World) (h0 : w.heap[b0]? = some (.cells #[x0] 3 (0, 0))) (h1 : w.heap[b1]? = some (.cells #[x1] 3 (0, 0))) (hne : b0 ≠ b1)
    (hl0 : b0 < w.heap.size) (hl1 : b1 < w.heap.size) :
    CallsD Try.prog 42 #[.pointer (some ⟨b0, 0, none⟩), .pointer (some ⟨b1, 0, none⟩)] (.panicking ({ v := faultV, recovered := false } :: older)) w fun e u' w' =>
      e = .returned (.tuple #[]) ∧ u' = .panicking ({ v := faultV, recovered := true } :: older) ∧ w'.cell? ⟨b0, 0, none⟩ = some (.int .i64 0) ∧ w'.cell? ⟨b1, 0, none⟩ = some (.int .i64 1) ∧ ∀ B, B ≤ b0 → B ≤ b1 → Below B w w' := by
  refine callsD_of_wpS Try.func42 rfl fun c₀ cs hu => ?_
  apply wpS_seq
  apply wpS_region
  simp [wpOpsS, go_sem, recoverD, hu, Try.ntmps42, Exit.thenS]
  refine (faultIn_fault _).mono ?_
  rintro e w1 ⟨rfl, hb1⟩
  simp [go_sem, Oper.upon, Result.andThen]
  have hw0 : (w1.alloc (.cells #[.int .i64 1, .int .i64 0] 48)).heap[b0]? = some (.cells #[x0] 3 (0, 0)) := ((Below.heap_alloc _ _ _ (Nat.lt_of_lt_of_le hl0 hb1.size)).trans (hb1.block _ hl0)).trans h0
  have hw1 : (w1.alloc (.cells #[.int .i64 1, .int .i64 0] 48)).heap[b1]? = some (.cells #[x1] 3 (0, 0)) := ((Below.heap_alloc _ _ _ (Nat.lt_of_lt_of_le hl1 hb1.size)).trans (hb1.block _ hl1)).trans h1
  have hw2 := heap_new w1 (.cells #[.int .i64 1, .int .i64 0] 48)
  have hbw : Below w.heap.size w (w1.alloc (.cells #[.int .i64 1, .int .i64 0] 48)) := hb1.alloc hb1.size _
  have hn0 : b0 ≠ w1.heap.size := by have := hb1.size; omega
  have hn1 : b1 ≠ w1.heap.size := by have := hb1.size; omega
  have hd0 : (w1.alloc (.cells #[.int .i64 1, .int .i64 0] 48)).heap.size > b0 := by simp; have := hb1.size; omega
  generalize w1.alloc (.cells #[.int .i64 1, .int .i64 0] 48) = W at hw0 hw1 hw2 hbw hd0 ⊢
  have c0 : W.cell? ⟨b0, 0, none⟩ = some x0 := cell_of_heap hw0 0
  have c1 : W.cell? ⟨b1, 0, none⟩ = some x1 := cell_of_heap hw1 0
  have c2 : W.cell? ⟨w1.heap.size, 0, none⟩ = some (.int .i64 1) := cell_of_heap hw2 0
  have z0 := frozen_of_heap hw0 0
  have z1 := frozen_of_heap hw1 0
  have R0 : Row b0 3 1 W := ⟨_, hw0, rfl⟩
  have R1 : Row b1 3 1 W := ⟨_, hw1, rfl⟩
  have HR := hide (And.intro R0 R1)
  clear hw0 hw1 hw2 R0 R1
  refine wpS_of_wp ?_
  change Code.wp _ _ _ { tmps := #[.pointer (some ⟨b0, 0, none⟩), .pointer (some ⟨b1, 0, none⟩), .pointer (some ⟨w1.heap.size, 0, none⟩), .bool true, .tuple #[.agg #[.int .i64 1, .int .i64 0], .bool true], faultV, .tuple #[.agg #[.int .i64 1, .int .i64 0], .bool true], .agg #[.int .i64 1, .int .i64 0], .bool true, undef, undef, undef], defers := [] } _
  have hne' := hne.symm
  have hn0' := hn0.symm
  have hn1' := hn1.symm
  go_wp2_with fail
  go_region
  go_wp2_with fail
  obtain ⟨R0, R1⟩ := unhide HR
  have R1' : Row b1 3 1 (W.setCell ⟨b0, 0, none⟩ (.int .i64 0)) := R1.keep (Below.heap_setCell _ _ _ _ hne')
  have q0 : ((W.setCell ⟨b0, 0, none⟩ (.int .i64 0)).setCell ⟨b1, 0, none⟩ (.int .i64 1)).cell? ⟨b0, 0, none⟩ = some (.int .i64 0) := (World.cell?_of_block (Below.heap_setCell _ _ _ _ hne)).trans (R0.set_get (by omega) _)
  have q1 := R1'.set_get (o := 0) (by omega) (.int .i64 1)
  have hB : ∀ B, B ≤ b0 → B ≤ b1 → Below B w ((W.setCell ⟨b0, 0, none⟩ (.int .i64 0)).setCell ⟨b1, 0, none⟩ (.int .i64 1)).drew := fun B k0 k1 =>
    (((hbw.mono (by omega)).setCell (p := ⟨b0, 0, none⟩) k0 _).setCell (p := ⟨b1, 0, none⟩) k1 _).drew
  clear c0 c1 c2 z0 z1
  simp [bodyPostS, results, Try.results42, q0, q1]
  exact hB

set_option maxRecDepth 40000 in
set_option maxHeartbeats 1000000 in
theorem ths_idle (b0 b1 : Nat) (w : World) :
    CallsD Try.prog 42 #[.pointer (some ⟨b0, 0, none⟩), .pointer (some ⟨b1, 0, none⟩)] .returning w fun e u' w' => e = .returned (.tuple #[]) ∧ u' = .returning ∧ Below w.heap.size w w' := by
  refine callsD_of_wpS Try.func42 rfl fun c₀ cs hu => ?_
  apply wpS_seq
  apply wpS_region
  simp [wpOpsS, go_sem, recoverD, hu, Try.ntmps42, Exit.thenS]
  refine (faultIn_nil _).mono ?_
  rintro e w1 ⟨rfl, hb1⟩
  simp [go_sem, Oper.upon, Result.andThen]
  have hbw : Below w.heap.size w (w1.alloc (.cells #[.int .i64 0, .int .i64 0] 48)) := hb1.alloc hb1.size _
  generalize w1.alloc (.cells #[.int .i64 0, .int .i64 0] 48) = W at hbw ⊢
  refine wpS_of_wp ?_
  change Code.wp _ _ _ { tmps := #[.pointer (some ⟨b0, 0, none⟩), .pointer (some ⟨b1, 0, none⟩), .pointer (some ⟨w1.heap.size, 0, none⟩), .bool false, .tuple #[.agg #[.int .i64 0, .int .i64 0], .bool false], .nilIface, .tuple #[.agg #[.int .i64 0, .int .i64 0], .bool false], .agg #[.int .i64 0, .int .i64 0], .bool false, undef, undef, undef], defers := [] } _
  go_wp2_with fail
  have hu' := hide hbw
  clear hb1 hbw
  cases c₀
  simp_all [bodyPostS, results, Try.results42]
  exact unhide hu'


set_option maxRecDepth 40000 in
/-- Behind the walk's fault: 0 and ErrBad. -/
theorem hash_door {w : World} (tm : Array Value) (w3 : World) (b0 b1 : Nat) (x0 x1 : Value) (A C : Int) (hA : A = 0) (hC : C = 1) (h4 : tm.getD 2 undef = .pointer (some ⟨b0, 0, none⟩)) (h5 : tm.getD 3 undef = .pointer (some ⟨b1, 0, none⟩))
    (k1 : w3.heap[b0]? = some (.cells #[x0] 3 (0, 0))) (k2 : w3.heap[b1]? = some (.cells #[x1] 3 (0, 0))) (hne : b0 ≠ b1) (hl0 : b0 < w3.heap.size) (hl1 : b1 < w3.heap.size) (hb0 : w.heap.size ≤ b0) (hb1 : w.heap.size ≤ b1) (hbw : Below w.heap.size w w3) :
    bodyPostD Try.prog Try.f22 (fun e w' => e = .returned (.tuple #[.int .i64 A, .int .i64 C]) ∧ Below w.heap.size w w') (Exit.panic [{ v := faultV, recovered := false }])
      { tmps := tm, defers := [{ target := Target.fn (Fn.func 42) #[.pointer (some ⟨b0, 0, none⟩), .pointer (some ⟨b1, 0, none⟩)], args := #[] }] } w3 := by
  subst hA hC
  refine leaves_cons (f := 42) (args := #[.pointer (some ⟨b0, 0, none⟩), .pointer (some ⟨b1, 0, none⟩)]) (by simp) (by simp [go_sem]) ?_
  refine (ths_panicking b0 b1 x0 x1 [] w3 k1 k2 hne hl0 hl1).mono ?_
  rintro e u' w4 ⟨rfl, rfl, g1, g2, hb4⟩
  have hB := hide (hbw.trans (hb4 w.heap.size hb0 hb1))
  clear hb4 hbw k1 k2
  have h4' : tm[2]?.getD undef = .pointer (some ⟨b0, 0, none⟩) := by simpa using h4
  have h5' : tm[3]?.getD undef = .pointer (some ⟨b1, 0, none⟩) := by simpa using h5
  simp [Leaves, settle, results, Try.results22, go_sem, h4', h5', g1, g2]
  exact unhide hB

theorem hashAns_no {n : Nat} {t : Tm n} (h : ¬ valOK n t 0 1) : hashAns n t = 0 := by unfold hashAns; rw [if_neg fun g => h (ok_val.1 g)]
theorem hashCode_no {n : Nat} {t : Tm n} (h : ¬ valOK n t 0 1) : codeAns n t = 1 := by unfold codeAns; rw [if_neg fun g => h (ok_val.1 g)]

set_option maxRecDepth 40000 in
set_option maxHeartbeats 2000000 in
theorem iHash_any {n : Nat} (t : Tm n) (c0 c1 c2 c3 : Value) (w : World) (ht : TAt (Under w.heap.size) w n t c0 c1 c2 c3) :
    Calls Try.prog 22 #[.agg #[c0, c1, c2, c3]] w fun e w' => e = .returned (.tuple #[.int .i64 (hashAns n t), .int .i64 (codeAns n t)]) ∧ Below w.heap.size w w' := by
  obtain ⟨k0, k1, k2, k3, k4, k5, rfl, rfl, rfl, rfl⟩ := ht.shape
  have hmf : ∀ (fn : Fn) (first cap : Array Value) (w : World), (Instr.makeFunc fn first cap).run Try.prog w = .ok (.func fn first cap) w := fun _ _ _ _ => rfl
  obtain ⟨W0, hW0⟩ : ∃ W0, W0 = ((w.alloc (.cells #[.int .i64 k0, .int .i64 k1, .string k2, .slice k3 k4 k5] 26)).alloc (.cells #[.int .i64 0] 3)).alloc (.cells #[.int .i64 0] 3) := ⟨_, rfl⟩
  have hs0 : W0.heap.size = w.heap.size + 3 := by rw [hW0]; simp
  have hb0 : Below w.heap.size w W0 := by rw [hW0]; exact ((((Below.refl w.heap.size w).alloc (Nat.le_refl _) _).alloc (by simp) _).alloc (by simp; omega) _)
  have g0 : W0.heap[w.heap.size]? = some (.cells #[.int .i64 k0, .int .i64 k1, .string k2, .slice k3 k4 k5] 26 (0, 0)) := by
    rw [hW0, Below.heap_alloc _ _ _ (by simp; omega), Below.heap_alloc _ _ _ (by simp)]; exact heap_new w _
  have g2 : W0.heap[w.heap.size + 1]? = some (.cells #[.int .i64 0] 3 (0, 0)) := by
    rw [hW0, Below.heap_alloc _ _ _ (by simp)]
    have := heap_new (w.alloc (.cells #[.int .i64 k0, .int .i64 k1, .string k2, .slice k3 k4 k5] 26)) (.cells #[.int .i64 0] 3)
    simpa using this
  have g3 : W0.heap[w.heap.size + 2]? = some (.cells #[.int .i64 0] 3 (0, 0)) := by
    rw [hW0]
    have := heap_new ((w.alloc (.cells #[.int .i64 k0, .int .i64 k1, .string k2, .slice k3 k4 k5] 26)).alloc (.cells #[.int .i64 0] 3)) (.cells #[.int .i64 0] 3)
    simpa using this
  have hK : ∀ w', Below W0.heap.size W0 w' → w'.heap[w.heap.size]? = some (.cells #[.int .i64 k0, .int .i64 k1, .string k2, .slice k3 k4 k5] 26 (0, 0)) ∧
      w'.heap[w.heap.size + 1]? = some (.cells #[.int .i64 0] 3 (0, 0)) ∧ w'.heap[w.heap.size + 2]? = some (.cells #[.int .i64 0] 3 (0, 0)) ∧ Below w.heap.size w w' ∧ w.heap.size + 3 ≤ w'.heap.size := fun w' hb =>
    ⟨(hb.block _ (by omega)).trans g0, (hb.block _ (by omega)).trans g2, (hb.block _ (by omega)).trans g3, hb0.trans (hb.mono hb0.size), by have := hb.size; omega⟩
  have HK := hide hK
  have HT := hide ht
  have HW := hide hW0
  have hin := hide (inward_any n t _ _ _ _ W0 (ht.up hb0))
  clear ht hK hb0 g0 g2 g3
  go_enter_defers Try.func22, Try.ntmps22
  go_wp2_with fail
  rw [← unhide HW]
  clear hW0
  refine (unhide hin).mono ?_
  rintro e w3 ⟨hb3, hend⟩
  obtain ⟨q0, q2, q3, hbw, hsz⟩ := unhide HK w3 hb3
  rcases hend with ⟨hok, v, rfl, hv⟩ | ⟨hno, rfl⟩
  rotate_left
  · exact hash_door _ w3 (w.heap.size + 1) (w.heap.size + 2) _ _ _ _ (hashAns_no hno) (hashCode_no hno) rfl rfl q2 q3 (by omega) (by omega) (by omega) (by omega) (by omega) hbw
  · have HOK := hide (ok_val.2 hok)
    obtain ⟨p0, p1, p2, p3⟩ : w3.cell? ⟨w.heap.size, 0, none⟩ = some (.int .i64 k0) ∧ w3.cell? ⟨w.heap.size, 1, none⟩ = some (.int .i64 k1) ∧ w3.cell? ⟨w.heap.size, 2, none⟩ = some (.string k2) ∧ w3.cell? ⟨w.heap.size, 3, none⟩ = some (.slice k3 k4 k5) :=
      ⟨cell_of_heap q0 0, cell_of_heap q0 1, cell_of_heap q0 2, cell_of_heap q0 3⟩
    have HB3 := hide hb3
    have hs := hide (hs_any n t _ _ _ _ 5381 w3 ((unhide HT).up hbw) u32_begin)
    obtain ⟨u0, u1⟩ := hashT_u32 n t 5381 u32_begin
    obtain ⟨x, hx⟩ : ∃ x, x = hashT n t 5381 := ⟨_, rfl⟩
    rw [← hx] at hs u0 u1
    have HX := hide hx
    clear hok hv hb3 q0 q2 q3 hbw hsz hx
    go_wp2_with fail
    refine (unhide hs).mono ?_
    rintro e w4 ⟨rfl, hb4⟩
    have hB4 := (unhide HB3).trans (hb4.mono (unhide HB3).size)
    obtain ⟨q0, q2, q3, hbw, hsz⟩ := unhide HK w4 hB4
    have s0 : w4.cell? ⟨w.heap.size + 1, 0, none⟩ = some (.int .i64 0) := cell_of_heap q2 0
    have s1 : w4.cell? ⟨w.heap.size + 2, 0, none⟩ = some (.int .i64 0) := cell_of_heap q3 0
    have z0 := frozen_of_heap q2 0
    have z1 := frozen_of_heap q3 0
    have HB := hide hbw
    have HS := hide hsz
    clear hb4 hB4 q0 q2 q3 hbw hsz hs p0 p1 p2 p3
    go_wp2_with fail
    obtain ⟨w6, hw6⟩ : ∃ w6, w6 = (w4.setCell ⟨w.heap.size + 1, 0, none⟩ (.int .i64 x)).setCell ⟨w.heap.size + 2, 0, none⟩ (.int .i64 0) := ⟨_, rfl⟩
    have u0 : w6.cell? ⟨w.heap.size + 1, 0, none⟩ = some (.int .i64 x) := by
      rw [hw6]; exact (World.cell?_setCell_other _ _ _ _ (by simp)).trans (World.cell?_setCell_same _ _ _ s0)
    have u1 : w6.cell? ⟨w.heap.size + 2, 0, none⟩ = some (.int .i64 0) := by
      rw [hw6]; exact World.cell?_setCell_same _ _ _ ((World.cell?_setCell_other _ _ _ _ (by simp)).trans s1)
    have hB6 : Below w.heap.size w w6 := by
      rw [hw6]; exact ((unhide HB).setCell (p := ⟨w.heap.size + 1, 0, none⟩) (by show w.heap.size ≤ w.heap.size + 1; omega) _).setCell (p := ⟨w.heap.size + 2, 0, none⟩) (by show w.heap.size ≤ w.heap.size + 2; omega) _
    have hs6 : w.heap.size + 3 ≤ w6.heap.size := by rw [hw6]; simpa using unhide HS
    have e6 : (w4.setCell ⟨w.heap.size + 1, 0, none⟩ (.int .i64 x)).setCell ⟨w.heap.size + 1 + 1, 0, none⟩ (.int .i64 0) = w6 := hw6.symm
    rw [e6]
    have HB6 := hide hB6
    clear hw6 e6 s0 s1 z0 z1 hB6
    have ha : hashAns n t = x := by unfold hashAns; rw [if_pos (unhide HOK), ← unhide HX]
    have hb : codeAns n t = 0 := by unfold codeAns; rw [if_pos (unhide HOK)]
    have HA := hide ha
    have HC := hide hb
    clear ha hb
    refine leaves_cons (f := 42) (args := #[.pointer (some ⟨w.heap.size + 1, 0, none⟩), .pointer (some ⟨w.heap.size + 2, 0, none⟩)]) (by simp) (by simp [go_sem]) ?_
    refine (ths_idle _ _ _).mono ?_
    rintro e u' w7 ⟨rfl, rfl, hb7⟩
    have g1 := (World.cell?_of_block (hb7.block (w.heap.size + 1) (by omega))).trans u0
    have g2 := (World.cell?_of_block (hb7.block (w.heap.size + 2) (by omega))).trans u1
    have hB7 := hide ((unhide HB6).trans (hb7.mono (unhide HB6).size))
    clear hb7 u0 u1
    rw [unhide HA, unhide HC]
    simp [Leaves, settle, results, Try.results22, go_sem, g1, g2]
    exact unhide hB7


set_option maxHeartbeats 1000000 in
theorem sHash_any {n : Nat} (t : Tm n) (c0 c1 c2 c3 : Value) (w : World) (ht : TAt (Under w.heap.size) w n t c0 c1 c2 c3) :
    Calls Try.prog 21 #[.agg #[c0, c1, c2, c3]] w fun e w' => e = .returned (.tuple #[.int .i64 (hashAns n t), .int .i64 (codeAns n t)]) ∧ Below w.heap.size w w' := by
  obtain ⟨k0, k1, k2, k3, k4, k5, rfl, rfl, rfl, rfl⟩ := ht.shape
  have hbx := fun x : Obj => (Below.refl w.heap.size w).alloc (Nat.le_refl _) x
  have hc := hide (fun x => sOK_any t _ _ _ _ (w.alloc x) (ht.up (hbx x)))
  by_cases hf : okB n t = true
  · rw [hf] at hc
    go_enter Try.func21, Try.ntmps21
    go_wp2_with fail
    refine ((unhide hc) _).mono ?_
    rintro e w1 ⟨rfl, hb⟩
    have hblk := hb.block w.heap.size (by simp)
    rw [heap_new] at hblk
    have hcell := cell_of_heap hblk
    clear hblk
    have hb2 := (hbx _).trans (hb.mono (by simp))
    have hr := hide (ht_any n t _ _ _ _ 5381 w1 (ht.up hb2) u32_begin)
    have HF := hide hf
    clear hf
    go_wp2_with (go_at_call 41; refine (unhide hr).mono ?_; rintro e w' ⟨rfl, hb3⟩)
    go_ret2
    exact ⟨ret_int2 (by unfold hashAns; rw [if_pos (unhide HF)]) (by unfold codeAns; rw [if_pos (unhide HF)]), hb2.trans (hb3.mono hb2.size)⟩
  · have hf' : okB n t = false := by simpa using hf
    rw [hf'] at hc
    have HF := hide hf
    clear hf hf'
    go_enter Try.func21, Try.ntmps21
    go_wp2_with (go_at_call 11; refine ((unhide hc) _).mono ?_; rintro e w1 ⟨rfl, hb⟩)
    go_ret2
    exact ⟨ret_int2 (by unfold hashAns; rw [if_neg (unhide HF)]) (by unfold codeAns; rw [if_neg (unhide HF)]), (hbx _).trans (hb.mono (by simp))⟩

end Go.Proofs.Ytpfalmoblmoaiaa
