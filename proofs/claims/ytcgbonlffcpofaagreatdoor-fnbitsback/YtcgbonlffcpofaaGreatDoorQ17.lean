/- What the way inward needs; faultIn. -/
import Derived.Test.YtcgbonlffcpofaaGreatDoorVal2
import Derived.Defers
import Derived.Recover
namespace Go.Proofs.YtcgbonlffcpofaaGreatDoor
open Go.RowKit

theorem Ctr.new (w : World) : Ctr w.heap.size 0 (w.alloc (.cells #[.int .i64 0] 99)) := heap_new _ _

theorem TAt.inp {w w2 : World} {g : Nat} (hb : Below w.heap.size w w2) (hg : w.heap.size ≤ g) {n : Nat} {t : Tm n} {a b c d : Value} (h : TAt (Under w.heap.size) w n t a b c d) : TAt (Inp w2 g) w2 n t a b c d :=
  (h.keep fun b hs => hb.block b hs).mono fun _ hs => ⟨Nat.lt_of_lt_of_le hs hb.size, by have : _ < w.heap.size := hs; omega⟩

/-- What faultIn makes of nothing, and of the walk's own fault. -/
theorem faultIn_nil (w : World) : Calls Tryz.prog 67 #[.nilIface] w fun e w' => e = .returned (.tuple #[.agg #[.int .i64 0, .int .i64 0], .bool false]) ∧ Below w.heap.size w w' := by
  have hbx := fun x : Obj => (Below.refl w.heap.size w).alloc (Nat.le_refl _) x
  go_enter Tryz.func67, Tryz.ntmps67
  go_wp2_with fail
  exact bodyPost_ret (v := .tuple #[.agg #[.int .i64 0, .int .i64 0], .bool false]) (by simp [results, Tryz.results67, go_sem]) rfl ⟨rfl, hbx _⟩

theorem ta_fault (x : Value) (w : World) : (Instr.typeAssert (.iface 93 x) 20 93 true).run Tryz.prog w = .ok (.tuple #[x, .bool true]) w := by kernel_rfl

set_option maxRecDepth 40000 in
theorem faultIn_fault (w : World) : Calls Tryz.prog 67 #[faultV] w fun e w' => e = .returned (.tuple #[.agg #[.int .i64 1, .int .i64 0], .bool true]) ∧ Below w.heap.size w w' := by
  unfold faultV
  have hta := ta_fault (.agg #[.int .i64 1, .int .i64 0])
  have hbx := below_two w
  go_enter Tryz.func67, Tryz.ntmps67
  go_wp2_with fail
  exact bodyPost_ret (v := .tuple #[.agg #[.int .i64 1, .int .i64 0], .bool true]) (by simp [results, Tryz.results67, go_sem]) rfl ⟨rfl, hbx _ _⟩

end Go.Proofs.YtcgbonlffcpofaaGreatDoor
/- What the closures that recover share. -/
namespace Go.Proofs.YtcgbonlffcpofaaGreatDoor
open Go.RowKit

theorem ok_val {n : Nat} {t : Tm n} : okB n t = true ↔ valOK n t 0 1 := by
  unfold okB fitsB valOK
  simp only [Bool.and_eq_true, decide_eq_true_eq]
  constructor
  · rintro ⟨⟨h1, h2⟩, h3⟩; exact ⟨h3, by omega, by omega⟩
  · rintro ⟨h3, h1, h2⟩; exact ⟨⟨by omega, by omega⟩, h3⟩

theorem below_three (w : World) (x y z : Obj) : Below w.heap.size w (((w.alloc x).alloc y).alloc z) := (below_two w x y).alloc (by simp; omega) _

theorem four_1 (w : World) (x y z g : Obj) : ((((w.alloc x).alloc y).alloc z).alloc g).heap[w.heap.size + 1]? = some y := by
  rw [Below.heap_alloc _ _ _ (by simp), Below.heap_alloc _ _ _ (by simp)]
  have := heap_new (w.alloc x) y
  rwa [World.size_alloc] at this
theorem four_2 (w : World) (x y z g : Obj) : ((((w.alloc x).alloc y).alloc z).alloc g).heap[w.heap.size + 1 + 1]? = some z := by
  rw [Below.heap_alloc _ _ _ (by simp)]
  have := heap_new ((w.alloc x).alloc y) z
  rwa [World.size_alloc, World.size_alloc] at this

end Go.Proofs.YtcgbonlffcpofaaGreatDoor
/- impl's closures that recover the walk's fault: TermSize's. -/
namespace Go.Proofs.YtcgbonlffcpofaaGreatDoor
open Go.RowKit

set_option maxRecDepth 40000 in
set_option maxHeartbeats 1000000 in
theorem tsz_panicking (b0 b1 : Nat) (x0 x1 : Value) (older : List PanicEntry) (w : World) (h0 : w.heap[b0]? = some (.cells #[x0] 3 (0, 0))) (h1 : w.heap[b1]? = some (.cells #[x1] 3 (0, 0))) (hne : b0 ≠ b1)
    (hl0 : b0 < w.heap.size) (hl1 : b1 < w.heap.size) :
    CallsD Tryz.prog 66 #[.pointer (some ⟨b0, 0, none⟩), .pointer (some ⟨b1, 0, none⟩)] (.panicking ({ v := faultV, recovered := false } :: older)) w fun e u' w' =>
      e = .returned (.tuple #[]) ∧ u' = .panicking ({ v := faultV, recovered := true } :: older) ∧ w'.cell? ⟨b0, 0, none⟩ = some (.int .i64 0) ∧ w'.cell? ⟨b1, 0, none⟩ = some (.int .i64 1) ∧ ∀ B, B ≤ b0 → B ≤ b1 → Below B w w' := by
  refine callsD_of_wpS Tryz.func66 rfl fun c₀ cs hu => ?_
  apply wpS_seq
  apply wpS_region
  simp [wpOpsS, go_sem, recoverD, hu, Tryz.ntmps66, Exit.thenS]
  refine (faultIn_fault _).mono ?_
  rintro e w1 ⟨rfl, hb1⟩
  simp [go_sem, Oper.upon, Result.andThen]
  have hw0 : (w1.alloc (.cells #[.int .i64 1, .int .i64 0] 93)).heap[b0]? = some (.cells #[x0] 3 (0, 0)) := ((Below.heap_alloc _ _ _ (Nat.lt_of_lt_of_le hl0 hb1.size)).trans (hb1.block _ hl0)).trans h0
  have hw1 : (w1.alloc (.cells #[.int .i64 1, .int .i64 0] 93)).heap[b1]? = some (.cells #[x1] 3 (0, 0)) := ((Below.heap_alloc _ _ _ (Nat.lt_of_lt_of_le hl1 hb1.size)).trans (hb1.block _ hl1)).trans h1
  have hw2 := heap_new w1 (.cells #[.int .i64 1, .int .i64 0] 93)
  have hbw : Below w.heap.size w (w1.alloc (.cells #[.int .i64 1, .int .i64 0] 93)) := hb1.alloc hb1.size _
  have hn0 : b0 ≠ w1.heap.size := by have := hb1.size; omega
  have hn1 : b1 ≠ w1.heap.size := by have := hb1.size; omega
  have hd0 : (w1.alloc (.cells #[.int .i64 1, .int .i64 0] 93)).heap.size > b0 := by simp; have := hb1.size; omega
  generalize w1.alloc (.cells #[.int .i64 1, .int .i64 0] 93) = W at hw0 hw1 hw2 hbw hd0 ⊢
  have c0 : W.cell? ⟨b0, 0, none⟩ = some x0 := cell_of_heap hw0 0
  have c1 : W.cell? ⟨b1, 0, none⟩ = some x1 := cell_of_heap hw1 0
  have c2 : W.cell? ⟨w1.heap.size, 0, none⟩ = some (.int .i64 1) := cell_of_heap hw2 0
  have z0 := frozen_of_heap hw0 0
  have z1 := frozen_of_heap hw1 0
  have R0 : Row b0 3 1 W := ⟨_, hw0, rfl⟩
  have R1 : Row b1 3 1 W := ⟨_, hw1, rfl⟩
  have HR := hide (And.intro R0 R1)
  clear hw0 hw1 hw2 R0 R1
  refine wpS_of_wp ?_
  change Code.wp _ _ _ { tmps := #[.pointer (some ⟨b0, 0, none⟩), .pointer (some ⟨b1, 0, none⟩), .pointer (some ⟨w1.heap.size, 0, none⟩), .bool true, .tuple #[.agg #[.int .i64 1, .int .i64 0], .bool true], faultV, .tuple #[.agg #[.int .i64 1, .int .i64 0], .bool true], .agg #[.int .i64 1, .int .i64 0], .bool true, undef, undef, undef], defers := [] } _
  have hne' := hne.symm
  have hn0' := hn0.symm
  have hn1' := hn1.symm
  go_wp2_with fail
  go_region
  go_wp2_with fail
  obtain ⟨R0, R1⟩ := unhide HR
  have R1' : Row b1 3 1 (W.setCell ⟨b0, 0, none⟩ (.int .i64 0)) := R1.keep (Below.heap_setCell _ _ _ _ hne')
  have q0 : ((W.setCell ⟨b0, 0, none⟩ (.int .i64 0)).setCell ⟨b1, 0, none⟩ (.int .i64 1)).cell? ⟨b0, 0, none⟩ = some (.int .i64 0) := (World.cell?_of_block (Below.heap_setCell _ _ _ _ hne)).trans (R0.set_get (by omega) _)
  have q1 := R1'.set_get (o := 0) (by omega) (.int .i64 1)
  have hB : ∀ B, B ≤ b0 → B ≤ b1 → Below B w ((W.setCell ⟨b0, 0, none⟩ (.int .i64 0)).setCell ⟨b1, 0, none⟩ (.int .i64 1)).drew := fun B k0 k1 =>
    (((hbw.mono (by omega)).setCell (p := ⟨b0, 0, none⟩) k0 _).setCell (p := ⟨b1, 0, none⟩) k1 _).drew
  clear c0 c1 c2 z0 z1
  simp [bodyPostS, results, Tryz.results66, q0, q1]
  exact hB

set_option maxRecDepth 40000 in
set_option maxHeartbeats 1000000 in
theorem tsz_idle (b0 b1 : Nat) (w : World) :
    CallsD Tryz.prog 66 #[.pointer (some ⟨b0, 0, none⟩), .pointer (some ⟨b1, 0, none⟩)] .returning w fun e u' w' => e = .returned (.tuple #[]) ∧ u' = .returning ∧ Below w.heap.size w w' := by
  refine callsD_of_wpS Tryz.func66 rfl fun c₀ cs hu => ?_
  apply wpS_seq
  apply wpS_region
  simp [wpOpsS, go_sem, recoverD, hu, Tryz.ntmps66, Exit.thenS]
  refine (faultIn_nil _).mono ?_
  rintro e w1 ⟨rfl, hb1⟩
  simp [go_sem, Oper.upon, Result.andThen]
  have hbw : Below w.heap.size w (w1.alloc (.cells #[.int .i64 0, .int .i64 0] 93)) := hb1.alloc hb1.size _
  generalize w1.alloc (.cells #[.int .i64 0, .int .i64 0] 93) = W at hbw ⊢
  refine wpS_of_wp ?_
  change Code.wp _ _ _ { tmps := #[.pointer (some ⟨b0, 0, none⟩), .pointer (some ⟨b1, 0, none⟩), .pointer (some ⟨w1.heap.size, 0, none⟩), .bool false, .tuple #[.agg #[.int .i64 0, .int .i64 0], .bool false], .nilIface, .tuple #[.agg #[.int .i64 0, .int .i64 0], .bool false], .agg #[.int .i64 0, .int .i64 0], .bool false, undef, undef, undef], defers := [] } _
  go_wp2_with fail
  have hu' := hide hbw
  clear hb1 hbw
  cases c₀
  simp_all [bodyPostS, results, Tryz.results66]
  exact unhide hu'

set_option maxRecDepth 40000 in
set_option maxHeartbeats 2000000 in
theorem iSize_any {n : Nat} (t : Tm n) (c0 c1 c2 c3 : Value) (w : World) (ht : TAt (Under w.heap.size) w n t c0 c1 c2 c3) :
    Calls Tryz.prog 49 #[.agg #[c0, c1, c2, c3]] w fun e w' => e = .returned (.tuple #[.int .i64 (sizeAns n t), .int .i64 (codeAns n t)]) ∧ Below w.heap.size w w' := by
  have hc0 := (fun (x y z : Obj) => let w1 := ((w.alloc x).alloc y).alloc z; let w2 := w1.alloc (.cells #[.int .i64 0] 99);
    val_any n t c0 c1 c2 c3 w1.heap.size 0 1 w2 (Ctr.new w1) (ht.inp ((below_three w x y z).alloc (by simp; omega) _) (by simp [w1]; omega)) (by omega) (by omega) (by omega))
  have hsz : ∀ x y z : Obj, (((w.alloc x).alloc y).alloc z).heap.size = w.heap.size + 1 + 1 + 1 := fun x y z => by simp
  simp only [hsz] at hc0
  have hc := hide hc0
  clear hc0
  obtain ⟨_, _, _, _, _, _, rfl, rfl, rfl, rfl⟩ := ht.shape
  have hmf : ∀ (fn : Fn) (first cap : Array Value) (w : World), (Instr.makeFunc fn first cap).run Tryz.prog w = .ok (.func fn first cap) w := fun _ _ _ _ => rfl
  go_enter_defers Tryz.func49, Tryz.ntmps49
  go_wp2_with fail
  refine ((unhide hc) _ _ _).mono ?_
  rintro e w3 ⟨hb3, hend⟩
  have hlen : w.heap.size + 1 + 1 + 1 + 1 ≤ w3.heap.size := by have := hb3.size; simpa using this
  have k1 : w3.heap[w.heap.size + 1]? = some (.cells #[.int .i64 0] 3 (0, 0)) := (hb3.block _ (by simp) (by omega)).trans (four_1 _ _ _ _ _)
  have k2 : w3.heap[w.heap.size + 1 + 1]? = some (.cells #[.int .i64 0] 3 (0, 0)) := (hb3.block _ (by simp) (by omega)).trans (four_2 _ _ _ _ _)
  have hbw : Below w.heap.size w w3 := ((below_three w _ _ _).alloc (by simp; omega) _).trans (hb3.toBelow (by omega) (by simp; omega))
  have R1 : Row (w.heap.size + 1) 3 1 w3 := ⟨_, k1, rfl⟩
  have R2 : Row (w.heap.size + 1 + 1) 3 1 w3 := ⟨_, k2, rfl⟩
  rcases hend with ⟨hok, v, rfl, hv, hct⟩ | ⟨hno, rfl⟩
  · have HOK := hide (ok_val.2 hok)
    have c1 : w3.cell? ⟨w.heap.size + 1, 0, none⟩ = some (.int .i64 0) := cell_of_heap k1 0
    have c2 : w3.cell? ⟨w.heap.size + 1 + 1, 0, none⟩ = some (.int .i64 0) := cell_of_heap k2 0
    have c3 := hct.cell
    have z1 := frozen_of_heap k1 0
    have z2 := frozen_of_heap k2 0
    rw [Nat.zero_add] at c3
    have HR := hide (And.intro R1 R2)
    have HB := hide hb3
    clear hok hv hct k1 k2 R1 R2 hb3
    go_wp2_with fail
    obtain ⟨R1, R2⟩ := unhide HR
    have ha : sizeAns n t = (siz n t : Int) := by unfold sizeAns; rw [if_pos (unhide HOK)]
    have hb : codeAns n t = 0 := by unfold codeAns; rw [if_pos (unhide HOK)]
    have R1' := R1.set 0 (.int .i64 (siz n t))
    have R2' : Row (w.heap.size + 1 + 1) 3 1 (w3.setCell ⟨w.heap.size + 1, 0, none⟩ (.int .i64 (siz n t))) := R2.keep (Below.heap_setCell _ _ _ _ (by simp))
    have q1 := (World.cell?_of_block (Below.heap_setCell (w3.setCell ⟨w.heap.size + 1, 0, none⟩ (.int .i64 (siz n t))) ⟨w.heap.size + 1 + 1, 0, none⟩ (.int .i64 0) (w.heap.size + 1) (by simp))).trans (R1.set_get (o := 0) (by omega) (.int .i64 (siz n t)))
    have q2 := R2'.set_get (o := 0) (by omega) (.int .i64 0)
    have hB : Below w.heap.size w ((w3.setCell ⟨w.heap.size + 1, 0, none⟩ (.int .i64 (siz n t))).setCell ⟨w.heap.size + 1 + 1, 0, none⟩ (.int .i64 0)) := (hbw.setCell (p := ⟨w.heap.size + 1, 0, none⟩) (by simp) _).setCell (p := ⟨w.heap.size + 1 + 1, 0, none⟩) (by simp; omega) _
    refine leaves_cons (f := 66) (args := #[.pointer (some ⟨w.heap.size + 1, 0, none⟩), .pointer (some ⟨w.heap.size + 1 + 1, 0, none⟩)]) (by simp) (by simp [go_sem]) ?_
    refine (tsz_idle _ _ _).mono ?_
    rintro e u' w4 ⟨rfl, rfl, hb4⟩
    have g1 := (World.cell?_of_block (hb4.block (w.heap.size + 1) (by simp; omega))).trans q1
    have g2 := (World.cell?_of_block (hb4.block (w.heap.size + 1 + 1) (by simp; omega))).trans q2
    have hB4 := hide (hB.trans (hb4.mono hB.size))
    rw [ha, hb]
    clear hb4 q1 q2 hB c1 c2 c3
    simp [Leaves, settle, results, Tryz.results49, go_sem, g1, g2]
    exact unhide hB4
  · have HNO := hide (fun h : okB n t = true => hno (ok_val.1 h))
    have HB := hide hb3
    clear hno hb3
    unfold faultE
    go_wp2_with fail
    have hf : okB n t = false := by simpa using unhide HNO
    have ha : sizeAns n t = 0 := by unfold sizeAns; rw [hf]; simp
    have hb : codeAns n t = 1 := by unfold codeAns; rw [hf]; simp
    refine leaves_cons (f := 66) (args := #[.pointer (some ⟨w.heap.size + 1, 0, none⟩), .pointer (some ⟨w.heap.size + 1 + 1, 0, none⟩)]) (by simp) (by simp [go_sem]) ?_
    refine (tsz_panicking _ _ _ _ [] _ k1 k2 (by simp) (by omega) (by omega)).mono ?_
    rintro e u' w4 ⟨rfl, rfl, g1, g2, hb4⟩
    have hB4 := hide (hbw.trans (hb4 w.heap.size (by omega) (by omega)))
    rw [ha, hb]
    clear hb4
    simp [Leaves, settle, results, Tryz.results49, go_sem, g1, g2]
    exact unhide hB4

end Go.Proofs.YtcgbonlffcpofaaGreatDoor
/- impl.TermOK. -/
namespace Go.Proofs.YtcgbonlffcpofaaGreatDoor
open Go.RowKit

set_option maxRecDepth 20000 in
set_option maxHeartbeats 1000000 in
theorem iOK_any {n : Nat} (t : Tm n) (c0 c1 c2 c3 : Value) (w : World) (ht : TAt (Under w.heap.size) w n t c0 c1 c2 c3) :
    Calls Tryz.prog 32 #[.agg #[c0, c1, c2, c3]] w fun e w' => e = .returned (.bool (okB n t)) ∧ Below w.heap.size w w' := by
  obtain ⟨k0, k1, k2, k3, k4, k5, rfl, rfl, rfl, rfl⟩ := ht.shape
  have hbx := fun x : Obj => (Below.refl w.heap.size w).alloc (Nat.le_refl _) x
  have hc := hide (fun x => iSize_any t _ _ _ _ (w.alloc x) (ht.up (hbx x)))
  by_cases hf : okB n t = true
  · have hb : codeAns n t = 0 := by unfold codeAns; rw [if_pos hf]
    rw [hb] at hc
    go_enter Tryz.func32, Tryz.ntmps32
    go_wp2_with fail
    refine ((unhide hc) _).mono ?_
    rintro e w1 ⟨rfl, hb1⟩
    have HF := hide hf
    clear hf
    go_wp2_with fail
    go_ret
    exact ⟨ret_bool (by rw [unhide HF]), (hbx _).trans (hb1.mono (by simp))⟩
  · have hf' : okB n t = false := by simpa using hf
    have hb : codeAns n t = 1 := by unfold codeAns; rw [hf']; simp
    rw [hb] at hc
    go_enter Tryz.func32, Tryz.ntmps32
    go_wp2_with fail
    refine ((unhide hc) _).mono ?_
    rintro e w1 ⟨rfl, hb1⟩
    have HF := hide hf'
    clear hf hf'
    go_wp2_with fail
    go_ret
    exact ⟨ret_bool (by rw [unhide HF]), (hbx _).trans (hb1.mono (by simp))⟩

end Go.Proofs.YtcgbonlffcpofaaGreatDoor
