/- impl.TermPack: the closure that recovers the walk's fault; the function. -/
import Derived.Test.YtaggnncndbdmjaaPkv
import Derived.Test.YtaggnncndbdmjaaRcs
import Derived.Deep.RegionWith
namespace Go.Proofs.Ytaggnncndbdmjaa
open Go.RowKit Go.Deep

theorem slots12 (p0 p1 v0 v1 v2 v3 v4 v5 v6 : Value) : #[p0, p1] ++ ((((((((Array.replicate 10 undef).setIfInBounds 3 v3).setIfInBounds 4 v4).setIfInBounds 2 v2).setIfInBounds 5 v5).setIfInBounds 6 v6).setIfInBounds 0 v0).setIfInBounds 1 v1) = #[p0, p1, v0, v1, v2, v3, v4, v5, v6, undef, undef, undef] := by kernel_rfl

/-- A walk's fault. -/
def fltV (c : Int) : Value := .iface 40 (.agg #[.int .i64 c, .int .i64 0])

set_option maxRecDepth 40000 in
theorem faultIn_any (c : Int) (w : World) : Calls Try.prog 14 #[fltV c] w fun e w' => e = .returned (.tuple #[.agg #[.int .i64 c, .int .i64 0], .bool true]) ∧ Below w.heap.size w w' := by
  unfold fltV
  have hta := ta_fault (.agg #[.int .i64 c, .int .i64 0])
  have hbx := below_two w
  go_enter Try.func14, Try.ntmps14
  go_wp2_with fail
  exact bodyPost_ret (v := .tuple #[.agg #[.int .i64 c, .int .i64 0], .bool true]) (by simp [results, Try.results14, go_sem]) rfl ⟨rfl, hbx _ _⟩

set_option maxRecDepth 40000 in
set_option maxHeartbeats 1000000 in
theorem tpk_panicking (c : Int) (b0 b1 : Nat) (x0 x1 : Value) (older : List PanicEntry) (w : World) (h0 : w.heap[b0]? = some (.cells #[x0] 9 (0, 0))) (h1 : w.heap[b1]? = some (.cells #[x1] 3 (0, 0))) (hne : b0 ≠ b1)
    (hl0 : b0 < w.heap.size) (hl1 : b1 < w.heap.size) :
    CallsD Try.prog 13 #[.pointer (some ⟨b0, 0, none⟩), .pointer (some ⟨b1, 0, none⟩)] (.panicking ({ v := fltV c, recovered := false } :: older)) w fun e u' w' =>
      e = .returned (.tuple #[]) ∧ u' = .panicking ({ v := fltV c, recovered := true } :: older) ∧ w'.cell? ⟨b0, 0, none⟩ = some (.string ⟨#[]⟩) ∧ w'.cell? ⟨b1, 0, none⟩ = some (.int .i64 c) ∧ ∀ B, B ≤ b0 → B ≤ b1 → Below B w w' := by
  refine callsD_of_wpS Try.func13 rfl fun c₀ cs hu => ?_
  apply wpS_seq
  apply wpS_region
  simp [wpOpsS, go_sem, recoverD, hu, Try.ntmps13, Exit.thenS]
  refine (faultIn_any c _).mono ?_
  rintro e w1 ⟨rfl, hb1⟩
  simp [go_sem, Oper.upon, Result.andThen]
  have hw0 : (w1.alloc (.cells #[.int .i64 c, .int .i64 0] 40)).heap[b0]? = some (.cells #[x0] 9 (0, 0)) := ((Below.heap_alloc _ _ _ (Nat.lt_of_lt_of_le hl0 hb1.size)).trans (hb1.block _ hl0)).trans h0
  have hw1 : (w1.alloc (.cells #[.int .i64 c, .int .i64 0] 40)).heap[b1]? = some (.cells #[x1] 3 (0, 0)) := ((Below.heap_alloc _ _ _ (Nat.lt_of_lt_of_le hl1 hb1.size)).trans (hb1.block _ hl1)).trans h1
  have hw2 := heap_new w1 (.cells #[.int .i64 c, .int .i64 0] 40)
  have hbw : Below w.heap.size w (w1.alloc (.cells #[.int .i64 c, .int .i64 0] 40)) := hb1.alloc hb1.size _
  have hn0 : b0 ≠ w1.heap.size := by have := hb1.size; omega
  have hn1 : b1 ≠ w1.heap.size := by have := hb1.size; omega
  have hd0 : (w1.alloc (.cells #[.int .i64 c, .int .i64 0] 40)).heap.size > b0 := by simp; have := hb1.size; omega
  generalize w1.alloc (.cells #[.int .i64 c, .int .i64 0] 40) = W at hw0 hw1 hw2 hbw hd0 ⊢
  have c0 : W.cell? ⟨b0, 0, none⟩ = some x0 := cell_of_heap hw0 0
  have c1 : W.cell? ⟨b1, 0, none⟩ = some x1 := cell_of_heap hw1 0
  have c2 : W.cell? ⟨w1.heap.size, 0, none⟩ = some (.int .i64 c) := cell_of_heap hw2 0
  have z0 := frozen_of_heap hw0 0
  have z1 := frozen_of_heap hw1 0
  have R0 : Row b0 9 1 W := ⟨_, hw0, rfl⟩
  have R1 : Row b1 3 1 W := ⟨_, hw1, rfl⟩
  have HR := hide (And.intro R0 R1)
  clear hw0 hw1 hw2 R0 R1
  refine wpS_of_wp ?_
  rw [slots12]
  have hne' := hne.symm
  have hn0' := hn0.symm
  have hn1' := hn1.symm
  go_wp2_with fail
  go_region
  go_wp2_with fail
  obtain ⟨R0, R1⟩ := unhide HR
  have R1' : Row b1 3 1 (W.setCell ⟨b0, 0, none⟩ (.string ⟨#[]⟩)) := R1.keep (Below.heap_setCell _ _ _ _ hne')
  have q0 : ((W.setCell ⟨b0, 0, none⟩ (.string ⟨#[]⟩)).setCell ⟨b1, 0, none⟩ (.int .i64 c)).cell? ⟨b0, 0, none⟩ = some (.string ⟨#[]⟩) := (World.cell?_of_block (Below.heap_setCell _ _ _ _ hne)).trans (R0.set_get (by omega) _)
  have q1 := R1'.set_get (o := 0) (by omega) (.int .i64 c)
  have hB : ∀ B, B ≤ b0 → B ≤ b1 → Below B w ((W.setCell ⟨b0, 0, none⟩ (.string ⟨#[]⟩)).setCell ⟨b1, 0, none⟩ (.int .i64 c)).drew := fun B k0 k1 =>
    (((hbw.mono (by omega)).setCell (p := ⟨b0, 0, none⟩) k0 _).setCell (p := ⟨b1, 0, none⟩) k1 _).drew
  clear c0 c1 c2 z0 z1
  simp [bodyPostS, results, Try.results13, q0, q1]
  exact hB

set_option maxRecDepth 40000 in
set_option maxHeartbeats 1000000 in
theorem tpk_idle (b0 b1 : Nat) (w : World) :
    CallsD Try.prog 13 #[.pointer (some ⟨b0, 0, none⟩), .pointer (some ⟨b1, 0, none⟩)] .returning w fun e u' w' => e = .returned (.tuple #[]) ∧ u' = .returning ∧ Below w.heap.size w w' := by
  refine callsD_of_wpS Try.func13 rfl fun c₀ cs hu => ?_
  apply wpS_seq
  apply wpS_region
  simp [wpOpsS, go_sem, recoverD, hu, Try.ntmps13, Exit.thenS]
  refine (faultIn_nil _).mono ?_
  rintro e w1 ⟨rfl, hb1⟩
  simp [go_sem, Oper.upon, Result.andThen]
  have hbw : Below w.heap.size w (w1.alloc (.cells #[.int .i64 0, .int .i64 0] 40)) := hb1.alloc hb1.size _
  generalize w1.alloc (.cells #[.int .i64 0, .int .i64 0] 40) = W at hbw ⊢
  refine wpS_of_wp ?_
  rw [slots12]
  go_wp2_with fail
  have hu' := hide hbw
  clear hb1 hbw
  cases c₀
  simp_all [bodyPostS, results, Try.results13]
  exact unhide hu'

set_option maxRecDepth 40000 in
/-- Behind the walk's fault: nothing, and its code. -/
theorem pack_door {w : World} (c : Int) (tm : Array Value) (w3 : World) (b0 b1 : Nat) (x0 x1 : Value) (A : ByteArray) (C : Int) (hA : A = ⟨#[]⟩) (hC : C = c) (h4 : tm.getD 2 undef = .pointer (some ⟨b0, 0, none⟩)) (h5 : tm.getD 3 undef = .pointer (some ⟨b1, 0, none⟩))
    (k1 : w3.heap[b0]? = some (.cells #[x0] 9 (0, 0))) (k2 : w3.heap[b1]? = some (.cells #[x1] 3 (0, 0))) (hne : b0 ≠ b1) (hl0 : b0 < w3.heap.size) (hl1 : b1 < w3.heap.size) (hb0 : w.heap.size ≤ b0) (hb1 : w.heap.size ≤ b1) (hbw : Below w.heap.size w w3) :
    bodyPostD Try.prog Try.f7 (fun e w' => e = .returned (.tuple #[.string A, .int .i64 C]) ∧ Below w.heap.size w w') (Exit.panic [{ v := fltV c, recovered := false }])
      { tmps := tm, defers := [{ target := Target.fn (Fn.func 13) #[.pointer (some ⟨b0, 0, none⟩), .pointer (some ⟨b1, 0, none⟩)], args := #[] }] } w3 := by
  subst hA hC
  refine leaves_cons (f := 13) (args := #[.pointer (some ⟨b0, 0, none⟩), .pointer (some ⟨b1, 0, none⟩)]) (by simp) (by simp [go_sem]) ?_
  refine (tpk_panicking _ b0 b1 x0 x1 [] w3 k1 k2 hne hl0 hl1).mono ?_
  rintro e u' w4 ⟨rfl, rfl, g1, g2, hb4⟩
  have hB := hide (hbw.trans (hb4 w.heap.size hb0 hb1))
  clear hb4 hbw k1 k2
  have h4' : tm[2]?.getD undef = .pointer (some ⟨b0, 0, none⟩) := by simpa using h4
  have h5' : tm[3]?.getD undef = .pointer (some ⟨b1, 0, none⟩) := by simpa using h5
  simp [Leaves, settle, results, Try.results7, go_sem, h4', h5', g1, g2]
  exact unhide hB

end Go.Proofs.Ytaggnncndbdmjaa
