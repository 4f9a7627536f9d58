/- impl.Signal: the closure that recovers, and what hands the work on. -/
import Derived.Test.YtffgdchemjmbmaaGreatQ8
import Derived.Test.YtffgdchemjmbmaaGreatQ7
import Derived.Test.YtffgdchemjmbmaaGreatQ6
import Derived.Test.YtffgdchemjmbmaaGreatQ1
namespace Go.Proofs.YtffgdchemjmbmaaGreat
open Go.RowKit Go.Deep

def effZ : Array Value := #[.int .i64 0, .int .i64 0, .int .i64 0, .string ⟨#[]⟩, .slice none 0 0]

theorem slots14 (p0 p1 v0 v1 v3 v4 v5 v6 v7 : Value) : #[p0, p1] ++ ((((((((Array.replicate 12 undef).setIfInBounds 4 v4).setIfInBounds 5 v5).setIfInBounds 3 v3).setIfInBounds 6 v6).setIfInBounds 7 v7).setIfInBounds 0 v0).setIfInBounds 1 v1) = #[p0, p1, v0, v1, undef, v3, v4, v5, v6, v7, undef, undef, undef, undef] := by kernel_rfl

def effR (V : World) (b0 b1 : Nat) (c : Int) : World := ((((((V.setCell ⟨b0, 0, none⟩ (.int .i64 0)).setCell ⟨b0, 1, none⟩ (.int .i64 0)).setCell ⟨b0, 2, none⟩ (.int .i64 0)).setCell ⟨b0, 3, none⟩ (.string ⟨#[]⟩)).setCell ⟨b0, 4, none⟩ (.slice none 0 0)).setCell ⟨b1, 0, none⟩ (.int .i64 c)).drew

theorem eff_reset {V : World} {b0 b1 : Nat} {x1 : Value} (c : Int) (g0 : V.heap[b0]? = some (.cells effZ 41 (0, 0))) (g1 : V.heap[b1]? = some (.cells #[x1] 3 (0, 0))) (hne : b0 ≠ b1) :
    (effR V b0 b1 c).heap[b0]? = some (.cells effZ 41 (0, 0)) ∧ (effR V b0 b1 c).heap[b1]? = some (.cells #[.int .i64 c] 3 (0, 0)) ∧ ∀ B, B ≤ b0 → B ≤ b1 → Below B V (effR V b0 b1 c) := by
  unfold effZ at g0
  have e9 := hne.symm
  have h0 := Row.setHeap (Row.setHeap (Row.setHeap (Row.setHeap (Row.setHeap g0 0 (.int .i64 0)) 1 (.int .i64 0)) 2 (.int .i64 0)) 3 (.string ⟨#[]⟩)) 4 (.slice none 0 0)
  obtain ⟨_, _, r1, r2, _⟩ := setL_facts (N := 5) (e := 41) [.int .i64 0, .int .i64 0, .int .i64 0, .string ⟨#[]⟩, .slice none 0 0] (w := V) (B := b0) (o := 0) ⟨_, g0, rfl⟩ (by simp)
  obtain ⟨V5, hV5⟩ : ∃ V5, V5 = ((((V.setCell ⟨b0, 0, none⟩ (.int .i64 0)).setCell ⟨b0, 1, none⟩ (.int .i64 0)).setCell ⟨b0, 2, none⟩ (.int .i64 0)).setCell ⟨b0, 3, none⟩ (.string ⟨#[]⟩)).setCell ⟨b0, 4, none⟩ (.slice none 0 0) := ⟨_, rfl⟩
  have hU : effR V b0 b1 c = (V5.setCell ⟨b1, 0, none⟩ (.int .i64 c)).drew := by unfold effR; rw [← hV5]
  rw [← hV5] at h0
  simp only [setL, Nat.zero_add] at r1 r2
  rw [← hV5] at r1 r2
  have h1 := (r2 b1 e9).trans g1
  rw [hU]
  refine ⟨?_, ?_, fun B k0 k1 => ((r1.mono k0).setCell (p := ⟨b1, 0, none⟩) k1 _).drew⟩
  · exact (Below.heap_setCell V5 ⟨b1, 0, none⟩ (.int .i64 c) b0 hne).trans h0
  · exact Row.setHeap h1 0 (.int .i64 c)

set_option maxRecDepth 40000 in
set_option maxHeartbeats 1000000 in
theorem sgk_panicking (c : Int) (b0 b1 : Nat) (x1 : Value) (older : List PanicEntry) (w : World) (h0 : w.heap[b0]? = some (.cells effZ 41 (0, 0))) (h1 : w.heap[b1]? = some (.cells #[x1] 3 (0, 0))) (hne : b0 ≠ b1) :
    CallsD Tryz.prog 28 #[.pointer (some ⟨b0, 0, none⟩), .pointer (some ⟨b1, 0, none⟩)] (.panicking ({ v := fltV c, recovered := false } :: older)) w fun e u' w' =>
      e = .returned (.tuple #[]) ∧ u' = .panicking ({ v := fltV c, recovered := true } :: older) ∧ w'.heap[b0]? = some (.cells effZ 41 (0, 0)) ∧ w'.heap[b1]? = some (.cells #[.int .i64 c] 3 (0, 0)) ∧ ∀ B, B ≤ b0 → B ≤ b1 → Below B w w' := by
  have hl0 : b0 < w.heap.size := (Array.getElem?_eq_some_iff.1 h0).1
  have hl1 : b1 < w.heap.size := (Array.getElem?_eq_some_iff.1 h1).1
  refine callsD_of_wpS Tryz.func28 rfl fun c₀ cs hu => ?_
  apply wpS_seq
  apply wpS_region
  simp [wpOpsS, go_sem, recoverD, hu, Tryz.ntmps28, Exit.thenS]
  refine (faultIn_any c _).mono ?_
  rintro e w1 ⟨rfl, hb1⟩
  simp [go_sem, Oper.upon, Result.andThen]
  rw [slots14]
  have hb2 : Below w.heap.size w (w1.alloc (.cells #[.int .i64 c, .int .i64 0] 55)) := hb1.alloc hb1.size _
  have hw2 := heap_new w1 (.cells #[.int .i64 c, .int .i64 0] 55)
  have hs2 : (w1.alloc (.cells #[.int .i64 c, .int .i64 0] 55)).heap.size = w1.heap.size + 1 := by simp
  have hs1 := hb1.size
  obtain ⟨W, hW⟩ : ∃ W, W = w1.alloc (.cells #[.int .i64 c, .int .i64 0] 55) := ⟨_, rfl⟩
  rw [← hW] at hb2 hw2 hs2 ⊢
  clear hW hb1
  obtain ⟨V, hV⟩ : ∃ V, V = W.alloc (.cells effZ 41) := ⟨_, rfl⟩
  have hbV : Below W.heap.size W V := by rw [hV]; exact (Below.refl _ _).alloc (Nat.le_refl _) _
  have hnV : V.heap[W.heap.size]? = some (.cells effZ 41 (0, 0)) := by rw [hV]; exact heap_new _ _
  have hsV : V.heap.size = W.heap.size + 1 := by rw [hV]; simp
  have g0 := (hbV.block b0 (by omega)).trans ((hb2.block b0 hl0).trans h0)
  have g1 := (hbV.block b1 (by omega)).trans ((hb2.block b1 hl1).trans h1)
  have g2 := (hbV.block w1.heap.size (by omega)).trans hw2
  have q0 := cell_of_heap g0
  have q1 := cell_of_heap g1
  have q2 := cell_of_heap g2
  have q3 := cell_of_heap hnV
  have a0 : V.cell? ⟨b0, 0, none⟩ = some (.int .i64 0) := q0 0
  have a1 : V.cell? ⟨b0, 1, none⟩ = some (.int .i64 0) := q0 1
  have a2 : V.cell? ⟨b0, 2, none⟩ = some (.int .i64 0) := q0 2
  have a3 : V.cell? ⟨b0, 3, none⟩ = some (.string ⟨#[]⟩) := q0 3
  have a4 : V.cell? ⟨b0, 4, none⟩ = some (.slice none 0 0) := q0 4
  have n0 : V.cell? ⟨W.heap.size, 0, none⟩ = some (.int .i64 0) := q3 0
  have n1 : V.cell? ⟨W.heap.size, 1, none⟩ = some (.int .i64 0) := q3 1
  have n2 : V.cell? ⟨W.heap.size, 2, none⟩ = some (.int .i64 0) := q3 2
  have n3 : V.cell? ⟨W.heap.size, 3, none⟩ = some (.string ⟨#[]⟩) := q3 3
  have n4 : V.cell? ⟨W.heap.size, 4, none⟩ = some (.slice none 0 0) := q3 4
  have c1 : V.cell? ⟨b1, 0, none⟩ = some x1 := q1 0
  have c2 : V.cell? ⟨w1.heap.size, 0, none⟩ = some (.int .i64 c) := q2 0
  have z0 := frozen_of_heap g0 0
  have z1 := frozen_of_heap g0 1
  have z2 := frozen_of_heap g0 2
  have z3 := frozen_of_heap g0 3
  have z4 := frozen_of_heap g0 4
  have z5 := frozen_of_heap g1 0
  have e1 : b0 ≠ w1.heap.size := by omega
  have e2 : b1 ≠ w1.heap.size := by omega
  have e3 : b0 ≠ W.heap.size := by omega
  have e4 : b1 ≠ W.heap.size := by omega
  have e5 := e1.symm
  have e6 := e2.symm
  have e7 := e3.symm
  have e8 := e4.symm
  have e9 := hne.symm
  have e10 : w1.heap.size ≠ W.heap.size := by omega
  have HH := hide (And.intro g0 (And.intro g1 (And.intro hb2 hbV)))
  have HS := hide (And.intro hs2 (And.intro hs1 hsV))
  clear g0 g1 g2 q0 q1 q2 q3 hb2 hbV hnV hw2 h0 h1 hs1 hs2 hsV
  unfold effZ at hV
  refine wpS_of_wp ?_
  go_upto_region 3 with fail
  rw [← hV]
  clear hV
  go_region
  clear a0 a1 a2 a3 a4 n0 n1 n2 n3 n4 c1 c2 z0 z1 z2 z3 z4 z5
  obtain ⟨g0, g1, hb2, hbV⟩ := unhide HH
  obtain ⟨hs2, hs1, hsV⟩ := unhide HS
  have HX := hide (eff_reset c g0 g1 hne)
  have HB := hide (hb2.trans (hbV.mono (by omega)))
  clear g0 g1 hb2 hbV HH HS hs1 hs2 hsV
  rw [show ((((((V.setCell ⟨b0, 0, none⟩ (.int .i64 0)).setCell ⟨b0, 1, none⟩ (.int .i64 0)).setCell ⟨b0, 2, none⟩ (.int .i64 0)).setCell ⟨b0, 3, none⟩ (.string ⟨#[]⟩)).setCell ⟨b0, 4, none⟩ (.slice none 0 0)).setCell ⟨b1, 0, none⟩ (.int .i64 c)).drew = effR V b0 b1 c from rfl]
  generalize effR V b0 b1 c = U at HX ⊢
  clear e1 e2 e3 e4 e5 e6 e7 e8 e9 e10
  go_wp2_with fail
  simp [bodyPostS, results, Tryz.results28]
  obtain ⟨x0, x1, hB⟩ := unhide HX
  exact ⟨x0, x1, fun B k0 k1 => ((unhide HB).mono (by omega)).trans (hB B k0 k1)⟩

set_option maxRecDepth 40000 in
set_option maxHeartbeats 1000000 in
theorem sgk_idle (b0 b1 : Nat) (w : World) :
    CallsD Tryz.prog 28 #[.pointer (some ⟨b0, 0, none⟩), .pointer (some ⟨b1, 0, none⟩)] .returning w fun e u' w' => e = .returned (.tuple #[]) ∧ u' = .returning ∧ Below w.heap.size w w' := by
  refine callsD_of_wpS Tryz.func28 rfl fun c₀ cs hu => ?_
  apply wpS_seq
  apply wpS_region
  simp [wpOpsS, go_sem, recoverD, hu, Tryz.ntmps28, Exit.thenS]
  refine (faultIn_nil _).mono ?_
  rintro e w1 ⟨rfl, hb1⟩
  simp [go_sem, Oper.upon, Result.andThen]
  have hbw : Below w.heap.size w (w1.alloc (.cells #[.int .i64 0, .int .i64 0] 55)) := hb1.alloc hb1.size _
  generalize w1.alloc (.cells #[.int .i64 0, .int .i64 0] 55) = W at hbw ⊢
  refine wpS_of_wp ?_
  rw [slots14]
  go_wp2_with fail
  have hu' := hide hbw
  clear hb1 hbw
  cases c₀
  simp_all [bodyPostS, results, Tryz.results28]
  exact unhide hu'

end Go.Proofs.YtffgdchemjmbmaaGreat
/- impl.Signal: the work that is handed on ends by a fault. -/
namespace Go.Proofs.YtffgdchemjmbmaaGreat
open Go.RowKit Go.Deep

set_option maxRecDepth 40000 in
set_option maxHeartbeats 2000000 in
theorem sigW_bad {n : Nat} (trap link : Bool) (t : Tm (n + 1)) (c0 c1 c2 c3 : Value) (b0 b1 b2 : Nat) (w : World) (ht : TAt (Under w.heap.size) w (n + 1) t c0 c1 c2 c3)
    (h0 : w.heap[b0]? = some (.cells #[.bool trap] 4 (0, 0))) (h1 : w.heap[b1]? = some (.cells #[.bool link] 4 (0, 0))) (h2 : w.heap[b2]? = some (.cells #[c0, c1, c2, c3] 28 (0, 0))) (hok : okB (n + 1) t = false) :
    Calls Tryz.prog 18 #[.pointer (some ⟨b0, 0, none⟩), .pointer (some ⟨b1, 0, none⟩), .pointer (some ⟨b2, 0, none⟩)] w fun e w' => Below w.heap.size w w' ∧ e = faultE := by
  obtain ⟨k0, k1, k2, k3, k4, k5, rfl, rfl, rfl, rfl⟩ := ht.shape
  have l0 : b0 < w.heap.size := (Array.getElem?_eq_some_iff.1 h0).1
  have l1 : b1 < w.heap.size := (Array.getElem?_eq_some_iff.1 h1).1
  have l2 : b2 < w.heap.size := (Array.getElem?_eq_some_iff.1 h2).1
  obtain ⟨W, hW⟩ : ∃ W, W = w.alloc (.cells #[.int .i64 0, .int .i64 0, .int .i64 0, .string ⟨#[]⟩, .slice none 0 0] 41) := ⟨_, rfl⟩
  have hWb : Below w.heap.size w W := by rw [hW]; exact (Below.refl _ _).alloc (Nat.le_refl _) _
  have hWs : W.heap.size = w.heap.size + 1 := by rw [hW]; simp
  have HS := hide (fun (w' : World) (hb : Below W.heap.size W w') => show w'.cell? ⟨b0, 0, none⟩ = some (.bool trap) ∧ w'.cell? ⟨b1, 0, none⟩ = some (.bool link) ∧ w'.cell? ⟨b2, 0, none⟩ = some (.int .i64 k0) ∧ w'.cell? ⟨b2, 1, none⟩ = some (.int .i64 k1) ∧ w'.cell? ⟨b2, 2, none⟩ = some (.string k2) ∧ w'.cell? ⟨b2, 3, none⟩ = some (.slice k3 k4 k5) from by
    have g0 := (hb.block b0 (by omega)).trans ((hWb.block b0 l0).trans h0)
    have g1 := (hb.block b1 (by omega)).trans ((hWb.block b1 l1).trans h1)
    have g2 := (hb.block b2 (by omega)).trans ((hWb.block b2 l2).trans h2)
    exact ⟨cell_of_heap g0 0, cell_of_heap g1 0, cell_of_heap g2 0, cell_of_heap g2 1, cell_of_heap g2 2, cell_of_heap g2 3⟩)
  have hin := hide (fun (w' : World) (hb : Below W.heap.size W w') => inward_any (n + 1) t _ _ _ _ w' ((ht.up hWb).up hb))
  have HWb := hide hWb
  have HOK := hide hok
  have BB := hide ((Below.refl W.heap.size W).drew)
  have HWs := hide hWs
  clear ht h0 h1 h2 hWb hok hWs
  go_enter Tryz.func18, Tryz.ntmps18
  go_upto_region 1 with fail
  rw [← hW]
  clear hW
  obtain ⟨a0, a1, a2, a3, a4, a5⟩ := unhide HS _ (unhide BB)
  go_region_with (first
    | (go_at_call 20; refine (unhide hin _ (by first | exact unhide BB | exact (unhide BB).drew)).mono ?_; rintro e w1 ⟨hb1, ⟨hvok, v, rfl, hv⟩ | ⟨hno, rfl⟩⟩; rotate_left; exact ⟨rfl, (unhide HWb).trans (((unhide BB).trans (hb1.mono (unhide BB).size)).mono (by have := unhide HWs; omega)), rfl⟩; have HVOK := hide hvok; have HV := hide (hv.mono (fun b (hb : Fresh _ w1 b) => show Under w1.heap.size b from hb.2)); obtain ⟨f0, f1, f2, f3, f4, f5⟩ := unhide HS _ ((unhide BB).trans (hb1.mono (unhide BB).size)); clear hb1 hvok hv)
    | (go_at_call 19; refine (signalled_any trap link t v _ (by first | exact unhide HV | exact (unhide HV).keep fun b hb => rfl)).mono ?_; rintro e w2 ⟨rfl, rfl⟩))
  all_goals exact absurd (ok_val.2 (unhide HVOK)) (by rw [unhide HOK]; simp)

end Go.Proofs.YtffgdchemjmbmaaGreat
/- impl.TermUnpack: the function. -/
namespace Go.Proofs.YtffgdchemjmbmaaGreat
open Go.RowKit Go.Deep

theorem three_blocks (w : World) (x y z : Obj) : (((w.alloc x).alloc y).alloc z).heap[w.heap.size]? = some x ∧ (((w.alloc x).alloc y).alloc z).heap[w.heap.size + 1]? = some y ∧
    (((w.alloc x).alloc y).alloc z).heap[w.heap.size + 2]? = some z := by
  refine ⟨?_, ?_, ?_⟩
  · rw [Below.heap_alloc _ _ _ (by simp; omega), Below.heap_alloc _ _ _ (by simp)]; exact heap_new w x
  · rw [Below.heap_alloc _ _ _ (by simp)]
    have := heap_new (w.alloc x) y
    rwa [World.size_alloc] at this
  · have := heap_new ((w.alloc x).alloc y) z
    rwa [World.size_alloc, World.size_alloc] at this

end Go.Proofs.YtffgdchemjmbmaaGreat
/- impl.Signal: what hands the work on (answered), and its end by a fault. -/
namespace Go.Proofs.YtffgdchemjmbmaaGreat
open Go.RowKit Go.Deep

/-- What was handed on, and its answer as it comes back. -/
def AnsW {n : Nat} (w : World) (A : Int × Tm (n + 1) × Int) (e : Ending) (w' : World) : Prop :=
  Below w.heap.size w w' ∧ ∃ d0 d1 d2 d3, e = .returned (.tuple #[.agg #[.int .i64 A.1, d0, d1, d2, d3], .int .i64 A.2.2]) ∧ TAt (Fresh w w') w' (n + 1) A.2.1 d0 d1 d2 d3 ∧ OwnS w' n w.heap.size w'.heap.size (kidsOf A.2.1) d3

def effS (V : World) (b0 b1 : Nat) (d d0 d1 d2 d3 c : Value) : World := (((((V.setCell ⟨b0, 0, none⟩ d).setCell ⟨b0, 1, none⟩ d0).setCell ⟨b0, 2, none⟩ d1).setCell ⟨b0, 3, none⟩ d2).setCell ⟨b0, 4, none⟩ d3).setCell ⟨b1, 0, none⟩ c
theorem eff_set {V : World} {b0 b1 : Nat} {x1 : Value} (d d0 d1 d2 d3 c : Value) (g0 : V.heap[b0]? = some (.cells effZ 41 (0, 0))) (g1 : V.heap[b1]? = some (.cells #[x1] 3 (0, 0))) (hne : b0 ≠ b1) :
    (effS V b0 b1 d d0 d1 d2 d3 c).heap[b0]? = some (.cells #[d, d0, d1, d2, d3] 41 (0, 0)) ∧ (effS V b0 b1 d d0 d1 d2 d3 c).heap[b1]? = some (.cells #[c] 3 (0, 0)) ∧
    (∀ B, B ≤ b0 → B ≤ b1 → Below B V (effS V b0 b1 d d0 d1 d2 d3 c)) ∧ (∀ b, b ≠ b0 → b ≠ b1 → (effS V b0 b1 d d0 d1 d2 d3 c).heap[b]? = V.heap[b]?) ∧ (effS V b0 b1 d d0 d1 d2 d3 c).heap.size = V.heap.size := by
  unfold effZ at g0
  have e9 := hne.symm
  have h0 := Row.setHeap (Row.setHeap (Row.setHeap (Row.setHeap (Row.setHeap g0 0 d) 1 d0) 2 d1) 3 d2) 4 d3
  obtain ⟨_, _, r1, r2, r3⟩ := setL_facts (N := 5) (e := 41) [d, d0, d1, d2, d3] (w := V) (B := b0) (o := 0) ⟨_, g0, rfl⟩ (by simp)
  obtain ⟨V5, hV5⟩ : ∃ V5, V5 = ((((V.setCell ⟨b0, 0, none⟩ d).setCell ⟨b0, 1, none⟩ d0).setCell ⟨b0, 2, none⟩ d1).setCell ⟨b0, 3, none⟩ d2).setCell ⟨b0, 4, none⟩ d3 := ⟨_, rfl⟩
  have hU : effS V b0 b1 d d0 d1 d2 d3 c = V5.setCell ⟨b1, 0, none⟩ c := by unfold effS; rw [← hV5]
  rw [← hV5] at h0
  simp only [setL, Nat.zero_add] at r1 r2 r3
  rw [← hV5] at r1 r2 r3
  have h1 := (r2 b1 e9).trans g1
  rw [hU]
  refine ⟨?_, ?_, fun B k0 k1 => (r1.mono k0).setCell (p := ⟨b1, 0, none⟩) k1 _, fun b k0 k1 => (Below.heap_setCell V5 ⟨b1, 0, none⟩ c b k1).trans (r2 b k0), by rw [World.size_setCell]; exact r3⟩
  · exact (Below.heap_setCell V5 ⟨b1, 0, none⟩ c b0 hne).trans h0
  · exact Row.setHeap h1 0 c

set_option maxRecDepth 40000 in
/-- Behind a fault: nothing, and the fault's number. -/
theorem eff_door {w : World} (Q : Ending → World → Prop) (c : Int) (tm : Array Value) (w3 : World) (b0 b1 : Nat) (x1 : Value) (h4 : tm.getD 2 undef = .pointer (some ⟨b0, 0, none⟩)) (h5 : tm.getD 3 undef = .pointer (some ⟨b1, 0, none⟩))
    (k1 : w3.heap[b0]? = some (.cells effZ 41 (0, 0))) (k2 : w3.heap[b1]? = some (.cells #[x1] 3 (0, 0))) (hne : b0 ≠ b1) (hb0 : w.heap.size ≤ b0) (hb1 : w.heap.size ≤ b1) (hbw : Below w.heap.size w w3)
    (hQ : ∀ w', Below w.heap.size w w' → Q (.returned (.tuple #[.agg #[.int .i64 0, .int .i64 0, .int .i64 0, .string ⟨#[]⟩, .slice none 0 0], .int .i64 c])) w') :
    bodyPostD Tryz.prog Tryz.f17 Q (Exit.panic [{ v := fltV c, recovered := false }]) { tmps := tm, defers := [{ target := Target.fn (Fn.func 28) #[.pointer (some ⟨b0, 0, none⟩), .pointer (some ⟨b1, 0, none⟩)], args := #[] }] } w3 := by
  refine leaves_cons (f := 28) (args := #[.pointer (some ⟨b0, 0, none⟩), .pointer (some ⟨b1, 0, none⟩)]) (by simp) (by simp [go_sem]) ?_
  refine (sgk_panicking _ b0 b1 x1 [] w3 k1 k2 hne).mono ?_
  rintro e u' w4 ⟨rfl, rfl, x0, x1, hb4⟩
  have hB := hide (hbw.trans (hb4 w.heap.size hb0 hb1))
  clear hb4 hbw k1 k2
  have q0 := cell_of_heap x0
  have g0 : w4.cell? ⟨b0, 0, none⟩ = some (.int .i64 0) := q0 0
  have g1 : w4.cell? ⟨b0, 1, none⟩ = some (.int .i64 0) := q0 1
  have g2 : w4.cell? ⟨b0, 2, none⟩ = some (.int .i64 0) := q0 2
  have g3 : w4.cell? ⟨b0, 3, none⟩ = some (.string ⟨#[]⟩) := q0 3
  have g4 : w4.cell? ⟨b0, 4, none⟩ = some (.slice none 0 0) := q0 4
  have g5 : w4.cell? ⟨b1, 0, none⟩ = some (.int .i64 c) := cell_of_heap x1 0
  clear q0 x0 x1
  have h4' : tm[2]?.getD undef = .pointer (some ⟨b0, 0, none⟩) := by simpa using h4
  have h5' : tm[3]?.getD undef = .pointer (some ⟨b1, 0, none⟩) := by simpa using h5
  have HQ := hide (hQ w4 (unhide hB))
  clear hQ
  simp [Leaves, settle, results, Tryz.results17, go_sem, h4', h5', g0, g1, g2, g3, g4, g5]
  exact unhide HQ

set_option maxRecDepth 40000 in
/-- Behind the work: what the results' cells hold. -/
theorem eff_leave (Q : Ending → World → Prop) (tm : Array Value) (w4 : World) (b0 b1 : Nat) (d d0 d1 d2 d3 c : Value) (h4 : tm.getD 2 undef = .pointer (some ⟨b0, 0, none⟩)) (h5 : tm.getD 3 undef = .pointer (some ⟨b1, 0, none⟩))
    (hx : w4.heap[b0]? = some (.cells #[d, d0, d1, d2, d3] 41 (0, 0))) (hy : w4.heap[b1]? = some (.cells #[c] 3 (0, 0)))
    (hQ : ∀ w', Below w4.heap.size w4 w' → Q (.returned (.tuple #[.agg #[d, d0, d1, d2, d3], c])) w') :
    bodyPostD Tryz.prog Tryz.f17 Q Exit.ret { tmps := tm, defers := [{ target := Target.fn (Fn.func 28) #[.pointer (some ⟨b0, 0, none⟩), .pointer (some ⟨b1, 0, none⟩)], args := #[] }] } w4 := by
  refine leaves_cons (f := 28) (args := #[.pointer (some ⟨b0, 0, none⟩), .pointer (some ⟨b1, 0, none⟩)]) (by simp) (by simp [go_sem]) ?_
  refine (sgk_idle b0 b1 w4).mono ?_
  rintro e u' w5 ⟨rfl, rfl, hb5⟩
  have q0 := cell_of_heap ((hb5.block b0 (Array.getElem?_eq_some_iff.1 hx).1).trans hx)
  have g5 : w5.cell? ⟨b1, 0, none⟩ = some c := cell_of_heap ((hb5.block b1 (Array.getElem?_eq_some_iff.1 hy).1).trans hy) 0
  have g0 : w5.cell? ⟨b0, 0, none⟩ = some d := q0 0
  have g1 : w5.cell? ⟨b0, 1, none⟩ = some d0 := q0 1
  have g2 : w5.cell? ⟨b0, 2, none⟩ = some d1 := q0 2
  have g3 : w5.cell? ⟨b0, 3, none⟩ = some d2 := q0 3
  have g4 : w5.cell? ⟨b0, 4, none⟩ = some d3 := q0 4
  have HQ := hide (hQ w5 hb5)
  have h4' : tm[2]?.getD undef = .pointer (some ⟨b0, 0, none⟩) := by simpa using h4
  have h5' : tm[3]?.getD undef = .pointer (some ⟨b1, 0, none⟩) := by simpa using h5
  clear hQ hx hy hb5 q0
  simp [Leaves, settle, results, Tryz.results17, go_sem, h4', h5', g0, g1, g2, g3, g4, g5]
  exact unhide HQ

set_option maxRecDepth 40000 in
set_option maxHeartbeats 2000000 in
theorem answered_sig {n : Nat} (trap link : Bool) (t : Tm (n + 1)) (c0 c1 c2 c3 : Value) (b0 b1 b2 : Nat) (w : World) (ht : TAt (Under w.heap.size) w (n + 1) t c0 c1 c2 c3)
    (h0 : w.heap[b0]? = some (.cells #[.bool trap] 4 (0, 0))) (h1 : w.heap[b1]? = some (.cells #[.bool link] 4 (0, 0))) (h2 : w.heap[b2]? = some (.cells #[c0, c1, c2, c3] 28 (0, 0))) :
    Calls Tryz.prog 17 #[.func (Fn.func 18) #[] #[.pointer (some ⟨b0, 0, none⟩), .pointer (some ⟨b1, 0, none⟩), .pointer (some ⟨b2, 0, none⟩)]] w (AnsW w (sigA trap link t)) := by
  have l0 : b0 < w.heap.size := (Array.getElem?_eq_some_iff.1 h0).1
  have l1 : b1 < w.heap.size := (Array.getElem?_eq_some_iff.1 h1).1
  have l2 : b2 < w.heap.size := (Array.getElem?_eq_some_iff.1 h2).1
  have hmf : ∀ (fn : Fn) (first cap : Array Value) (w : World), (Instr.makeFunc fn first cap).run Tryz.prog w = .ok (.func fn first cap) w := fun _ _ _ _ => rfl
  obtain ⟨W, hW⟩ : ∃ W, W = (w.alloc (.cells effZ 41)).alloc (.cells #[.int .i64 0] 3) := ⟨_, rfl⟩
  obtain ⟨g0, g1, _, _⟩ := two_news w (.cells effZ 41) (.cells #[.int .i64 0] 3)
  have hWb : Below w.heap.size w W := by rw [hW]; exact below_two _ _ _
  have hWs : W.heap.size = w.heap.size + 2 := by rw [hW]; simp
  rw [← hW] at g0 g1
  have HT := hide (ht.up hWb)
  have H0 := hide ((hWb.block b0 l0).trans h0)
  have H1 := hide ((hWb.block b1 l1).trans h1)
  have H2 := hide ((hWb.block b2 l2).trans h2)
  have HWb := hide hWb
  have G0 := hide g0
  have G1 := hide g1
  unfold effZ at hW
  clear ht h0 h1 h2 hWb g0 g1
  cases hok : okB (n + 1) t
  · have HC := hide (sigW_bad trap link t c0 c1 c2 c3 b0 b1 b2 W (unhide HT) (unhide H0) (unhide H1) (unhide H2) hok)
    have hA : sigA trap link t = (0, zerT n, 1) := by unfold sigA; exact if_pos hok
    rw [hA]
    clear hA hok
    go_enter_defers Tryz.func17, Tryz.ntmps17
    go_wp2_with fail
    rw [← hW]
    clear hW
    refine (unhide HC).mono ?_
    rintro e w1 ⟨hb1, rfl⟩
    refine eff_door _ 1 _ w1 w.heap.size (w.heap.size + 1) _ rfl rfl ((hb1.block _ (by omega)).trans (unhide G0)) ((hb1.block _ (by omega)).trans (unhide G1)) (by omega) (by omega) (by omega) ((unhide HWb).trans (hb1.mono (by omega))) fun w' hb => ?_
    exact ⟨hb, _, _, _, _, rfl, zerT_at _ _, ownS_nil _⟩
  · have HC := hide (sigW_any trap link t c0 c1 c2 c3 b0 b1 b2 W (unhide HT) (unhide H0) (unhide H1) (unhide H2) hok)
    have hA : (sigA trap link t).2.2 = 0 := by
      unfold sigA
      rw [if_neg (by rw [hok]; simp)]
      repeat' split
      all_goals rfl
    obtain ⟨A1, A2, A3, hAA⟩ : ∃ A1 A2 A3, sigA trap link t = (A1, A2, A3) := ⟨_, _, _, rfl⟩
    rw [hAA] at HC hA ⊢
    dsimp only at hA
    subst hA
    clear hAA hok
    go_enter_defers Tryz.func17, Tryz.ntmps17
    go_wp2_with fail
    rw [← hW]
    clear hW
    refine (unhide HC).mono ?_
    rintro e w1 ⟨hb1, d0, d1, d2, d3, rfl, hd, ho⟩
    have h0 := (hb1.block w.heap.size (by omega)).trans (unhide G0)
    have h1 := (hb1.block (w.heap.size + 1) (by omega)).trans (unhide G1)
    obtain ⟨e0, e1, e2, e3, e4, e5, rfl, rfl, rfl, rfl⟩ := hd.shape
    have q0 := cell_of_heap h0
    have a0 : w1.cell? ⟨w.heap.size, 0, none⟩ = some (.int .i64 0) := q0 0
    have a1 : w1.cell? ⟨w.heap.size, 1, none⟩ = some (.int .i64 0) := q0 1
    have a2 : w1.cell? ⟨w.heap.size, 2, none⟩ = some (.int .i64 0) := q0 2
    have a3 : w1.cell? ⟨w.heap.size, 3, none⟩ = some (.string ⟨#[]⟩) := q0 3
    have a4 : w1.cell? ⟨w.heap.size, 4, none⟩ = some (.slice none 0 0) := q0 4
    have a5 : w1.cell? ⟨w.heap.size + 1, 0, none⟩ = some (.int .i64 0) := cell_of_heap h1 0
    have z0 := frozen_of_heap h0 0
    have z1 := frozen_of_heap h0 1
    have z2 := frozen_of_heap h0 2
    have z3 := frozen_of_heap h0 3
    have z4 := frozen_of_heap h0 4
    have z5 := frozen_of_heap h1 0
    have K0 := hide h0
    have K1 := hide h1
    have KD := hide (And.intro hd ho)
    have KB := hide hb1
    clear q0 h0 h1 hd ho hb1 HC
    go_wp2_with fail
    obtain ⟨x0, x1, hB, hk, hz⟩ := eff_set (.int .i64 A1) (.int .i64 e0) (.int .i64 e1) (.string e2) (.slice e3 e4 e5) (.int .i64 0) (unhide K0) (unhide K1) (by omega)
    have hws := hWs
    have h1s := (unhide KB).size
    obtain ⟨hd, ho⟩ := unhide KD
    have hBU := hide (((unhide HWb).trans ((unhide KB).mono (by omega))).trans (hB w.heap.size (Nat.le_refl _) (by omega)))
    have hD : TAt (Fresh W w1) (effS w1 w.heap.size (w.heap.size + 1) (.int .i64 A1) (.int .i64 e0) (.int .i64 e1) (.string e2) (.slice e3 e4 e5) (.int .i64 0)) (n + 1) A2 (.int .i64 e0) (.int .i64 e1) (.string e2) (.slice e3 e4 e5) :=
      hd.keep fun b hb => hk b (by have := hb.1; omega) (by have := hb.1; omega)
    have hO : OwnS (effS w1 w.heap.size (w.heap.size + 1) (.int .i64 A1) (.int .i64 e0) (.int .i64 e1) (.string e2) (.slice e3 e4 e5) (.int .i64 0)) n W.heap.size w1.heap.size (kidsOf A2) (.slice e3 e4 e5) :=
      ho.keep fun b k1 k2 => hk b (by omega) (by omega)
    refine eff_leave _ _ _ w.heap.size (w.heap.size + 1) (.int .i64 A1) (.int .i64 e0) (.int .i64 e1) (.string e2) (.slice e3 e4 e5) (.int .i64 0) rfl rfl x0 x1 fun w' hb => ?_
    replace hb : Below (effS w1 w.heap.size (w.heap.size + 1) (.int .i64 A1) (.int .i64 e0) (.int .i64 e1) (.string e2) (.slice e3 e4 e5) (.int .i64 0)).heap.size (effS w1 w.heap.size (w.heap.size + 1) (.int .i64 A1) (.int .i64 e0) (.int .i64 e1) (.string e2) (.slice e3 e4 e5) (.int .i64 0)) w' := hb
    generalize effS w1 w.heap.size (w.heap.size + 1) (.int .i64 A1) (.int .i64 e0) (.int .i64 e1) (.string e2) (.slice e3 e4 e5) (.int .i64 0) = U at *
    have hbs := hb.size
    refine ⟨(unhide hBU).trans (hb.mono (by omega)), _, _, _, _, rfl, ?_, ?_⟩
    · exact (hD.keep fun b k => hb.block b (by have := k.2; omega)).mono fun b k => ⟨by have := k.1; omega, by have := k.2; omega⟩
    · exact (hO.keep fun b k1 k2 => hb.block b (by omega)).wide (by omega) (by omega)

end Go.Proofs.YtffgdchemjmbmaaGreat
/- impl.Signal. -/
namespace Go.Proofs.YtffgdchemjmbmaaGreat
open Go.RowKit Go.Deep

/-- What stands behind the program's: its answer's rows are its own. -/
def SigI {n : Nat} (w : World) (A : Int × Tm (n + 1) × Int) (e : Ending) (w' : World) : Prop :=
  Below w.heap.size w w' ∧ ∃ d0 d1 d2 d3, e = .returned (.tuple #[.int .i64 A.1, .agg #[d0, d1, d2, d3], .int .i64 A.2.2]) ∧ TAt (Fresh w w') w' (n + 1) A.2.1 d0 d1 d2 d3 ∧ OwnS w' n w.heap.size w'.heap.size (kidsOf A.2.1) d3

theorem four_news (w : World) (x y z u : Obj) : let W := (((w.alloc x).alloc y).alloc z).alloc u
    W.heap[w.heap.size]? = some x ∧ W.heap[w.heap.size + 1]? = some y ∧ W.heap[w.heap.size + 2]? = some z ∧ W.heap[w.heap.size + 3]? = some u ∧ Below w.heap.size w W ∧ W.heap.size = w.heap.size + 4 := by
  obtain ⟨a, b, c⟩ := three_blocks w x y z
  have hs : (((w.alloc x).alloc y).alloc z).heap.size = w.heap.size + 3 := by simp
  refine ⟨(Below.heap_alloc _ _ _ (by omega)).trans a, (Below.heap_alloc _ _ _ (by omega)).trans b, (Below.heap_alloc _ _ _ (by omega)).trans c, ?_, ?_, by simp⟩
  · have := heap_new (((w.alloc x).alloc y).alloc z) u
    rwa [hs] at this
  · exact (((((Below.refl w.heap.size w).alloc (Nat.le_refl _) x).alloc (by simp) y).alloc (by simp; omega) z).alloc (by simp; omega) u)

set_option maxRecDepth 40000 in
set_option maxHeartbeats 2000000 in
theorem iSignal_any {n : Nat} (trap link : Bool) (t : Tm (n + 1)) (c0 c1 c2 c3 : Value) (w : World) (ht : TAt (Under w.heap.size) w (n + 1) t c0 c1 c2 c3) :
    Calls Tryz.prog 7 #[.bool trap, .bool link, .agg #[c0, c1, c2, c3]] w (SigI w (sigA trap link t)) := by
  obtain ⟨k0, k1, k2, k3, k4, k5, rfl, rfl, rfl, rfl⟩ := ht.shape
  have hmf : ∀ (fn : Fn) (first cap : Array Value) (w : World), (Instr.makeFunc fn first cap).run Tryz.prog w = .ok (.func fn first cap) w := fun _ _ _ _ => rfl
  obtain ⟨W, hW⟩ : ∃ W, W = (((w.alloc (.cells #[.bool trap] 4)).alloc (.cells #[.bool link] 4)).alloc (.cells #[.int .i64 k0, .int .i64 k1, .string k2, .slice k3 k4 k5] 28)).alloc (.cells #[.int .i64 0, .int .i64 0, .string ⟨#[]⟩, .slice none 0 0] 28) := ⟨_, rfl⟩
  obtain ⟨g0, g1, g2, g3, hWb, hWs⟩ := four_news w (.cells #[.bool trap] 4) (.cells #[.bool link] 4) (.cells #[.int .i64 k0, .int .i64 k1, .string k2, .slice k3 k4 k5] 28) (.cells #[.int .i64 0, .int .i64 0, .string ⟨#[]⟩, .slice none 0 0] 28)
  rw [← hW] at g0 g1 g2 g3 hWb hWs
  have HC := hide (answered_sig trap link t _ _ _ _ w.heap.size (w.heap.size + 1) (w.heap.size + 2) W (ht.up hWb) g0 g1 g2)
  have G3 := hide g3
  have HWb := hide hWb
  generalize hA : sigA trap link t = A at HC ⊢
  obtain ⟨A1, A2, A3⟩ := A
  clear hA g0 g1 g2 g3 hWb ht
  go_enter Tryz.func7, Tryz.ntmps7
  go_wp2_with fail
  rw [← hW]
  clear hW
  refine (unhide HC).mono ?_
  rintro e w1 ⟨hb1, d0, d1, d2, d3, rfl, hd, ho⟩
  obtain ⟨e0, e1, e2, e3, e4, e5, rfl, rfl, rfl, rfl⟩ := hd.shape
  have h1s := hb1.size
  have g3 := (hb1.block (w.heap.size + 3) (by omega)).trans (unhide G3)
  obtain ⟨V, hV⟩ : ∃ V, V = w1.alloc (.cells #[.int .i64 A1, .int .i64 e0, .int .i64 e1, .string e2, .slice e3 e4 e5] 41) := ⟨_, rfl⟩
  have hx : V.heap[w1.heap.size]? = some (.cells #[.int .i64 A1, .int .i64 e0, .int .i64 e1, .string e2, .slice e3 e4 e5] 41 (0, 0)) := by rw [hV]; exact heap_new _ _
  have hsV : V.heap.size = w1.heap.size + 1 := by rw [hV]; simp
  have hbV : Below w1.heap.size w1 V := by rw [hV]; exact (Below.refl w1.heap.size w1).alloc (Nat.le_refl _) _
  have y3 := (hbV.block (w.heap.size + 3) (by omega)).trans g3
  have q0 := cell_of_heap hx
  have a0 : V.cell? ⟨w1.heap.size, 0, none⟩ = some (.int .i64 A1) := q0 0
  have a1 : V.cell? ⟨w1.heap.size, 1, none⟩ = some (.int .i64 e0) := q0 1
  have a2 : V.cell? ⟨w1.heap.size, 2, none⟩ = some (.int .i64 e1) := q0 2
  have a3 : V.cell? ⟨w1.heap.size, 3, none⟩ = some (.string e2) := q0 3
  have a4 : V.cell? ⟨w1.heap.size, 4, none⟩ = some (.slice e3 e4 e5) := q0 4
  have q1 := cell_of_heap y3
  have b0 : V.cell? ⟨w.heap.size + 1 + 1 + 1, 0, none⟩ = some (.int .i64 0) := q1 0
  have b1 : V.cell? ⟨w.heap.size + 1 + 1 + 1, 1, none⟩ = some (.int .i64 0) := q1 1
  have b2 : V.cell? ⟨w.heap.size + 1 + 1 + 1, 2, none⟩ = some (.string ⟨#[]⟩) := q1 2
  have b3 : V.cell? ⟨w.heap.size + 1 + 1 + 1, 3, none⟩ = some (.slice none 0 0) := q1 3
  have z0 : V.frozen? ⟨w.heap.size + 1 + 1 + 1, 0, none⟩ = false := frozen_of_heap y3 0
  have z1 : V.frozen? ⟨w.heap.size + 1 + 1 + 1, 1, none⟩ = false := frozen_of_heap y3 1
  have z2 : V.frozen? ⟨w.heap.size + 1 + 1 + 1, 2, none⟩ = false := frozen_of_heap y3 2
  have z3 : V.frozen? ⟨w.heap.size + 1 + 1 + 1, 3, none⟩ = false := frozen_of_heap y3 3
  have hne : w1.heap.size ≠ w.heap.size + 1 + 1 + 1 := by omega
  have hne' := hne.symm
  have hD : TAt (Fresh W w1) V (n + 1) A2 (.int .i64 e0) (.int .i64 e1) (.string e2) (.slice e3 e4 e5) := hd.keep fun b hb => hbV.block b hb.2
  have hO : OwnS V n W.heap.size w1.heap.size (kidsOf A2) (.slice e3 e4 e5) := ho.keep fun b _ h2 => hbV.block b h2
  have hB := hide (((unhide HWb).trans (hb1.mono (by omega))).trans (hbV.mono (by omega)))
  have HDO := hide (And.intro hD hO)
  have HY := hide y3
  have HZ := hide (And.intro hWs (And.intro h1s hsV))
  clear hx hbV y3 q0 q1 hD hO hd ho hb1 g3 HC hWs h1s hsV
  go_upto_region 2 with fail
  rw [← hV]
  clear hV
  go_region
  clear a0 a1 a2 a3 a4 b0 b1 b2 b3 z0 z1 z2 z3
  obtain ⟨hWs, h1s, hsV⟩ := unhide HZ
  obtain ⟨hD, hO⟩ := unhide HDO
  obtain ⟨_, q, r1, r2, r3⟩ := setL_facts (N := 4) (e := 28) [.int .i64 e0, .int .i64 e1, .string e2, .slice e3 e4 e5] (w := V) (B := w.heap.size + 3) (o := 0) ⟨_, unhide HY, rfl⟩ (by simp)
  have q0 := q 0 (by simp)
  have q1 := q 1 (by simp)
  have q2 := q 2 (by simp)
  have q3 := q 3 (by simp)
  clear q
  simp only [setL, Nat.zero_add] at q0 q1 q2 q3 r1 r2 r3
  obtain ⟨U, hU⟩ : ∃ U, U = ((((V.setCell ⟨w.heap.size + 1 + 1 + 1, 0, none⟩ (.int .i64 e0)).setCell ⟨w.heap.size + 1 + 1 + 1, 1, none⟩ (.int .i64 e1)).setCell ⟨w.heap.size + 1 + 1 + 1, 2, none⟩ (.string e2)).setCell ⟨w.heap.size + 1 + 1 + 1, 3, none⟩ (.slice e3 e4 e5)) := ⟨_, rfl⟩
  replace q0 : U.cell? ⟨w.heap.size + 1 + 1 + 1, 0, none⟩ = some (.int .i64 e0) := by rw [hU]; exact q0
  replace q1 : U.cell? ⟨w.heap.size + 1 + 1 + 1, 1, none⟩ = some (.int .i64 e1) := by rw [hU]; exact q1
  replace q2 : U.cell? ⟨w.heap.size + 1 + 1 + 1, 2, none⟩ = some (.string e2) := by rw [hU]; exact q2
  replace q3 : U.cell? ⟨w.heap.size + 1 + 1 + 1, 3, none⟩ = some (.slice e3 e4 e5) := by rw [hU]; exact q3
  replace r1 : Below (w.heap.size + 3) V U := by rw [hU]; exact r1
  replace r2 : ∀ b, b ≠ w.heap.size + 3 → U.heap[b]? = V.heap[b]? := by rw [hU]; exact r2
  replace r3 : U.heap.size = V.heap.size := by rw [hU]; exact r3
  rw [← hU]
  have F := hide (show SigI w (A1, A2, A3) (.returned (.tuple #[.int .i64 A1, .agg #[.int .i64 e0, .int .i64 e1, .string e2, .slice e3 e4 e5], .int .i64 A3])) U.drew by
    refine ⟨((unhide hB).trans (r1.mono (by omega))).drew, _, _, _, _, rfl, ?_, ?_⟩
    · exact (hD.keep (w' := U.drew) fun b k => r2 b (by have := k.1; omega)).mono fun b k => ⟨by have := k.1; omega, by have := k.2; show b < U.heap.size; omega⟩
    · exact (hO.keep (w' := U.drew) fun b k1 k2 => r2 b (by omega)).wide (lo' := w.heap.size) (hi' := U.drew.heap.size) (by omega) (by show _ ≤ U.heap.size; omega))
  clear hU r1 r2 r3 hD hO HDO HY HZ hWs h1s hsV hB HWb G3 hmf
  go_wp2_with fail
  refine bodyPost_ret (v := .tuple #[.int .i64 A1, .agg #[.int .i64 e0, .int .i64 e1, .string e2, .slice e3 e4 e5], .int .i64 A3]) (by simp [results, Tryz.results7, go_sem, q0, q1, q2, q3]) rfl ?_
  exact unhide F

end Go.Proofs.YtffgdchemjmbmaaGreat
/- toTerm, toTermS: the copy's rows are its own, each in blocks of its own. -/
namespace Go.Proofs.YtffgdchemjmbmaaGreat
open Go.RowKit


def ToOSaid (n : Nat) : Prop := ∀ (t : Tm (n + 1)) (c0 c1 c2 c3 : Value) (w : World), TAt (Under w.heap.size) w (n + 1) t c0 c1 c2 c3 → tot (n + 1) t ≤ 1048576 →
  Calls Tryz.prog 6 #[.agg #[c0, c1, c2, c3]] w fun e w' => ∃ d0 d1 d2 d3, e = .returned (.agg #[d0, d1, d2, d3]) ∧ TAt (Fresh w w') w' (n + 1) t d0 d1 d2 d3 ∧ OwnS w' n w.heap.size w'.heap.size (kidsOf t) d3 ∧ Below w.heap.size w w'

def ToOSSaid (n : Nat) : Prop := ∀ (ks : List (Tm n)) (v : Value) (w : World), SAt (Under w.heap.size) w (TAt (Under w.heap.size) w n) ks v → ks.length + totS ks ≤ 1048576 →
  Calls Tryz.prog 16 #[v] w fun e w' => ∃ u, e = .returned u ∧ SAt (Fresh w w') w' (TAt (Fresh w w') w' n) ks u ∧ OwnS w' n w.heap.size w'.heap.size ks u ∧ Below w.heap.size w w'

theorem bs_next (bs : Nat → Nat) (k N : Nat) (hm : ∀ i j, i ≤ j → bs i ≤ bs j) (hk : bs k ≤ N) : ∃ bs' : Nat → Nat, (∀ j, j ≤ k → bs' j = bs j) ∧ bs' (k + 1) = N ∧ ∀ i j, i ≤ j → bs' i ≤ bs' j := by
  refine ⟨fun j => if j ≤ k then bs j else N, fun j hj => if_pos hj, if_neg (by omega), fun i j hij => ?_⟩
  show (if i ≤ k then bs i else N) ≤ (if j ≤ k then bs j else N)
  by_cases h1 : j ≤ k
  · rw [if_pos h1, if_pos (by omega)]; exact hm i j hij
  · rw [if_neg h1]
    by_cases h2 : i ≤ k
    · rw [if_pos h2]; have := hm i k h2; omega
    · rw [if_neg h2]; exact Nat.le_refl _

/-- The first k kids are over, each in blocks of its own. -/
def KidsO (n B : Nat) (ks : List (Tm (n + 1))) (k : Nat) (wr : World) : Prop :=
  ∃ bs : Nat → Nat, B < bs 0 ∧ (∀ i j, i ≤ j → bs i ≤ bs j) ∧ bs k ≤ wr.heap.size ∧ ∀ j (hj : j < ks.length), j < k → ∃ v3, wr.cell? ⟨B, j * 4 + 3, none⟩ = some v3 ∧ OwnS wr n (bs j) (bs (j + 1)) (kidsOf ks[j]) v3
theorem KidsO.next {n B k : Nat} {ks : List (Tm (n + 1))} {wr w1 w2 : World} (h : KidsO n B ks k wr) (hB : B < wr.heap.size) (hk : k < ks.length) (hb : Below wr.heap.size wr w1) (h2 : ∀ b, b ≠ B → w2.heap[b]? = w1.heap[b]?) (hs : w1.heap.size ≤ w2.heap.size)
    (hlow : ∀ o, o < k * 4 → w2.cell? ⟨B, o, none⟩ = w1.cell? ⟨B, o, none⟩) {v3 : Value} (h3 : w2.cell? ⟨B, k * 4 + 3, none⟩ = some v3) (ho : OwnS w1 n wr.heap.size w1.heap.size (kidsOf ks[k]) v3) : KidsO n B ks (k + 1) w2 := by
  obtain ⟨bs, b0, hm, hbk, hall⟩ := h
  have hw := hb.size
  obtain ⟨bs', hs1, hs2, hs3⟩ := bs_next bs k w1.heap.size hm (by omega)
  have hb00 := hs1 0 (Nat.zero_le _)
  refine ⟨bs', by omega, hs3, by omega, fun j hj hjk => ?_⟩
  by_cases hjj : j = k
  · subst hjj
    have hb0 := hm 0 j (Nat.zero_le _)
    rw [hs1 j (Nat.le_refl _), hs2]
    exact ⟨v3, h3, (ho.keep fun b h1 _ => h2 b (by omega)).wide hbk (Nat.le_refl _)⟩
  · obtain ⟨u3, e3, hoj⟩ := hall j hj (by omega)
    have hb0 := hm 0 j (Nat.zero_le _)
    have hbj := hm (j + 1) k (by omega)
    rw [hs1 j (by omega), hs1 (j + 1) (by omega)]
    exact ⟨u3, (hlow _ (by omega)).trans ((World.cell?_of_block (w := wr) (hb.block B hB)).trans e3), hoj.keep fun b h1 h4 => (h2 b (by omega)).trans (hb.block b (by omega))⟩

set_option maxHeartbeats 1000000 in
theorem toOS_of {n : Nat} (h : ToOSaid n) : ToOSSaid (n + 1) := by
  intro ks v w hv htot
  obtain ⟨a, cap, rfl, hlen, hcap, hel⟩ := hv
  have hmk := run_mk ks.length (by omega)
  go_enter Tryz.func16, Tryz.ntmps16
  go_wp2_with fail
  clear hmk
  go_loopw [4] (fun iv wr => ∃ k : Nat, k ≤ ks.length ∧ iv = .int .i64 k ∧ Below w.heap.size w wr ∧ Row w.heap.size 28 (ks.length * 4) wr ∧
      (∀ j (hj : j < ks.length), j < k → ∃ d0 d1 d2 d3, wr.cell? ⟨w.heap.size, j * 4, none⟩ = some d0 ∧ wr.cell? ⟨w.heap.size, j * 4 + 1, none⟩ = some d1 ∧
        wr.cell? ⟨w.heap.size, j * 4 + 2, none⟩ = some d2 ∧ wr.cell? ⟨w.heap.size, j * 4 + 3, none⟩ = some d3 ∧ TAt (fun b => w.heap.size < b ∧ b < wr.heap.size) wr (n + 1) ks[j] d0 d1 d2 d3) ∧ KidsO n w.heap.size ks k wr) (fun iv _ => ks.length - (intOf iv).toNat)
  case atStart =>
    refine ⟨0, by omega, rfl, (Below.refl _ _).alloc (Nat.le_refl _) _, ?_, fun j _ hj => absurd hj (by omega), fun _ => w.heap.size + 1, Nat.lt_succ_self _, fun _ _ _ => Nat.le_refl _, by simp, fun j _ hj => absurd hj (by omega)⟩
    have := Row.new (e := 28) w (zeros (ks.length * 4))
    rwa [zeros_size] at this
  case round =>
    obtain ⟨k, hk, rfl, hb, hrow, hall, hkid⟩ := hrel
    have HKO := hide hkid
    clear hkid
    by_cases hlt : k < ks.length
    · obtain ⟨b, off, d0, d1, d2, d3, rfl, hS, e0, e1, e2, e3, hr⟩ := hel k hlt
      have hbc := bcell hb
      have f0 := (hbc b _ hS).trans e0
      have f1 := (hbc b _ hS).trans e1
      have f2 := (hbc b _ hS).trans e2
      have f3 := (hbc b _ hS).trans e3
      have ht : tot (n + 1) ks[k] ≤ 1048576 := by
        have := totS_take ks k hlt
        have := totS_le ks (k + 1)
        omega
      clear hbc e0 e1 e2 e3
      go_wp2_with fail
      refine (h _ _ _ _ _ _ (hr.up hb) ht).mono ?_
      rintro e w1 ⟨g0, g1, g2, g3, rfl, hg, hown, hb1⟩
      have HOW := hide hown
      clear hown
      have hrow1 := hrow.keep (hb1.block _ hrow.lt)
      obtain ⟨v0, x0⟩ := hrow1.cell (o := k * 4) (by omega)
      obtain ⟨v1, x1⟩ := hrow1.cell (o := k * 4 + 1) (by omega)
      obtain ⟨v2, x2⟩ := hrow1.cell (o := k * 4 + 2) (by omega)
      obtain ⟨v3, x3⟩ := hrow1.cell (o := k * 4 + 3) (by omega)
      have z0 := hrow1.frozen (k * 4)
      have z1 := hrow1.frozen (k * 4 + 1)
      have z2 := hrow1.frozen (k * 4 + 2)
      have z3 := hrow1.frozen (k * 4 + 3)
      obtain ⟨gk, gm, gs, ga, gl, gc, rfl, rfl, rfl, rfl⟩ := hg.shape
      have HF : Hid _ := set4_facts hrow1 (o := k * 4) (by omega) (.int .i64 gk) (.int .i64 gm) (.string gs) (.slice ga gl gc)
      clear f0 f1 f2 f3
      go_wp2_with fail
      clear x0 x1 x2 x3 z0 z1 z2 z3
      obtain ⟨s1, s2, s3, s4, s5, s6, s7, s8⟩ := HF.out
      go_roundw
      case rel =>
        refine ⟨k + 1, hlt, by go_num, (hb.trans (hb1.mono hb.size)).trans s7, s1, fun j hj hjk => ?_, (unhide HKO).next hrow.lt hlt hb1 s8 s7.size s6 s5 (unhide HOW)⟩
        by_cases hjk2 : j = k
        · subst hjk2
          refine ⟨_, _, _, _, s2, s3, s4, s5, ?_⟩
          have hlt2 := hrow.lt
          exact (hg.keep fun b hb => s8 b (by omega)).mono fun b hb => ⟨by omega, Nat.lt_of_lt_of_le hb.2 s7.size⟩
        · obtain ⟨q0, q1, q2, q3, y0, y1, y2, y3, hq⟩ := hall j hj (by omega)
          have hkeep : ∀ b, (w.heap.size < b ∧ b < wr.heap.size) → (set4 w1 w.heap.size (k * 4) (.int .i64 gk) (.int .i64 gm) (.string gs) (.slice ga gl gc)).heap[b]? = wr.heap[b]? :=
            fun b hb => (s8 b (by omega)).trans (hb1.block b hb.2)
          have hc1 : ∀ o, w1.cell? ⟨w.heap.size, o, none⟩ = wr.cell? ⟨w.heap.size, o, none⟩ := fun o => World.cell?_of_block (w := wr) (hb1.block _ hrow.lt)
          refine ⟨q0, q1, q2, q3, ?_, ?_, ?_, ?_, (hq.keep hkeep).mono fun b hb => ⟨hb.1, Nat.lt_of_lt_of_le hb.2 (Nat.le_trans hb1.size s7.size)⟩⟩
          · exact ((s6 _ (by omega)).trans (hc1 _)).trans y0
          · exact ((s6 _ (by omega)).trans (hc1 _)).trans y1
          · exact ((s6 _ (by omega)).trans (hc1 _)).trans y2
          · exact ((s6 _ (by omega)).trans (hc1 _)).trans y3
      case measure => simp [intOf]; omega
    · have hkk : k = ks.length := by omega
      subst hkk
      have hlt2 := hrow.lt
      go_wp2_with fail
      go_ret
      refine ⟨_, rfl, ⟨_, _, rfl, Nat.le_refl _, by omega, fun i hi => ?_⟩, ?_, hb⟩
      rotate_left
      · refine ⟨_, _, rfl, ?_⟩
        obtain ⟨arr, ha, has⟩ := hrow
        obtain ⟨bs, b0, hm, hbk, hko⟩ := unhide HKO
        refine .inr ⟨_, arr, bs, rfl, ha, Nat.le_refl _, b0, hm, hbk, by omega, fun i hi => ?_⟩
        obtain ⟨v3, e3, ho⟩ := hko i hi hi
        exact ⟨v3, (cell_of_heap ha _).symm.trans e3, ho⟩
      obtain ⟨q0, q1, q2, q3, y0, y1, y2, y3, hq⟩ := hall i hi hi
      exact ⟨_, 0, q0, q1, q2, q3, rfl, ⟨Nat.le_refl _, hlt2⟩, by simpa using y0, by simpa using y1, by simpa using y2, by simpa using y3, hq.mono fun b hb => ⟨by omega, hb.2⟩⟩

set_option maxHeartbeats 1000000 in
theorem toO_of {n : Nat} (h : ToOSSaid n) : ToOSaid n := by
  rintro ⟨kd, m, s, ks⟩ c0 c1 c2 c3 w ⟨rfl, rfl, rfl, hk, hm, hs, hks⟩ ht
  have hdef : tot (n + 1) (kd, m, s, ks) = s.size + (ks.length + totS ks) := rfl
  rw [hdef] at ht
  clear hdef
  go_enter Tryz.func6, Tryz.ntmps6
  go_wp2_with fail
  have hb3 : Below w.heap.size w (((w.alloc (.cells #[.int .i64 kd, .int .i64 m, .string s, c3] 24)).alloc (.cells #[.int .i64 0, .int .i64 0, .string ⟨#[]⟩, .slice none 0 0] 28)).alloc (.cells #[.int .i64 kd, .int .i64 m, .string s, .slice none 0 0] 28)) :=
    (below_two _ _ _).alloc (by simp; omega) _
  refine (h _ _ _ (hks.up hb3) (by omega)).mono ?_
  rintro e w1 ⟨u, rfl, hu, hown, hb1⟩
  have HOW := hide hown
  clear hown
  have HU := hide hu
  obtain ⟨ua, uc, rfl, -, -, -⟩ := hu
  have hblk := hb1.block
  have hh1 : w1.heap[w.heap.size + 1]? = some (.cells #[.int .i64 0, .int .i64 0, .string ⟨#[]⟩, .slice none 0 0] 28) := by
    rw [hblk _ (by simp), Below.heap_alloc _ _ _ (by simp)]
    have := heap_new (w.alloc (.cells #[.int .i64 kd, .int .i64 m, .string s, c3] 24)) (.cells #[.int .i64 0, .int .i64 0, .string ⟨#[]⟩, .slice none 0 0] 28)
    rwa [World.size_alloc] at this
  have hh2 : w1.heap[w.heap.size + 1 + 1]? = some (.cells #[.int .i64 kd, .int .i64 m, .string s, .slice none 0 0] 28) := by
    rw [hblk _ (by simp)]
    have := heap_new ((w.alloc (.cells #[.int .i64 kd, .int .i64 m, .string s, c3] 24)).alloc (.cells #[.int .i64 0, .int .i64 0, .string ⟨#[]⟩, .slice none 0 0] 28)) (.cells #[.int .i64 kd, .int .i64 m, .string s, .slice none 0 0] 28)
    rwa [World.size_alloc, World.size_alloc] at this
  have h1 := cell_of_heap hh1
  have h2 := cell_of_heap hh2
  have f1 := frozen_of_heap hh1
  have f2 := frozen_of_heap hh2
  have hsz : w.heap.size + 1 + 1 + 1 ≤ w1.heap.size := by simpa using hb1.size
  have HB : Hid (Below w.heap.size w w1) := hb3.trans (hb1.mono (by simp; omega))
  clear hblk hh1 hh2
  go_wp2_with fail
  refine bodyPost_ret (v := .agg #[.int .i64 kd, .int .i64 m, .string s, .slice ua ks.length uc]) (by simp [results, Tryz.results6, go_sem, h1]) rfl ⟨_, _, _, _, rfl, ⟨rfl, rfl, rfl, hk, hm, hs, ?_⟩, ?_, ?_⟩
  · have hkeep : ∀ b, w.heap.size + 1 + 1 + 1 ≤ b → (((((w1.setCell ⟨w.heap.size + 1 + 1, 3, none⟩ (.slice ua ks.length uc)).setCell ⟨w.heap.size + 1, 0, none⟩ (.int .i64 kd)).setCell ⟨w.heap.size + 1, 1, none⟩ (.int .i64 m)).setCell
        ⟨w.heap.size + 1, 2, none⟩ (.string s)).setCell ⟨w.heap.size + 1, 3, none⟩ (.slice ua ks.length uc)).heap[b]? = w1.heap[b]? := fun b hb => by
      rw [Below.heap_setCell _ _ _ _ (by simp; omega), Below.heap_setCell _ _ _ _ (by simp; omega), Below.heap_setCell _ _ _ _ (by simp; omega), Below.heap_setCell _ _ _ _ (by simp; omega), Below.heap_setCell _ _ _ _ (by simp; omega)]
    have hf : ∀ b, Fresh (((w.alloc (.cells #[.int .i64 kd, .int .i64 m, .string s, c3] 24)).alloc (.cells #[.int .i64 0, .int .i64 0, .string ⟨#[]⟩, .slice none 0 0] 28)).alloc (.cells #[.int .i64 kd, .int .i64 m, .string s, .slice none 0 0] 28)) w1 b →
        w.heap.size + 1 + 1 + 1 ≤ b ∧ b < w1.heap.size := fun b hb => by simpa [Fresh] using hb
    have hk2 := fun b hb => hkeep b (hf b hb).1
    exact ((unhide HU).keep hk2 fun _ _ _ _ _ _ ht => ht.keep hk2).mono (fun b hb => ⟨by have := hf b hb; omega, by have := hf b hb; simpa using this.2⟩) fun _ _ _ _ _ _ ht => ht.mono fun b hb => ⟨by have := hf b hb; omega, by have := hf b hb; simpa using this.2⟩
  · refine ((unhide HOW).keep fun b h1 h2 => ?_).wide (by simp; omega) (by simp)
    have h1' : w.heap.size + 1 + 1 + 1 ≤ b := by simpa using h1
    rw [Below.heap_setCell _ _ _ _ (by simp; omega), Below.heap_setCell _ _ _ _ (by simp; omega), Below.heap_setCell _ _ _ _ (by simp; omega), Below.heap_setCell _ _ _ _ (by simp; omega), Below.heap_setCell _ _ _ _ (by simp; omega)]
  · exact (((((HB.out.setCell (p := ⟨_, _, none⟩) (by simp; omega) _).setCell (p := ⟨_, _, none⟩) (by simp) _).setCell (p := ⟨_, _, none⟩) (by simp) _).setCell (p := ⟨_, _, none⟩) (by simp) _).setCell (p := ⟨_, _, none⟩) (by simp) _)

theorem toOS_zero : ToOSSaid 0 := fun ks v w hv ht => (toS_of (to_any 0) ks v w hv ht).mono fun e w' ⟨u, he, hu, hb⟩ => by
  obtain ⟨a, cap, rfl, _⟩ := id hu
  exact ⟨_, he, hu, ⟨a, cap, rfl⟩, hb⟩
theorem toOS_any : ∀ n, ToOSSaid n
  | 0 => toOS_zero
  | n + 1 => toOS_of (toO_of (toOS_any n))
theorem toO_any (n : Nat) : ToOSaid n := toO_of (toOS_any n)

end Go.Proofs.YtffgdchemjmbmaaGreat
/- The laws' heldTermS: marks that stand still. -/
namespace Go.Proofs.YtffgdchemjmbmaaGreat
open Go.RowKit Go.Deep

theorem MkdS.form {w : World} : ∀ {n lo hi : Nat} {ks : List (Tm n)} {v : Value} {k : Nat}, MkdS w n lo hi ks v k → ∃ a cap, v = .slice a ks.length cap
  | 0, _, _, _, _, _, h => h
  | _ + 1, _, _, _, _, _, ⟨a, cap, h, _⟩ => ⟨a, cap, h⟩

def HeldSaid (n : Nat) : Prop := ∀ (ks : List (Tm n)) (v : Value) (lo hi k : Nat) (w : World), MkdS w n lo hi ks v k → hi ≤ w.heap.size → k + 3 * sizS ks ≤ 100000000 →
  Calls Tryz.prog 24 #[v, .int .i64 k] w fun e w' => e = .returned (.int .i64 ((k + 3 * sizS ks : Nat) : Int)) ∧ Below w.heap.size w w'

set_option maxRecDepth 40000 in
set_option maxHeartbeats 1000000 in
theorem held_nil (a : Option Addr) (cap k : Nat) (w : World) : Calls Tryz.prog 24 #[.slice a 0 cap, .int .i64 k] w fun e w' => e = .returned (.int .i64 k) ∧ w' = w := by
  go_enter Tryz.func24, Tryz.ntmps24
  go_wp2_with fail
  go_loopw [1, 5] (fun kv iv wr => kv = .int .i64 k ∧ iv = .int .i64 0 ∧ wr = w) (fun _ _ _ => 0)
  case atStart => exact ⟨rfl, rfl, rfl⟩
  case round =>
    obtain ⟨rfl, rfl, rfl⟩ := hrel
    go_wp2_with fail
    go_ret
    exact ⟨rfl, rfl⟩

set_option maxRecDepth 40000 in
set_option maxHeartbeats 2000000 in
theorem held_of {n : Nat} (ih : HeldSaid n) : HeldSaid (n + 1) := by
  rintro ks v lo hi k w ⟨a, cap, rfl, h⟩ hhi hk
  by_cases hn : ks = []
  · subst hn
    refine (held_nil a cap k w).mono ?_
    rintro e w' ⟨rfl, rfl⟩
    exact ⟨by simp [sizS], Below.refl _ _⟩
  rcases h with h | ⟨R, rfl, hlo, hRh, hkid⟩
  · exact absurd h hn
  have hlen := len_siz ks
  have HK := hide hkid
  have hRw : R < w.heap.size := by omega
  clear hkid
  go_enter Tryz.func24, Tryz.ntmps24
  go_wp2_with fail
  go_loopw [1, 5] (fun kv iv wr => ∃ i : Nat, i ≤ ks.length ∧ iv = .int .i64 i ∧ kv = .int .i64 ((k + 3 * sizS (ks.take i) : Nat) : Int) ∧ Below w.heap.size w wr) (fun _ iv _ => ks.length - (intOf iv).toNat)
  case atStart => exact ⟨0, Nat.zero_le _, rfl, by simp [sizS], Below.refl _ _⟩
  case round =>
    obtain ⟨i, hil, rfl, rfl, hb⟩ := hrel
    by_cases hlt : i < ks.length
    · obtain ⟨v3, e0, e1, e2, e3, hm3⟩ := unhide HK i hlt
      obtain ⟨a3, cap3, rfl⟩ := hm3.form
      have hsz := sizS_take ks i hlt
      rw [siz_kids] at hsz
      have hsl := sizS_le ks (i + 1)
      obtain ⟨K, hKd⟩ : ∃ K, K = k + 3 * sizS (ks.take i) := ⟨_, rfl⟩
      rw [← hKd] at e0 e1 e2 hm3 ⊢
      have hK : K + 3 + 3 * sizS (kidsOf ks[i]) ≤ 100000000 := by omega
      have HVAL := hide (show ((K + 3 + 3 * sizS (kidsOf ks[i]) : Nat) : Int) = ((k + 3 * sizS (ks.take (i + 1)) : Nat) : Int) by rw [hsz, hKd]; omega)
      rw [show ((K + 1 : Nat) : Int) = (K : Int) + 1 by omega] at e1
      obtain ⟨T, hT⟩ : ∃ T, T = mtext (K + 2) := ⟨_, rfl⟩
      rw [← hT] at e2
      have hmt : ∀ w, Calls Tryz.prog 34 #[.int .i64 ((K : Int) + 1 + 1)] w fun e w' => e = .returned (.string T) ∧ Below w.heap.size w w' := fun w => by
        have := mtext_any (K + 2) w (by omega)
        rw [show ((K + 2 : Nat) : Int) = (K : Int) + 1 + 1 by omega, ← hT] at this
        exact this
      have HMT := hide hmt
      have p0 := (bcell hb R (i * 4) hRw).trans e0
      have p1 := (bcell hb R (i * 4 + 1) hRw).trans e1
      have F2 : ∀ x : LaterW w.heap.size wr, x.wd.cell? ⟨R, i * 4 + 2, none⟩ = some (.string T) := fun x => ((bcell (hb.trans x.be)) R _ hRw).trans e2
      have HB := hide hb
      have HM3 := hide hm3
      have HE3 := hide e3
      clear hKd hsz hsl hT hmt e0 e1 e2 e3 hb hm3
      go_wp2_with fail
      haveI hne : Nonempty (LaterW w.heap.size wr) := ⟨⟨wr, Below.refl _ _⟩⟩
      refine wp_region_later w.heap.size (by kernel_rfl) (by kernel_rfl) ?_
      repeat (go_big_quiet_step ((go_at_call 34; rename_i x; exact Calls.later (v := .string T) (unhide HB).size (unhide HMT x.wd))))
      refine wpQuiet_nil ?_
      rintro wq ⟨⟨_, hq⟩, rfl⟩
      have hb2 := (unhide HB).trans hq
      have p3 := (bcell hb2 R (i * 4 + 3) hRw).trans (unhide HE3)
      have hcall := hide (ih (kidsOf ks[i]) _ lo hi (K + 3) wq ((unhide HM3).keep (fun b _ h2 => hb2.block b (by omega)) (Nat.le_refl _) (Nat.le_refl _)) (by have := hb2.size; omega) hK)
      have HB2 := hide hb2
      clear hb2 p0 p1 F2 hq HB
      go_wp2_with fail
      rw [show (K : Int) + 1 + 1 + 1 = ((K + 3 : Nat) : Int) by omega]
      refine (unhide hcall).mono ?_
      rintro e w5 ⟨rfl, hb5⟩
      rw [unhide HVAL]
      obtain ⟨Z, hZ⟩ : ∃ Z : Int, Z = ((k + 3 * sizS (ks.take (i + 1)) : Nat) : Int) := ⟨_, rfl⟩
      rw [← hZ]
      have hZ0 : ¬ Z < 0 := by omega
      have HZ := hide hZ
      have HB5 := hide ((unhide HB2).trans (hb5.mono (unhide HB2).size))
      clear hb5 p3 hcall hZ
      go_wp2_with fail
      go_roundw
      case rel => exact ⟨i + 1, hlt, by go_num, by rw [unhide HZ], unhide HB5⟩
      case measure => simp [intOf]; omega
    · have hkk : i = ks.length := by omega
      subst hkk
      have HB := hide hb
      clear hb
      go_wp2_with fail
      go_ret
      exact ⟨by simp, unhide HB⟩

theorem held_any : ∀ n, HeldSaid n
  | 0 => fun ks v lo hi k w h _ _ => by
    obtain ⟨a, cap, rfl⟩ := h
    have hn : ks = [] := by
      cases ks with
      | nil => rfl
      | cons t _ => exact t.elim
    subst hn
    refine (held_nil a cap k w).mono ?_
    rintro e w' ⟨rfl, rfl⟩
    exact ⟨by simp [sizS], Below.refl _ _⟩
  | n + 1 => held_of (held_any n)

end Go.Proofs.YtffgdchemjmbmaaGreat
/- The laws' markTerm and heldTerm. -/
namespace Go.Proofs.YtffgdchemjmbmaaGreat
open Go.RowKit Go.Deep

set_option maxRecDepth 40000 in
set_option maxHeartbeats 1000000 in
theorem markTerm_any {n : Nat} (ks : List (Tm n)) (k1 k2 : Int) (s : ByteArray) (a : Option Addr) (l cap lo hi k : Nat) (w : World) (hO : OwnS w n lo hi ks (.slice a l cap)) (hhi : hi ≤ w.heap.size) (hk : k + 3 * sizS ks ≤ 100000000) :
    Calls Tryz.prog 9 #[.agg #[.int .i64 k1, .int .i64 k2, .string s, .slice a l cap], .int .i64 k] w fun e w' => e = .returned (.int .i64 ((k + 3 * sizS ks : Nat) : Int)) ∧ Out lo hi w w' ∧ MkdS w' n lo hi ks (.slice a l cap) k := by
  have hb := (Below.refl w.heap.size w).alloc (Nat.le_refl _) (.cells #[.int .i64 k1, .int .i64 k2, .string s, .slice a l cap] 28)
  have hcall := hide (mark_any n ks (.slice a l cap) lo hi k (w.alloc (.cells #[.int .i64 k1, .int .i64 k2, .string s, .slice a l cap] 28)) (hO.keep fun b _ h2 => hb.block b (by omega)) (by simp; omega) hk)
  have HB := hide hb
  clear hO hb
  go_enter Tryz.func9, Tryz.ntmps9
  go_wp2_with fail
  refine (unhide hcall).mono ?_
  rintro e w1 ⟨rfl, ho, hm⟩
  have HO := hide ho
  have HM := hide hm
  obtain ⟨Z, hZ⟩ : ∃ Z : Int, Z = ((k + 3 * sizS ks : Nat) : Int) := ⟨_, rfl⟩
  rw [← hZ]
  have HZ := hide hZ
  clear ho hm hcall hZ
  go_wp2_with fail
  go_ret
  exact ⟨congrArg (fun z => Ending.returned (Value.int .i64 z)) (unhide HZ), (Out.below (unhide HB)).trans (unhide HO), unhide HM⟩

set_option maxRecDepth 40000 in
set_option maxHeartbeats 1000000 in
theorem heldTerm_any {n : Nat} (ks : List (Tm n)) (k1 k2 : Int) (s : ByteArray) (a : Option Addr) (l cap lo hi k : Nat) (w : World) (hM : MkdS w n lo hi ks (.slice a l cap) k) (hhi : hi ≤ w.heap.size) (hk : k + 3 * sizS ks ≤ 100000000) :
    Calls Tryz.prog 10 #[.agg #[.int .i64 k1, .int .i64 k2, .string s, .slice a l cap], .int .i64 k] w fun e w' => e = .returned (.int .i64 ((k + 3 * sizS ks : Nat) : Int)) ∧ Below w.heap.size w w' := by
  have hb := (Below.refl w.heap.size w).alloc (Nat.le_refl _) (.cells #[.int .i64 k1, .int .i64 k2, .string s, .slice a l cap] 28)
  have hcall := hide (held_any n ks (.slice a l cap) lo hi k (w.alloc (.cells #[.int .i64 k1, .int .i64 k2, .string s, .slice a l cap] 28)) (hM.keep (fun b _ h2 => hb.block b (by omega)) (Nat.le_refl _) (Nat.le_refl _)) (by simp; omega) hk)
  have HB := hide hb
  clear hM hb
  go_enter Tryz.func10, Tryz.ntmps10
  go_wp2_with fail
  refine (unhide hcall).mono ?_
  rintro e w1 ⟨rfl, hb1⟩
  have HB1 := hide ((unhide HB).trans (hb1.mono (by simp)))
  obtain ⟨Z, hZ⟩ : ∃ Z : Int, Z = ((k + 3 * sizS ks : Nat) : Int) := ⟨_, rfl⟩
  rw [← hZ]
  have hZ0 : ¬ Z < 0 := by omega
  have HZ := hide hZ
  clear hb1 hcall hZ
  go_wp2_with fail
  go_ret
  exact ⟨congrArg (fun z => Ending.returned (Value.int .i64 z)) (unhide HZ), unhide HB1⟩

end Go.Proofs.YtffgdchemjmbmaaGreat
/- A term's size is at most its letters and kids and one. -/
namespace Go.Proofs.YtffgdchemjmbmaaGreat
open Go.RowKit Go.Deep

theorem siz_tot : ∀ (n : Nat) (t : Tm n), siz n t ≤ 1 + tot n t
  | 0, t => t.elim
  | n + 1, (k, m, s, ks) => by
    have h : ∀ l : List (Tm n), sizS l ≤ l.length + totS l := by
      intro l
      induction l with
      | nil => simp [sizS, totS]
      | cons t l ih =>
        have h1 := siz_tot n t
        have e1 : sizS (t :: l) = siz n t + sizS l := by simp [sizS]
        have e2 : totS (t :: l) = tot n t + totS l := by simp [totS]
        rw [e1, e2, List.length_cons]; omega
    have := h ks
    show 1 + sizS ks ≤ 1 + (s.size + (ks.length + totS ks))
    omega

end Go.Proofs.YtffgdchemjmbmaaGreat
