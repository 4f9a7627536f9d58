/- The law of Signal: its own walk. -/
import Derived.Test.YtffgdchemjmbmaaGreatQ9
import Derived.Test.YtffgdchemjmbmaaGreatQ8
import Derived.Deep.RegionHeld3
namespace Go.Proofs.YtffgdchemjmbmaaGreat
open Go.RowKit Go.Deep

set_option maxRecDepth 100000 in
set_option maxHeartbeats 4000000 in
theorem law18_any {n : Nat} (trap link : Bool) (t : Tm (n + 1)) (c0 c1 c2 c3 : Value) (w : World) (ht : TAt (Under w.heap.size) w (n + 1) t c0 c1 c2 c3) :
    Calls Tryz.prog 3 #[.bool trap, .bool link, .agg #[c0, c1, c2, c3]] w fun e w' => e = .returned (.bool true) ∧ Below w.heap.size w w' := by
  obtain ⟨pk, pm, ps, pa, pl, pc, rfl, rfl, rfl, rfl⟩ := ht.shape
  have SZ := hide (fun w' (hb : Below w.heap.size w w') => sz_any (n + 1) t _ _ _ _ 1048576 w' (ht.up hb) (by omega) (by omega))
  have TO := hide (fun w' (hb : Below w.heap.size w w') (hl : tot (n + 1) t ≤ 1048576) => toO_any n t _ _ _ _ w' (ht.up hb) hl)
  have BB := hide (Below.refl w.heap.size w)
  clear ht
  by_cases hl : tot (n + 1) t ≤ 1048576
  rotate_left
  · have hle : left (tot (n + 1) t) 1048576 < 0 := by unfold left; split <;> omega
    go_enter Tryz.func3, Tryz.ntmps3
    go_wp2_with fail
    obtain ⟨w1, hw⟩ : ∃ x, x = w.alloc (.cells #[.int .i64 pk, .int .i64 pm, .string ps, .slice pa pl pc] 24) := ⟨_, rfl⟩
    rw [← hw]
    have NP : w1.heap[w.heap.size]? = some (.cells #[.int .i64 pk, .int .i64 pm, .string ps, .slice pa pl pc] 24 (0, 0)) := by rw [hw]; exact heap_new _ _
    have hb : Below w.heap.size w w1 := by rw [hw]; exact newBlock _ _
    have hs : w.heap.size + 1 ≤ w1.heap.size := by rw [hw]; simp
    clear hw
    have ZP := hide (show w.heap.size ≤ w.heap.size from (unhide BB).size)
    replace BB := hide ((unhide BB).trans (hb.mono (unhide BB).size))
    have KP := hide (Kp.refl (lo := w.heap.size) (hi := (w.heap.size + 1)) (w := w1) hs)
    replace NP := hide NP
    clear hb hs
    refine (unhide SZ w1 (unhide BB)).mono ?_
    rintro e w2 ⟨rfl, hb⟩
    replace KP := hide ((unhide KP).call hb)
    replace BB := hide ((unhide BB).trans (hb.mono (unhide BB).size))
    clear hb
    go_wp2_with fail
    go_ret
    exact ⟨rfl, unhide BB⟩
  have hle : left (tot (n + 1) t) 1048576 = 1048576 - (tot (n + 1) t : Int) := by unfold left; split <;> omega
  have hnn : ¬ (1048576 : Int) - (tot (n + 1) t : Int) < 0 := by omega
  rw [hle] at SZ
  replace TO := hide (fun w' hb => unhide TO w' hb hl)
  have hcnt : 1 + 3 * sizS (kidsOf t) ≤ 100000000 := by have h1 := siz_tot (n + 1) t; rw [siz_kids] at h1; omega
  obtain ⟨A1, A2, A3, hA⟩ : ∃ A1 A2 A3, sigA trap link t = (A1, A2, A3) := ⟨_, _, _, rfl⟩
  have hcnt2 : 1 + 3 * sizS (kidsOf A2) ≤ 100000000 := by
    have h1 := siz_tot (n + 1) A2
    rw [siz_kids] at h1
    have h2 := sig_tot trap link t
    rw [hA] at h2
    dsimp only at h2
    omega
  have SP := hide (fun d0 d1 d2 d3 w' (h : TAt (Under w'.heap.size) w' (n + 1) t d0 d1 d2 d3) => sSignal_any trap link t d0 d1 d2 d3 w' h)
  have IM := hide (fun d0 d1 d2 d3 w' (h : TAt (Under w'.heap.size) w' (n + 1) t d0 d1 d2 d3) => iSignal_any trap link t d0 d1 d2 d3 w' h)
  rw [hA] at SP IM
  have HC1 := hide hcnt
  have HC2 := hide hcnt2
  have zz1 : (A1 != A1) = false := by simp
  have zz3 : (A3 != A3) = false := by simp
  obtain ⟨L0, hL0⟩ : ∃ L0, L0 = (1048576 : Int) - (tot (n + 1) t : Int) := ⟨_, rfl⟩
  rw [← hL0] at SZ hnn
  clear hA hcnt hcnt2 hle hl hL0
  go_enter Tryz.func3, Tryz.ntmps3
  go_wp2_with fail
  obtain ⟨w1, hw⟩ : ∃ x, x = w.alloc (.cells #[.int .i64 pk, .int .i64 pm, .string ps, .slice pa pl pc] 24) := ⟨_, rfl⟩
  rw [← hw]
  have NP : w1.heap[w.heap.size]? = some (.cells #[.int .i64 pk, .int .i64 pm, .string ps, .slice pa pl pc] 24 (0, 0)) := by rw [hw]; exact heap_new _ _
  have hb : Below w.heap.size w w1 := by rw [hw]; exact newBlock _ _
  have hs : w.heap.size + 1 ≤ w1.heap.size := by rw [hw]; simp
  clear hw
  have ZP := hide (show w.heap.size ≤ w.heap.size from (unhide BB).size)
  replace BB := hide ((unhide BB).trans (hb.mono (unhide BB).size))
  have KP := hide (Kp.refl (lo := w.heap.size) (hi := (w.heap.size + 1)) (w := w1) hs)
  replace NP := hide NP
  clear hb hs
  refine (unhide SZ w1 (unhide BB)).mono ?_
  rintro e w2 ⟨rfl, hb⟩
  replace KP := hide ((unhide KP).call hb)
  replace BB := hide ((unhide BB).trans (hb.mono (unhide BB).size))
  clear hb
  have hP := (unhide KP).box (unhide NP)
  have gP := past hP (Nat.lt_of_lt_of_le (Nat.lt_succ_self _) (unhide KP).size)
  have P0 : w2.cell? ⟨w.heap.size, 0, none⟩ = some (.int .i64 pk) := cell_of_heap hP 0
  have P0a : ∀ o : Obj, (w2.alloc o).cell? ⟨w.heap.size, 0, none⟩ = some (.int .i64 pk) := fun o => cell_of_heap (gP o) 0
  have P1 : w2.cell? ⟨w.heap.size, 1, none⟩ = some (.int .i64 pm) := cell_of_heap hP 1
  have P1a : ∀ o : Obj, (w2.alloc o).cell? ⟨w.heap.size, 1, none⟩ = some (.int .i64 pm) := fun o => cell_of_heap (gP o) 1
  have P2 : w2.cell? ⟨w.heap.size, 2, none⟩ = some (.string ps) := cell_of_heap hP 2
  have P2a : ∀ o : Obj, (w2.alloc o).cell? ⟨w.heap.size, 2, none⟩ = some (.string ps) := fun o => cell_of_heap (gP o) 2
  have P3 : w2.cell? ⟨w.heap.size, 3, none⟩ = some (.slice pa pl pc) := cell_of_heap hP 3
  have P3a : ∀ o : Obj, (w2.alloc o).cell? ⟨w.heap.size, 3, none⟩ = some (.slice pa pl pc) := fun o => cell_of_heap (gP o) 3
  clear hP gP
  go_wp2_with fail
  clear P0 P0a P1 P1a P2 P2a P3 P3a
  refine (unhide TO w2 (unhide BB)).mono ?_
  rintro e w3 ⟨_, _, _, _, rfl, hd, _, hb⟩
  obtain ⟨qk, qm, qs, qa, ql, qc, rfl, rfl, rfl, rfl⟩ := hd.shape
  replace KP := hide ((unhide KP).call hb)
  replace BB := hide ((unhide BB).trans (hb.mono (unhide BB).size))
  have HT := hide (hd.mono fun b hb => hb.2)
  clear hd hb
  go_wp2_with fail
  refine (unhide SP _ _ _ _ w3 (unhide HT)).mono ?_
  rintro e w4 ⟨hb, _, _, _, _, rfl, hd⟩
  dsimp only at hd ⊢
  obtain ⟨uk, um, us, ua, ul, uc, rfl, rfl, rfl, rfl⟩ := hd.shape
  have DP_U := hide (show (w.heap.size + 1) ≤ w3.heap.size from (unhide KP).size)
  have ZU := hide (show w.heap.size ≤ w3.heap.size from (unhide BB).size)
  replace KP := hide ((unhide KP).call hb)
  replace BB := hide ((unhide BB).trans (hb.mono (unhide BB).size))
  have KU := hide (Kp.refl (lo := w3.heap.size) (hi := w4.heap.size) (w := w4) (Nat.le_refl _))
  have AU := hide hd
  clear hd hb
  clear HT
  have hP := (unhide KP).box (unhide NP)
  have gP := past hP (Nat.lt_of_lt_of_le (Nat.lt_succ_self _) (unhide KP).size)
  have P0 : w4.cell? ⟨w.heap.size, 0, none⟩ = some (.int .i64 pk) := cell_of_heap hP 0
  have P0a : ∀ o : Obj, (w4.alloc o).cell? ⟨w.heap.size, 0, none⟩ = some (.int .i64 pk) := fun o => cell_of_heap (gP o) 0
  have P1 : w4.cell? ⟨w.heap.size, 1, none⟩ = some (.int .i64 pm) := cell_of_heap hP 1
  have P1a : ∀ o : Obj, (w4.alloc o).cell? ⟨w.heap.size, 1, none⟩ = some (.int .i64 pm) := fun o => cell_of_heap (gP o) 1
  have P2 : w4.cell? ⟨w.heap.size, 2, none⟩ = some (.string ps) := cell_of_heap hP 2
  have P2a : ∀ o : Obj, (w4.alloc o).cell? ⟨w.heap.size, 2, none⟩ = some (.string ps) := fun o => cell_of_heap (gP o) 2
  have P3 : w4.cell? ⟨w.heap.size, 3, none⟩ = some (.slice pa pl pc) := cell_of_heap hP 3
  have P3a : ∀ o : Obj, (w4.alloc o).cell? ⟨w.heap.size, 3, none⟩ = some (.slice pa pl pc) := fun o => cell_of_heap (gP o) 3
  clear hP gP
  go_wp2_with fail
  clear P0 P0a P1 P1a P2 P2a P3 P3a
  obtain ⟨w5, hw⟩ : ∃ x, x = w4.alloc (.cells #[.int .i64 uk, .int .i64 um, .string us, .slice ua ul uc] 28) := ⟨_, rfl⟩
  rw [← hw]
  have NUB : w5.heap[w4.heap.size]? = some (.cells #[.int .i64 uk, .int .i64 um, .string us, .slice ua ul uc] 28 (0, 0)) := by rw [hw]; exact heap_new _ _
  have hb : Below w4.heap.size w4 w5 := by rw [hw]; exact newBlock _ _
  have hs : w4.heap.size + 1 ≤ w5.heap.size := by rw [hw]; simp
  clear hw
  have DP_UB := hide (show (w.heap.size + 1) ≤ w4.heap.size from (unhide KP).size)
  have DU_UB := hide (show w4.heap.size ≤ w4.heap.size from (unhide KU).size)
  have ZUB := hide (show w.heap.size ≤ w4.heap.size from (unhide BB).size)
  replace KP := hide ((unhide KP).call hb)
  replace KU := hide ((unhide KU).call hb)
  replace BB := hide ((unhide BB).trans (hb.mono (unhide BB).size))
  have KUB := hide (Kp.refl (lo := w4.heap.size) (hi := (w4.heap.size + 1)) (w := w5) hs)
  replace NUB := hide NUB
  clear hb hs
  refine (unhide TO w5 (unhide BB)).mono ?_
  rintro e w6 ⟨_, _, _, _, rfl, hd, ho, hb⟩
  obtain ⟨xk, xm, xs, xa, xl, xc, rfl, rfl, rfl, rfl⟩ := hd.shape
  have DP_X := hide (show (w.heap.size + 1) ≤ w5.heap.size from (unhide KP).size)
  have DU_X := hide (show w4.heap.size ≤ w5.heap.size from (unhide KU).size)
  have DUB_X := hide (show (w4.heap.size + 1) ≤ w5.heap.size from (unhide KUB).size)
  have ZX := hide (show w.heap.size ≤ w5.heap.size from (unhide BB).size)
  replace KP := hide ((unhide KP).call hb)
  replace KU := hide ((unhide KU).call hb)
  replace KUB := hide ((unhide KUB).call hb)
  replace BB := hide ((unhide BB).trans (hb.mono (unhide BB).size))
  have KX := hide (Kp.refl (lo := w5.heap.size) (hi := w6.heap.size) (w := w6) (Nat.le_refl _))
  have AX := hide hd
  have OX := hide ho
  clear hd ho hb
  have hP := (unhide KP).box (unhide NP)
  have gP := past hP (Nat.lt_of_lt_of_le (Nat.lt_succ_self _) (unhide KP).size)
  have P0 : w6.cell? ⟨w.heap.size, 0, none⟩ = some (.int .i64 pk) := cell_of_heap hP 0
  have P0a : ∀ o : Obj, (w6.alloc o).cell? ⟨w.heap.size, 0, none⟩ = some (.int .i64 pk) := fun o => cell_of_heap (gP o) 0
  have P1 : w6.cell? ⟨w.heap.size, 1, none⟩ = some (.int .i64 pm) := cell_of_heap hP 1
  have P1a : ∀ o : Obj, (w6.alloc o).cell? ⟨w.heap.size, 1, none⟩ = some (.int .i64 pm) := fun o => cell_of_heap (gP o) 1
  have P2 : w6.cell? ⟨w.heap.size, 2, none⟩ = some (.string ps) := cell_of_heap hP 2
  have P2a : ∀ o : Obj, (w6.alloc o).cell? ⟨w.heap.size, 2, none⟩ = some (.string ps) := fun o => cell_of_heap (gP o) 2
  have P3 : w6.cell? ⟨w.heap.size, 3, none⟩ = some (.slice pa pl pc) := cell_of_heap hP 3
  have P3a : ∀ o : Obj, (w6.alloc o).cell? ⟨w.heap.size, 3, none⟩ = some (.slice pa pl pc) := fun o => cell_of_heap (gP o) 3
  clear hP gP
  go_wp2_with fail
  clear P0 P0a P1 P1a P2 P2a P3 P3a
  obtain ⟨w7, hw⟩ : ∃ x, x = w6.alloc (.cells #[.int .i64 xk, .int .i64 xm, .string xs, .slice xa xl xc] 28) := ⟨_, rfl⟩
  rw [← hw]
  have NXB : w7.heap[w6.heap.size]? = some (.cells #[.int .i64 xk, .int .i64 xm, .string xs, .slice xa xl xc] 28 (0, 0)) := by rw [hw]; exact heap_new _ _
  have hb : Below w6.heap.size w6 w7 := by rw [hw]; exact newBlock _ _
  have hs : w6.heap.size + 1 ≤ w7.heap.size := by rw [hw]; simp
  clear hw
  have DP_XB := hide (show (w.heap.size + 1) ≤ w6.heap.size from (unhide KP).size)
  have DU_XB := hide (show w4.heap.size ≤ w6.heap.size from (unhide KU).size)
  have DUB_XB := hide (show (w4.heap.size + 1) ≤ w6.heap.size from (unhide KUB).size)
  have DX_XB := hide (show w6.heap.size ≤ w6.heap.size from (unhide KX).size)
  have ZXB := hide (show w.heap.size ≤ w6.heap.size from (unhide BB).size)
  replace KP := hide ((unhide KP).call hb)
  replace KU := hide ((unhide KU).call hb)
  replace KUB := hide ((unhide KUB).call hb)
  replace KX := hide ((unhide KX).call hb)
  replace BB := hide ((unhide BB).trans (hb.mono (unhide BB).size))
  have KXB := hide (Kp.refl (lo := w6.heap.size) (hi := (w6.heap.size + 1)) (w := w7) hs)
  replace NXB := hide NXB
  clear hb hs
  refine (unhide IM _ _ _ _ w7 ((unhide AX).under (unhide KX))).mono ?_
  rintro e w8 ⟨hb, _, _, _, _, rfl, hd, ho⟩
  dsimp only at hd ho ⊢
  obtain ⟨gk, gm, gs, ga, gl, gc, rfl, rfl, rfl, rfl⟩ := hd.shape
  have DP_V := hide (show (w.heap.size + 1) ≤ w7.heap.size from (unhide KP).size)
  have DU_V := hide (show w4.heap.size ≤ w7.heap.size from (unhide KU).size)
  have DUB_V := hide (show (w4.heap.size + 1) ≤ w7.heap.size from (unhide KUB).size)
  have DX_V := hide (show w6.heap.size ≤ w7.heap.size from (unhide KX).size)
  have DXB_V := hide (show (w6.heap.size + 1) ≤ w7.heap.size from (unhide KXB).size)
  have ZV := hide (show w.heap.size ≤ w7.heap.size from (unhide BB).size)
  replace KP := hide ((unhide KP).call hb)
  replace KU := hide ((unhide KU).call hb)
  replace KUB := hide ((unhide KUB).call hb)
  replace KX := hide ((unhide KX).call hb)
  replace KXB := hide ((unhide KXB).call hb)
  replace BB := hide ((unhide BB).trans (hb.mono (unhide BB).size))
  have KV := hide (Kp.refl (lo := w7.heap.size) (hi := w8.heap.size) (w := w8) (Nat.le_refl _))
  have AV := hide hd
  have OV := hide ho
  clear hd ho hb
  have hUB := (unhide KUB).box (unhide NUB)
  have gUB := past hUB (Nat.lt_of_lt_of_le (Nat.lt_succ_self _) (unhide KUB).size)
  have UB0 : w8.cell? ⟨w4.heap.size, 0, none⟩ = some (.int .i64 uk) := cell_of_heap hUB 0
  have UB0a : ∀ o : Obj, (w8.alloc o).cell? ⟨w4.heap.size, 0, none⟩ = some (.int .i64 uk) := fun o => cell_of_heap (gUB o) 0
  have UB1 : w8.cell? ⟨w4.heap.size, 1, none⟩ = some (.int .i64 um) := cell_of_heap hUB 1
  have UB1a : ∀ o : Obj, (w8.alloc o).cell? ⟨w4.heap.size, 1, none⟩ = some (.int .i64 um) := fun o => cell_of_heap (gUB o) 1
  have UB2 : w8.cell? ⟨w4.heap.size, 2, none⟩ = some (.string us) := cell_of_heap hUB 2
  have UB2a : ∀ o : Obj, (w8.alloc o).cell? ⟨w4.heap.size, 2, none⟩ = some (.string us) := fun o => cell_of_heap (gUB o) 2
  have UB3 : w8.cell? ⟨w4.heap.size, 3, none⟩ = some (.slice ua ul uc) := cell_of_heap hUB 3
  have UB3a : ∀ o : Obj, (w8.alloc o).cell? ⟨w4.heap.size, 3, none⟩ = some (.slice ua ul uc) := fun o => cell_of_heap (gUB o) 3
  clear hUB gUB
  go_wp2_with fail
  clear UB0 UB0a UB1 UB1a UB2 UB2a UB3 UB3a
  obtain ⟨w9, hw⟩ : ∃ x, x = w8.alloc (.cells #[.int .i64 gk, .int .i64 gm, .string gs, .slice ga gl gc] 28) := ⟨_, rfl⟩
  rw [← hw]
  have NVB : w9.heap[w8.heap.size]? = some (.cells #[.int .i64 gk, .int .i64 gm, .string gs, .slice ga gl gc] 28 (0, 0)) := by rw [hw]; exact heap_new _ _
  have hb : Below w8.heap.size w8 w9 := by rw [hw]; exact newBlock _ _
  have hs : w8.heap.size + 1 ≤ w9.heap.size := by rw [hw]; simp
  clear hw
  have DP_VB := hide (show (w.heap.size + 1) ≤ w8.heap.size from (unhide KP).size)
  have DU_VB := hide (show w4.heap.size ≤ w8.heap.size from (unhide KU).size)
  have DUB_VB := hide (show (w4.heap.size + 1) ≤ w8.heap.size from (unhide KUB).size)
  have DX_VB := hide (show w6.heap.size ≤ w8.heap.size from (unhide KX).size)
  have DXB_VB := hide (show (w6.heap.size + 1) ≤ w8.heap.size from (unhide KXB).size)
  have DV_VB := hide (show w8.heap.size ≤ w8.heap.size from (unhide KV).size)
  have ZVB := hide (show w.heap.size ≤ w8.heap.size from (unhide BB).size)
  replace KP := hide ((unhide KP).call hb)
  replace KU := hide ((unhide KU).call hb)
  replace KUB := hide ((unhide KUB).call hb)
  replace KX := hide ((unhide KX).call hb)
  replace KXB := hide ((unhide KXB).call hb)
  replace KV := hide ((unhide KV).call hb)
  replace BB := hide ((unhide BB).trans (hb.mono (unhide BB).size))
  have KVB := hide (Kp.refl (lo := w8.heap.size) (hi := (w8.heap.size + 1)) (w := w9) hs)
  replace NVB := hide NVB
  clear hb hs
  refine (eq_any (n + 1) A2 _ _ _ _ _ _ _ _ w9 ((unhide AV).under (unhide KV)) ((unhide AU).under (unhide KU))).mono ?_
  rintro e w10 ⟨rfl, hb⟩
  replace KP := hide ((unhide KP).call hb)
  replace KU := hide ((unhide KU).call hb)
  replace KUB := hide ((unhide KUB).call hb)
  replace KX := hide ((unhide KX).call hb)
  replace KXB := hide ((unhide KXB).call hb)
  replace KV := hide ((unhide KV).call hb)
  replace KVB := hide ((unhide KVB).call hb)
  replace BB := hide ((unhide BB).trans (hb.mono (unhide BB).size))
  clear hb
  go_wp2_with fail
  have hXB := (unhide KXB).box (unhide NXB)
  have XB0 : w10.cell? ⟨w6.heap.size, 0, none⟩ = some (.int .i64 xk) := cell_of_heap hXB 0
  have XB1 : w10.cell? ⟨w6.heap.size, 1, none⟩ = some (.int .i64 xm) := cell_of_heap hXB 1
  have XB2 : w10.cell? ⟨w6.heap.size, 2, none⟩ = some (.string xs) := cell_of_heap hXB 2
  have XB3 : w10.cell? ⟨w6.heap.size, 3, none⟩ = some (.slice xa xl xc) := cell_of_heap hXB 3
  clear hXB
  have hP := (unhide KP).box (unhide NP)
  have P0 : w10.cell? ⟨w.heap.size, 0, none⟩ = some (.int .i64 pk) := cell_of_heap hP 0
  have P1 : w10.cell? ⟨w.heap.size, 1, none⟩ = some (.int .i64 pm) := cell_of_heap hP 1
  have P2 : w10.cell? ⟨w.heap.size, 2, none⟩ = some (.string ps) := cell_of_heap hP 2
  have P3 : w10.cell? ⟨w.heap.size, 3, none⟩ = some (.slice pa pl pc) := cell_of_heap hP 3
  clear hP
  go_region_held3 (fun W => W.cell? ⟨w6.heap.size, 0, none⟩ = some (.int .i64 xk) ∧ W.cell? ⟨w6.heap.size, 1, none⟩ = some (.int .i64 xm) ∧ W.cell? ⟨w6.heap.size, 2, none⟩ = some (.string xs) ∧ W.cell? ⟨w6.heap.size, 3, none⟩ = some (.slice xa xl xc) ∧ W.cell? ⟨w.heap.size, 0, none⟩ = some (.int .i64 pk) ∧ W.cell? ⟨w.heap.size, 1, none⟩ = some (.int .i64 pm) ∧ W.cell? ⟨w.heap.size, 2, none⟩ = some (.string ps) ∧ W.cell? ⟨w.heap.size, 3, none⟩ = some (.slice pa pl pc))
    (first | exact ⟨XB0, XB1, XB2, XB3, P0, P1, P2, P3⟩ | exact ⟨j0, j1, j2, j3, j4, j5, j6, j7⟩)
    (first
      | (go_at_call 6; refine (unhide TO w10.drew (unhide BB).drew).mono ?_; rintro e wa ⟨_, _, _, _, rfl, hd, _, hb0⟩; have hb : Below w10.heap.size w10 wa := ((Below.refl w10.heap.size w10).drew).trans hb0; have j0 := (World.cell?_of_block (w := w10) (hb.block w6.heap.size (Nat.lt_of_lt_of_le (Nat.lt_succ_self _) (unhide KXB).size))).trans XB0; have j1 := (World.cell?_of_block (w := w10) (hb.block w6.heap.size (Nat.lt_of_lt_of_le (Nat.lt_succ_self _) (unhide KXB).size))).trans XB1; have j2 := (World.cell?_of_block (w := w10) (hb.block w6.heap.size (Nat.lt_of_lt_of_le (Nat.lt_succ_self _) (unhide KXB).size))).trans XB2; have j3 := (World.cell?_of_block (w := w10) (hb.block w6.heap.size (Nat.lt_of_lt_of_le (Nat.lt_succ_self _) (unhide KXB).size))).trans XB3; have j4 := (World.cell?_of_block (w := w10) (hb.block w.heap.size (Nat.lt_of_lt_of_le (Nat.lt_succ_self _) (unhide KP).size))).trans P0; have j5 := (World.cell?_of_block (w := w10) (hb.block w.heap.size (Nat.lt_of_lt_of_le (Nat.lt_succ_self _) (unhide KP).size))).trans P1; have j6 := (World.cell?_of_block (w := w10) (hb.block w.heap.size (Nat.lt_of_lt_of_le (Nat.lt_succ_self _) (unhide KP).size))).trans P2; have j7 := (World.cell?_of_block (w := w10) (hb.block w.heap.size (Nat.lt_of_lt_of_le (Nat.lt_succ_self _) (unhide KP).size))).trans P3; have HD := hide (hd.mono fun b hb => hb.2); have HA := hide hb; have KX' := hide ((unhide KX).call (wi := w10) (wj := wa) hb); clear hb hb0 hd)
      | (go_at_call 8; refine (eq_any (n + 1) t _ _ _ _ _ _ _ _ wa ((unhide AX).under (unhide KX')) (unhide HD)).mono ?_; rintro e w11 ⟨rfl, hb⟩; have j0 := (World.cell?_of_block (w := wa) (hb.block w6.heap.size (Nat.lt_of_lt_of_le (Nat.lt_of_lt_of_le (Nat.lt_succ_self _) (unhide KXB).size) (unhide HA).size))).trans j0; have j1 := (World.cell?_of_block (w := wa) (hb.block w6.heap.size (Nat.lt_of_lt_of_le (Nat.lt_of_lt_of_le (Nat.lt_succ_self _) (unhide KXB).size) (unhide HA).size))).trans j1; have j2 := (World.cell?_of_block (w := wa) (hb.block w6.heap.size (Nat.lt_of_lt_of_le (Nat.lt_of_lt_of_le (Nat.lt_succ_self _) (unhide KXB).size) (unhide HA).size))).trans j2; have j3 := (World.cell?_of_block (w := wa) (hb.block w6.heap.size (Nat.lt_of_lt_of_le (Nat.lt_of_lt_of_le (Nat.lt_succ_self _) (unhide KXB).size) (unhide HA).size))).trans j3; have j4 := (World.cell?_of_block (w := wa) (hb.block w.heap.size (Nat.lt_of_lt_of_le (Nat.lt_of_lt_of_le (Nat.lt_succ_self _) (unhide KP).size) (unhide HA).size))).trans j4; have j5 := (World.cell?_of_block (w := wa) (hb.block w.heap.size (Nat.lt_of_lt_of_le (Nat.lt_of_lt_of_le (Nat.lt_succ_self _) (unhide KP).size) (unhide HA).size))).trans j5; have j6 := (World.cell?_of_block (w := wa) (hb.block w.heap.size (Nat.lt_of_lt_of_le (Nat.lt_of_lt_of_le (Nat.lt_succ_self _) (unhide KP).size) (unhide HA).size))).trans j6; have j7 := (World.cell?_of_block (w := wa) (hb.block w.heap.size (Nat.lt_of_lt_of_le (Nat.lt_of_lt_of_le (Nat.lt_succ_self _) (unhide KP).size) (unhide HA).size))).trans j7; have HB := hide hb; clear hb))
  clear XB0 XB1 XB2 XB3 P0 P1 P2 P3 j0 j1 j2 j3 j4 j5 j6 j7 HD KX'
  have hb := (unhide HA).trans ((unhide HB).mono (unhide HA).size)
  clear HA HB
  replace KP := hide ((unhide KP).call hb)
  replace KU := hide ((unhide KU).call hb)
  replace KUB := hide ((unhide KUB).call hb)
  replace KX := hide ((unhide KX).call hb)
  replace KXB := hide ((unhide KXB).call hb)
  replace KV := hide ((unhide KV).call hb)
  replace KVB := hide ((unhide KVB).call hb)
  replace BB := hide ((unhide BB).trans (hb.mono (unhide BB).size))
  clear hb
  have hXB := (unhide KXB).box (unhide NXB)
  have gXB := past hXB (Nat.lt_of_lt_of_le (Nat.lt_succ_self _) (unhide KXB).size)
  have XB0 : w11.cell? ⟨w6.heap.size, 0, none⟩ = some (.int .i64 xk) := cell_of_heap hXB 0
  have XB0a : ∀ o : Obj, (w11.alloc o).cell? ⟨w6.heap.size, 0, none⟩ = some (.int .i64 xk) := fun o => cell_of_heap (gXB o) 0
  have XB1 : w11.cell? ⟨w6.heap.size, 1, none⟩ = some (.int .i64 xm) := cell_of_heap hXB 1
  have XB1a : ∀ o : Obj, (w11.alloc o).cell? ⟨w6.heap.size, 1, none⟩ = some (.int .i64 xm) := fun o => cell_of_heap (gXB o) 1
  have XB2 : w11.cell? ⟨w6.heap.size, 2, none⟩ = some (.string xs) := cell_of_heap hXB 2
  have XB2a : ∀ o : Obj, (w11.alloc o).cell? ⟨w6.heap.size, 2, none⟩ = some (.string xs) := fun o => cell_of_heap (gXB o) 2
  have XB3 : w11.cell? ⟨w6.heap.size, 3, none⟩ = some (.slice xa xl xc) := cell_of_heap hXB 3
  have XB3a : ∀ o : Obj, (w11.alloc o).cell? ⟨w6.heap.size, 3, none⟩ = some (.slice xa xl xc) := fun o => cell_of_heap (gXB o) 3
  clear hXB gXB
  go_wp2_with fail
  clear XB0 XB0a XB1 XB1a XB2 XB2a XB3 XB3a
  have HM := hide (markTerm_any (kidsOf t) xk xm xs xa xl xc w5.heap.size w6.heap.size 1 w11 ((unhide OX).keep fun b h1 h2 => (unhide KX).blk b h1 h2) (unhide KX).size (unhide HC1) : Calls Tryz.prog 9 #[.agg #[.int .i64 xk, .int .i64 xm, .string xs, .slice xa xl xc], .int .i64 1] w11 _)
  refine (unhide HM).mono ?_
  rintro e w12 ⟨rfl, ho, hm⟩
  clear HM
  obtain ⟨MX, hM⟩ : ∃ M : Int, M = ((1 + 3 * sizS (kidsOf t) : Nat) : Int) := ⟨_, rfl⟩
  rw [← hM]
  have m0X : ¬ MX < 0 := by omega
  have m1X : (MX != MX) = false := by simp
  replace KP := hide ((unhide KP).out ho (.inl (unhide DP_X)))
  replace KU := hide ((unhide KU).out ho (.inl (unhide DU_X)))
  replace KUB := hide ((unhide KUB).out ho (.inl (unhide DUB_X)))
  replace KXB := hide ((unhide KXB).out ho (.inr (unhide DX_XB)))
  replace KV := hide ((unhide KV).out ho (.inr (unhide DX_V)))
  replace KVB := hide ((unhide KVB).out ho (.inr (unhide DX_VB)))
  replace BB := hide ((unhide BB).trans (ho.base (B := w.heap.size) (unhide ZX) (unhide BB).size))
  replace KX := hide (Kp.refl (lo := w5.heap.size) (hi := w6.heap.size) (w := w12) (Nat.le_trans (unhide KX).size ho.size))
  have M1X := hide hm
  have MEX := hide hM
  clear ho hm hM
  have hUB := (unhide KUB).box (unhide NUB)
  have gUB := past hUB (Nat.lt_of_lt_of_le (Nat.lt_succ_self _) (unhide KUB).size)
  have UB0 : w12.cell? ⟨w4.heap.size, 0, none⟩ = some (.int .i64 uk) := cell_of_heap hUB 0
  have UB0a : ∀ o : Obj, (w12.alloc o).cell? ⟨w4.heap.size, 0, none⟩ = some (.int .i64 uk) := fun o => cell_of_heap (gUB o) 0
  have UB1 : w12.cell? ⟨w4.heap.size, 1, none⟩ = some (.int .i64 um) := cell_of_heap hUB 1
  have UB1a : ∀ o : Obj, (w12.alloc o).cell? ⟨w4.heap.size, 1, none⟩ = some (.int .i64 um) := fun o => cell_of_heap (gUB o) 1
  have UB2 : w12.cell? ⟨w4.heap.size, 2, none⟩ = some (.string us) := cell_of_heap hUB 2
  have UB2a : ∀ o : Obj, (w12.alloc o).cell? ⟨w4.heap.size, 2, none⟩ = some (.string us) := fun o => cell_of_heap (gUB o) 2
  have UB3 : w12.cell? ⟨w4.heap.size, 3, none⟩ = some (.slice ua ul uc) := cell_of_heap hUB 3
  have UB3a : ∀ o : Obj, (w12.alloc o).cell? ⟨w4.heap.size, 3, none⟩ = some (.slice ua ul uc) := fun o => cell_of_heap (gUB o) 3
  clear hUB gUB
  have hVB := (unhide KVB).box (unhide NVB)
  have gVB := past hVB (Nat.lt_of_lt_of_le (Nat.lt_succ_self _) (unhide KVB).size)
  have VB0 : w12.cell? ⟨w8.heap.size, 0, none⟩ = some (.int .i64 gk) := cell_of_heap hVB 0
  have VB0a : ∀ o : Obj, (w12.alloc o).cell? ⟨w8.heap.size, 0, none⟩ = some (.int .i64 gk) := fun o => cell_of_heap (gVB o) 0
  have VB1 : w12.cell? ⟨w8.heap.size, 1, none⟩ = some (.int .i64 gm) := cell_of_heap hVB 1
  have VB1a : ∀ o : Obj, (w12.alloc o).cell? ⟨w8.heap.size, 1, none⟩ = some (.int .i64 gm) := fun o => cell_of_heap (gVB o) 1
  have VB2 : w12.cell? ⟨w8.heap.size, 2, none⟩ = some (.string gs) := cell_of_heap hVB 2
  have VB2a : ∀ o : Obj, (w12.alloc o).cell? ⟨w8.heap.size, 2, none⟩ = some (.string gs) := fun o => cell_of_heap (gVB o) 2
  have VB3 : w12.cell? ⟨w8.heap.size, 3, none⟩ = some (.slice ga gl gc) := cell_of_heap hVB 3
  have VB3a : ∀ o : Obj, (w12.alloc o).cell? ⟨w8.heap.size, 3, none⟩ = some (.slice ga gl gc) := fun o => cell_of_heap (gVB o) 3
  clear hVB gVB
  go_wp2_with fail
  clear UB0 UB0a UB1 UB1a UB2 UB2a UB3 UB3a VB0 VB0a VB1 VB1a VB2 VB2a VB3 VB3a
  refine (eq_any (n + 1) A2 _ _ _ _ _ _ _ _ w12 ((unhide AV).under (unhide KV)) ((unhide AU).under (unhide KU))).mono ?_
  rintro e w13 ⟨rfl, hb⟩
  replace KP := hide ((unhide KP).call hb)
  replace KU := hide ((unhide KU).call hb)
  replace KUB := hide ((unhide KUB).call hb)
  replace KX := hide ((unhide KX).call hb)
  replace KXB := hide ((unhide KXB).call hb)
  replace KV := hide ((unhide KV).call hb)
  replace KVB := hide ((unhide KVB).call hb)
  replace BB := hide ((unhide BB).trans (hb.mono (unhide BB).size))
  clear hb
  have hVB := (unhide KVB).box (unhide NVB)
  have gVB := past hVB (Nat.lt_of_lt_of_le (Nat.lt_succ_self _) (unhide KVB).size)
  have VB0 : w13.cell? ⟨w8.heap.size, 0, none⟩ = some (.int .i64 gk) := cell_of_heap hVB 0
  have VB0a : ∀ o : Obj, (w13.alloc o).cell? ⟨w8.heap.size, 0, none⟩ = some (.int .i64 gk) := fun o => cell_of_heap (gVB o) 0
  have VB1 : w13.cell? ⟨w8.heap.size, 1, none⟩ = some (.int .i64 gm) := cell_of_heap hVB 1
  have VB1a : ∀ o : Obj, (w13.alloc o).cell? ⟨w8.heap.size, 1, none⟩ = some (.int .i64 gm) := fun o => cell_of_heap (gVB o) 1
  have VB2 : w13.cell? ⟨w8.heap.size, 2, none⟩ = some (.string gs) := cell_of_heap hVB 2
  have VB2a : ∀ o : Obj, (w13.alloc o).cell? ⟨w8.heap.size, 2, none⟩ = some (.string gs) := fun o => cell_of_heap (gVB o) 2
  have VB3 : w13.cell? ⟨w8.heap.size, 3, none⟩ = some (.slice ga gl gc) := cell_of_heap hVB 3
  have VB3a : ∀ o : Obj, (w13.alloc o).cell? ⟨w8.heap.size, 3, none⟩ = some (.slice ga gl gc) := fun o => cell_of_heap (gVB o) 3
  clear hVB gVB
  go_wp2_with fail
  clear VB0 VB0a VB1 VB1a VB2 VB2a VB3 VB3a
  have HM := hide (markTerm_any (kidsOf A2) gk gm gs ga gl gc w7.heap.size w8.heap.size 1 w13 ((unhide OV).keep fun b h1 h2 => (unhide KV).blk b h1 h2) (unhide KV).size (unhide HC2) : Calls Tryz.prog 9 #[.agg #[.int .i64 gk, .int .i64 gm, .string gs, .slice ga gl gc], .int .i64 1] w13 _)
  refine (unhide HM).mono ?_
  rintro e w14 ⟨rfl, ho, hm⟩
  clear HM
  obtain ⟨MV, hM⟩ : ∃ M : Int, M = ((1 + 3 * sizS (kidsOf A2) : Nat) : Int) := ⟨_, rfl⟩
  rw [← hM]
  have m0V : ¬ MV < 0 := by omega
  have m1V : (MV != MV) = false := by simp
  replace KP := hide ((unhide KP).out ho (.inl (unhide DP_V)))
  replace KU := hide ((unhide KU).out ho (.inl (unhide DU_V)))
  replace KUB := hide ((unhide KUB).out ho (.inl (unhide DUB_V)))
  replace KX := hide ((unhide KX).out ho (.inl (unhide DX_V)))
  replace KXB := hide ((unhide KXB).out ho (.inl (unhide DXB_V)))
  replace KVB := hide ((unhide KVB).out ho (.inr (unhide DV_VB)))
  replace BB := hide ((unhide BB).trans (ho.base (B := w.heap.size) (unhide ZV) (unhide BB).size))
  replace KV := hide (Kp.refl (lo := w7.heap.size) (hi := w8.heap.size) (w := w14) (Nat.le_trans (unhide KV).size ho.size))
  have M1V := hide hm
  have MEV := hide hM
  clear ho hm hM
  have hVB := (unhide KVB).box (unhide NVB)
  have gVB := past hVB (Nat.lt_of_lt_of_le (Nat.lt_succ_self _) (unhide KVB).size)
  have VB0 : w14.cell? ⟨w8.heap.size, 0, none⟩ = some (.int .i64 gk) := cell_of_heap hVB 0
  have VB0a : ∀ o : Obj, (w14.alloc o).cell? ⟨w8.heap.size, 0, none⟩ = some (.int .i64 gk) := fun o => cell_of_heap (gVB o) 0
  have VB1 : w14.cell? ⟨w8.heap.size, 1, none⟩ = some (.int .i64 gm) := cell_of_heap hVB 1
  have VB1a : ∀ o : Obj, (w14.alloc o).cell? ⟨w8.heap.size, 1, none⟩ = some (.int .i64 gm) := fun o => cell_of_heap (gVB o) 1
  have VB2 : w14.cell? ⟨w8.heap.size, 2, none⟩ = some (.string gs) := cell_of_heap hVB 2
  have VB2a : ∀ o : Obj, (w14.alloc o).cell? ⟨w8.heap.size, 2, none⟩ = some (.string gs) := fun o => cell_of_heap (gVB o) 2
  have VB3 : w14.cell? ⟨w8.heap.size, 3, none⟩ = some (.slice ga gl gc) := cell_of_heap hVB 3
  have VB3a : ∀ o : Obj, (w14.alloc o).cell? ⟨w8.heap.size, 3, none⟩ = some (.slice ga gl gc) := fun o => cell_of_heap (gVB o) 3
  clear hVB gVB
  go_wp2_with fail
  clear VB0 VB0a VB1 VB1a VB2 VB2a VB3 VB3a
  have HM := hide (heldTerm_any (kidsOf A2) gk gm gs ga gl gc w7.heap.size w8.heap.size 1 w14 ((unhide M1V).keep (fun b h1 h2 => (unhide KV).blk b h1 h2) (Nat.le_refl _) (Nat.le_refl _)) (unhide KV).size (unhide HC2) : Calls Tryz.prog 10 #[.agg #[.int .i64 gk, .int .i64 gm, .string gs, .slice ga gl gc], .int .i64 1] w14 _)
  refine (unhide HM).mono ?_
  rintro e w15 ⟨rfl, hb⟩
  clear HM
  rw [← unhide MEV]
  replace KP := hide ((unhide KP).call hb)
  replace KU := hide ((unhide KU).call hb)
  replace KUB := hide ((unhide KUB).call hb)
  replace KX := hide ((unhide KX).call hb)
  replace KXB := hide ((unhide KXB).call hb)
  replace KV := hide ((unhide KV).call hb)
  replace KVB := hide ((unhide KVB).call hb)
  replace BB := hide ((unhide BB).trans (hb.mono (unhide BB).size))
  clear hb
  have hP := (unhide KP).box (unhide NP)
  have gP := past hP (Nat.lt_of_lt_of_le (Nat.lt_succ_self _) (unhide KP).size)
  have P0 : w15.cell? ⟨w.heap.size, 0, none⟩ = some (.int .i64 pk) := cell_of_heap hP 0
  have P0a : ∀ o : Obj, (w15.alloc o).cell? ⟨w.heap.size, 0, none⟩ = some (.int .i64 pk) := fun o => cell_of_heap (gP o) 0
  have P1 : w15.cell? ⟨w.heap.size, 1, none⟩ = some (.int .i64 pm) := cell_of_heap hP 1
  have P1a : ∀ o : Obj, (w15.alloc o).cell? ⟨w.heap.size, 1, none⟩ = some (.int .i64 pm) := fun o => cell_of_heap (gP o) 1
  have P2 : w15.cell? ⟨w.heap.size, 2, none⟩ = some (.string ps) := cell_of_heap hP 2
  have P2a : ∀ o : Obj, (w15.alloc o).cell? ⟨w.heap.size, 2, none⟩ = some (.string ps) := fun o => cell_of_heap (gP o) 2
  have P3 : w15.cell? ⟨w.heap.size, 3, none⟩ = some (.slice pa pl pc) := cell_of_heap hP 3
  have P3a : ∀ o : Obj, (w15.alloc o).cell? ⟨w.heap.size, 3, none⟩ = some (.slice pa pl pc) := fun o => cell_of_heap (gP o) 3
  clear hP gP
  go_wp2_with fail
  clear P0 P0a P1 P1a P2 P2a P3 P3a
  refine (unhide TO w15 (unhide BB)).mono ?_
  rintro e w16 ⟨_, _, _, _, rfl, hd, _, hb⟩
  obtain ⟨yk, ym, ys, ya, yl, yc, rfl, rfl, rfl, rfl⟩ := hd.shape
  replace KP := hide ((unhide KP).call hb)
  replace KU := hide ((unhide KU).call hb)
  replace KUB := hide ((unhide KUB).call hb)
  replace KX := hide ((unhide KX).call hb)
  replace KXB := hide ((unhide KXB).call hb)
  replace KV := hide ((unhide KV).call hb)
  replace KVB := hide ((unhide KVB).call hb)
  replace BB := hide ((unhide BB).trans (hb.mono (unhide BB).size))
  have HT := hide (hd.mono fun b hb => hb.2)
  clear hd hb
  go_wp2_with fail
  refine (unhide IM _ _ _ _ w16 (unhide HT)).mono ?_
  rintro e w17 ⟨hb, _, _, _, _, rfl, hd, ho⟩
  dsimp only at hd ho ⊢
  obtain ⟨zk, zm, zs, za, zl, zc, rfl, rfl, rfl, rfl⟩ := hd.shape
  have DP_H := hide (show (w.heap.size + 1) ≤ w16.heap.size from (unhide KP).size)
  have DU_H := hide (show w4.heap.size ≤ w16.heap.size from (unhide KU).size)
  have DUB_H := hide (show (w4.heap.size + 1) ≤ w16.heap.size from (unhide KUB).size)
  have DX_H := hide (show w6.heap.size ≤ w16.heap.size from (unhide KX).size)
  have DXB_H := hide (show (w6.heap.size + 1) ≤ w16.heap.size from (unhide KXB).size)
  have DV_H := hide (show w8.heap.size ≤ w16.heap.size from (unhide KV).size)
  have DVB_H := hide (show (w8.heap.size + 1) ≤ w16.heap.size from (unhide KVB).size)
  have ZH := hide (show w.heap.size ≤ w16.heap.size from (unhide BB).size)
  replace KP := hide ((unhide KP).call hb)
  replace KU := hide ((unhide KU).call hb)
  replace KUB := hide ((unhide KUB).call hb)
  replace KX := hide ((unhide KX).call hb)
  replace KXB := hide ((unhide KXB).call hb)
  replace KV := hide ((unhide KV).call hb)
  replace KVB := hide ((unhide KVB).call hb)
  replace BB := hide ((unhide BB).trans (hb.mono (unhide BB).size))
  have KH := hide (Kp.refl (lo := w16.heap.size) (hi := w17.heap.size) (w := w17) (Nat.le_refl _))
  have AH := hide hd
  have OH := hide ho
  clear hd ho hb
  clear HT
  have hUB := (unhide KUB).box (unhide NUB)
  have gUB := past hUB (Nat.lt_of_lt_of_le (Nat.lt_succ_self _) (unhide KUB).size)
  have UB0 : w17.cell? ⟨w4.heap.size, 0, none⟩ = some (.int .i64 uk) := cell_of_heap hUB 0
  have UB0a : ∀ o : Obj, (w17.alloc o).cell? ⟨w4.heap.size, 0, none⟩ = some (.int .i64 uk) := fun o => cell_of_heap (gUB o) 0
  have UB1 : w17.cell? ⟨w4.heap.size, 1, none⟩ = some (.int .i64 um) := cell_of_heap hUB 1
  have UB1a : ∀ o : Obj, (w17.alloc o).cell? ⟨w4.heap.size, 1, none⟩ = some (.int .i64 um) := fun o => cell_of_heap (gUB o) 1
  have UB2 : w17.cell? ⟨w4.heap.size, 2, none⟩ = some (.string us) := cell_of_heap hUB 2
  have UB2a : ∀ o : Obj, (w17.alloc o).cell? ⟨w4.heap.size, 2, none⟩ = some (.string us) := fun o => cell_of_heap (gUB o) 2
  have UB3 : w17.cell? ⟨w4.heap.size, 3, none⟩ = some (.slice ua ul uc) := cell_of_heap hUB 3
  have UB3a : ∀ o : Obj, (w17.alloc o).cell? ⟨w4.heap.size, 3, none⟩ = some (.slice ua ul uc) := fun o => cell_of_heap (gUB o) 3
  clear hUB gUB
  go_wp2_with fail
  clear UB0 UB0a UB1 UB1a UB2 UB2a UB3 UB3a
  obtain ⟨w18, hw⟩ : ∃ x, x = w17.alloc (.cells #[.int .i64 zk, .int .i64 zm, .string zs, .slice za zl zc] 28) := ⟨_, rfl⟩
  rw [← hw]
  have NHB : w18.heap[w17.heap.size]? = some (.cells #[.int .i64 zk, .int .i64 zm, .string zs, .slice za zl zc] 28 (0, 0)) := by rw [hw]; exact heap_new _ _
  have hb : Below w17.heap.size w17 w18 := by rw [hw]; exact newBlock _ _
  have hs : w17.heap.size + 1 ≤ w18.heap.size := by rw [hw]; simp
  clear hw
  have DP_HB := hide (show (w.heap.size + 1) ≤ w17.heap.size from (unhide KP).size)
  have DU_HB := hide (show w4.heap.size ≤ w17.heap.size from (unhide KU).size)
  have DUB_HB := hide (show (w4.heap.size + 1) ≤ w17.heap.size from (unhide KUB).size)
  have DX_HB := hide (show w6.heap.size ≤ w17.heap.size from (unhide KX).size)
  have DXB_HB := hide (show (w6.heap.size + 1) ≤ w17.heap.size from (unhide KXB).size)
  have DV_HB := hide (show w8.heap.size ≤ w17.heap.size from (unhide KV).size)
  have DVB_HB := hide (show (w8.heap.size + 1) ≤ w17.heap.size from (unhide KVB).size)
  have DH_HB := hide (show w17.heap.size ≤ w17.heap.size from (unhide KH).size)
  have ZHB := hide (show w.heap.size ≤ w17.heap.size from (unhide BB).size)
  replace KP := hide ((unhide KP).call hb)
  replace KU := hide ((unhide KU).call hb)
  replace KUB := hide ((unhide KUB).call hb)
  replace KX := hide ((unhide KX).call hb)
  replace KXB := hide ((unhide KXB).call hb)
  replace KV := hide ((unhide KV).call hb)
  replace KVB := hide ((unhide KVB).call hb)
  replace KH := hide ((unhide KH).call hb)
  replace BB := hide ((unhide BB).trans (hb.mono (unhide BB).size))
  have KHB := hide (Kp.refl (lo := w17.heap.size) (hi := (w17.heap.size + 1)) (w := w18) hs)
  replace NHB := hide NHB
  clear hb hs
  refine (eq_any (n + 1) A2 _ _ _ _ _ _ _ _ w18 ((unhide AH).under (unhide KH)) ((unhide AU).under (unhide KU))).mono ?_
  rintro e w19 ⟨rfl, hb⟩
  replace KP := hide ((unhide KP).call hb)
  replace KU := hide ((unhide KU).call hb)
  replace KUB := hide ((unhide KUB).call hb)
  replace KX := hide ((unhide KX).call hb)
  replace KXB := hide ((unhide KXB).call hb)
  replace KV := hide ((unhide KV).call hb)
  replace KVB := hide ((unhide KVB).call hb)
  replace KH := hide ((unhide KH).call hb)
  replace KHB := hide ((unhide KHB).call hb)
  replace BB := hide ((unhide BB).trans (hb.mono (unhide BB).size))
  clear hb
  have hVB := (unhide KVB).box (unhide NVB)
  have gVB := past hVB (Nat.lt_of_lt_of_le (Nat.lt_succ_self _) (unhide KVB).size)
  have VB0 : w19.cell? ⟨w8.heap.size, 0, none⟩ = some (.int .i64 gk) := cell_of_heap hVB 0
  have VB0a : ∀ o : Obj, (w19.alloc o).cell? ⟨w8.heap.size, 0, none⟩ = some (.int .i64 gk) := fun o => cell_of_heap (gVB o) 0
  have VB1 : w19.cell? ⟨w8.heap.size, 1, none⟩ = some (.int .i64 gm) := cell_of_heap hVB 1
  have VB1a : ∀ o : Obj, (w19.alloc o).cell? ⟨w8.heap.size, 1, none⟩ = some (.int .i64 gm) := fun o => cell_of_heap (gVB o) 1
  have VB2 : w19.cell? ⟨w8.heap.size, 2, none⟩ = some (.string gs) := cell_of_heap hVB 2
  have VB2a : ∀ o : Obj, (w19.alloc o).cell? ⟨w8.heap.size, 2, none⟩ = some (.string gs) := fun o => cell_of_heap (gVB o) 2
  have VB3 : w19.cell? ⟨w8.heap.size, 3, none⟩ = some (.slice ga gl gc) := cell_of_heap hVB 3
  have VB3a : ∀ o : Obj, (w19.alloc o).cell? ⟨w8.heap.size, 3, none⟩ = some (.slice ga gl gc) := fun o => cell_of_heap (gVB o) 3
  clear hVB gVB
  go_wp2_with fail
  clear VB0 VB0a VB1 VB1a VB2 VB2a VB3 VB3a
  have HM := hide (heldTerm_any (kidsOf A2) gk gm gs ga gl gc w7.heap.size w8.heap.size 1 w19 ((unhide M1V).keep (fun b h1 h2 => (unhide KV).blk b h1 h2) (Nat.le_refl _) (Nat.le_refl _)) (unhide KV).size (unhide HC2) : Calls Tryz.prog 10 #[.agg #[.int .i64 gk, .int .i64 gm, .string gs, .slice ga gl gc], .int .i64 1] w19 _)
  refine (unhide HM).mono ?_
  rintro e w20 ⟨rfl, hb⟩
  clear HM
  rw [← unhide MEV]
  replace KP := hide ((unhide KP).call hb)
  replace KU := hide ((unhide KU).call hb)
  replace KUB := hide ((unhide KUB).call hb)
  replace KX := hide ((unhide KX).call hb)
  replace KXB := hide ((unhide KXB).call hb)
  replace KV := hide ((unhide KV).call hb)
  replace KVB := hide ((unhide KVB).call hb)
  replace KH := hide ((unhide KH).call hb)
  replace KHB := hide ((unhide KHB).call hb)
  replace BB := hide ((unhide BB).trans (hb.mono (unhide BB).size))
  clear hb
  go_wp2_with fail
  go_ret
  exact ⟨rfl, unhide BB⟩

theorem law18_all {n : Nat} (trap link : Bool) (t : Tm n) (c0 c1 c2 c3 : Value) (w : World) (ht : TAt (Under w.heap.size) w n t c0 c1 c2 c3) :
    Calls Tryz.prog 3 #[.bool trap, .bool link, .agg #[c0, c1, c2, c3]] w fun e w' => e = .returned (.bool true) ∧ Below w.heap.size w w' := by
  cases n with
  | zero => exact t.elim
  | succ n => exact law18_any trap link t c0 c1 c2 c3 w ht

end Go.Proofs.YtffgdchemjmbmaaGreat
