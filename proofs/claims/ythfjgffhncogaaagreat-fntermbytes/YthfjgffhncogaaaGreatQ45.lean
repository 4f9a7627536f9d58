/- impl.TermUnpack: the function. -/
import Derived.Test.YthfjgffhncogaaaGreatQ44
import Derived.Test.YthfjgffhncogaaaGreatQ41
import Derived.Test.YthfjgffhncogaaaGreatQ42
namespace Go.Proofs.YthfjgffhncogaaaGreat
open Go.RowKit Go.Deep

/-- Behind impl's TermUnpack. -/
def UniEnd (data : ByteArray) (w : World) (e : Ending) (w' : World) : Prop := Below w.heap.size w w' ∧
  ((∃ t d0 d1 d2 d3, unpT data = some t ∧ e = .returned (.tuple #[.agg #[d0, d1, d2, d3], .int .i64 0]) ∧ TAt (Fresh w w') w' 101 t d0 d1 d2 d3 ∧ OwnS w' 100 w.heap.size w'.heap.size (kidsOf t) d3) ∨
    (unpT data = none ∧ e = .returned (.tuple #[zeroT, .int .i64 4])))

set_option maxRecDepth 40000 in
/-- Behind the walk's fault: the zero term, and ErrForm. -/
theorem unp_door {w : World} (Q : Ending → World → Prop) (c : Int) (tm : Array Value) (w3 : World) (b0 b1 : Nat) (x1 : Value) (h4 : tm.getD 2 undef = .pointer (some ⟨b0, 0, none⟩)) (h5 : tm.getD 3 undef = .pointer (some ⟨b1, 0, none⟩))
    (k1 : Four b0 w3) (k2 : w3.heap[b1]? = some (.cells #[x1] 3 (0, 0))) (hne : b0 ≠ b1) (hl0 : b0 < w3.heap.size) (hl1 : b1 < w3.heap.size) (hb0 : w.heap.size ≤ b0) (hb1 : w.heap.size ≤ b1) (hbw : Below w.heap.size w w3)
    (hQ : ∀ w', Below w.heap.size w w' → Q (.returned (.tuple #[zeroT, .int .i64 4])) w') :
    bodyPostD Tryz.prog Tryz.f19 Q (Exit.panic [{ v := fltV c, recovered := false }])
      { tmps := tm, defers := [{ target := Target.fn (Fn.func 44) #[.pointer (some ⟨b0, 0, none⟩), .pointer (some ⟨b1, 0, none⟩)], args := #[] }] } w3 := by
  refine leaves_cons (f := 44) (args := #[.pointer (some ⟨b0, 0, none⟩), .pointer (some ⟨b1, 0, none⟩)]) (by simp) (by simp [go_sem]) ?_
  refine (tuk_panicking _ b0 b1 x1 [] w3 k1 k2 hne hl0 hl1).mono ?_
  rintro e u' w4 ⟨rfl, rfl, ⟨g0, g1, g2, g3⟩, g4, hb4⟩
  have hB := hide (hbw.trans (hb4 w.heap.size hb0 hb1))
  clear hb4 hbw k1 k2
  have h4' : tm[2]?.getD undef = .pointer (some ⟨b0, 0, none⟩) := by simpa using h4
  have h5' : tm[3]?.getD undef = .pointer (some ⟨b1, 0, none⟩) := by simpa using h5
  have HQ := hide (hQ w4 (unhide hB))
  clear hQ
  simp [Leaves, settle, results, Tryz.results19, go_sem, h4', h5', g0, g1, g2, g3, g4]
  exact unhide HQ

set_option maxRecDepth 40000 in
/-- Behind the walk: what the results' cells hold. -/
theorem unp_leave (Q : Ending → World → Prop) (tm : Array Value) (w4 : World) (b0 b1 : Nat) (x1 d0 d1 d2 d3 c : Value) (h4 : tm.getD 2 undef = .pointer (some ⟨b0, 0, none⟩)) (h5 : tm.getD 3 undef = .pointer (some ⟨b1, 0, none⟩))
    (k1 : Four b0 w4) (k2 : w4.heap[b1]? = some (.cells #[x1] 3 (0, 0))) (hne : b0 ≠ b1)
    (hQ : ∀ w', Below w4.heap.size ((fourIn w4 b0 d0 d1 d2 d3).setCell ⟨b1, 0, none⟩ c) w' → Q (.returned (.tuple #[.agg #[d0, d1, d2, d3], c])) w') :
    bodyPostD Tryz.prog Tryz.f19 Q Exit.ret
      { tmps := tm, defers := [{ target := Target.fn (Fn.func 44) #[.pointer (some ⟨b0, 0, none⟩), .pointer (some ⟨b1, 0, none⟩)], args := #[] }] } ((fourIn w4 b0 d0 d1 d2 d3).setCell ⟨b1, 0, none⟩ c) := by
  have hl0 := k1.lt
  have hl1 : b1 < w4.heap.size := (Array.getElem?_eq_some_iff.1 k2).1
  obtain ⟨u0, u1, u2, u3, hF⟩ := k1
  have hk := fourIn_kept w4 b0 d0 d1 d2 d3
  have hx : ((fourIn w4 b0 d0 d1 d2 d3).setCell ⟨b1, 0, none⟩ c).heap[b0]? = some (.cells #[d0, d1, d2, d3] 26 (0, 0)) :=
    (Below.heap_setCell _ _ _ _ hne).trans (Row.setHeap (Row.setHeap (Row.setHeap (Row.setHeap hF 0 _) 1 _) 2 _) 3 _)
  have hy : ((fourIn w4 b0 d0 d1 d2 d3).setCell ⟨b1, 0, none⟩ c).heap[b1]? = some (.cells #[c] 3 (0, 0)) := Row.setHeap ((hk.block b1 hl1 hne.symm).trans k2) 0 _
  have hsz : ((fourIn w4 b0 d0 d1 d2 d3).setCell ⟨b1, 0, none⟩ c).heap.size = w4.heap.size := by simp [fourIn]
  obtain ⟨V, hV⟩ : ∃ V, V = (fourIn w4 b0 d0 d1 d2 d3).setCell ⟨b1, 0, none⟩ c := ⟨_, rfl⟩
  rw [← hV] at hx hy hsz hQ ⊢
  refine leaves_cons (f := 44) (args := #[.pointer (some ⟨b0, 0, none⟩), .pointer (some ⟨b1, 0, none⟩)]) (by simp) (by simp [go_sem]) ?_
  refine (tuk_idle b0 b1 V).mono ?_
  rintro e u' w5 ⟨rfl, rfl, hb5⟩
  have gx := (hb5.block b0 (by omega)).trans hx
  have gy := (hb5.block b1 (by omega)).trans hy
  have g0 := cell_of_heap gx 0
  have g1 := cell_of_heap gx 1
  have g2 := cell_of_heap gx 2
  have g3 := cell_of_heap gx 3
  have g4 := cell_of_heap gy 0
  have HQ := hide (hQ w5 (hsz ▸ hb5))
  have h4' : tm[2]?.getD undef = .pointer (some ⟨b0, 0, none⟩) := by simpa using h4
  have h5' : tm[3]?.getD undef = .pointer (some ⟨b1, 0, none⟩) := by simpa using h5
  clear hQ hx hy hsz gx gy hb5 hF hk hV
  simp at g0 g1 g2 g3 g4
  simp [Leaves, settle, results, Tryz.results19, go_sem, h4', h5', g0, g1, g2, g3, g4]
  exact unhide HQ

theorem three_blocks (w : World) (x y z : Obj) : (((w.alloc x).alloc y).alloc z).heap[w.heap.size]? = some x ∧ (((w.alloc x).alloc y).alloc z).heap[w.heap.size + 1]? = some y ∧
    (((w.alloc x).alloc y).alloc z).heap[w.heap.size + 2]? = some z := by
  refine ⟨?_, ?_, ?_⟩
  · rw [Below.heap_alloc _ _ _ (by simp; omega), Below.heap_alloc _ _ _ (by simp)]; exact heap_new w x
  · rw [Below.heap_alloc _ _ _ (by simp)]
    have := heap_new (w.alloc x) y
    rwa [World.size_alloc] at this
  · have := heap_new ((w.alloc x).alloc y) z
    rwa [World.size_alloc, World.size_alloc] at this

/-- The parts of a term that lie in a world: their form. -/
theorem kids_shape {n : Nat} {S : Nat → Prop} {w : World} {t : Tm n} {c0 c1 c2 c3 : Value} (h : TAt S w n t c0 c1 c2 c3) : ∃ k1 k2 s a l cap, c0 = .int .i64 k1 ∧ c1 = .int .i64 k2 ∧ c2 = .string s ∧ c3 = .slice a l cap := by
  obtain ⟨k0, k1, k2, k3, k4, k5, rfl, rfl, rfl, rfl⟩ := h.shape
  exact ⟨_, _, _, _, _, _, rfl, rfl, rfl, rfl⟩

set_option maxRecDepth 40000 in
set_option maxHeartbeats 2000000 in
theorem iUnpack_any (data : ByteArray) (w : World) (hd : data.size ≤ 2 ^ 47) :
    Calls Tryz.prog 19 #[.string data] w fun e w' => UniEnd data w e w' := by
  have hmf : ∀ (fn : Fn) (first cap : Array Value) (w : World), (Instr.makeFunc fn first cap).run Tryz.prog w = .ok (.func fn first cap) w := fun _ _ _ _ => rfl
  obtain ⟨W0, hW0⟩ : ∃ W0, W0 = ((w.alloc (.cells #[.int .i64 0, .int .i64 0, .string ⟨#[]⟩, .slice none 0 0] 26)).alloc (.cells #[.int .i64 0] 3)).alloc (.cells #[.int .i64 0, .string data, .int .i64 0] 75) := ⟨_, rfl⟩
  have hs0 : W0.heap.size = w.heap.size + 3 := by rw [hW0]; simp
  have hb0 : Below w.heap.size w W0 := by rw [hW0]; exact (((Below.refl w.heap.size w).alloc (Nat.le_refl _) _).alloc (by simp) _).alloc (by simp; omega) _
  obtain ⟨g0, g1, g2⟩ := three_blocks w (.cells #[.int .i64 0, .int .i64 0, .string ⟨#[]⟩, .slice none 0 0] 26) (.cells #[.int .i64 0] 3) (.cells #[.int .i64 0, .string data, .int .i64 0] 75)
  rw [← hW0] at g0 g1 g2
  have hun : Unp (w.heap.size + 1 + 1) 0 data 0 W0 := g2
  have h1 := hide (whole_any (w.heap.size + 1 + 1) data W0 hun hd)
  have HG0 := hide g0
  have HG1 := hide g1
  have HB0 := hide hb0
  have HS0 := hide hs0
  have HW := hide hW0
  clear g0 g1 g2 hb0 hs0 hun
  go_enter_defers Tryz.func19, Tryz.ntmps19
  go_wp2_with fail
  rw [← unhide HW]
  clear hW0
  refine (unhide h1).mono ?_
  rintro e w1 ⟨hbut, ⟨t, r, c', v, hwh, rfl, hx⟩ | ⟨hwh, rfl⟩⟩
  all_goals
    have q0 := (hbut.block w.heap.size (by have := unhide HS0; omega) (by omega)).trans (unhide HG0)
    have q1 := (hbut.block (w.heap.size + 1) (by have := unhide HS0; omega) (by omega)).trans (unhide HG1)
    have hbw : Below w.heap.size w w1 := ⟨hbut.os.trans (unhide HB0).os, hbut.tape.trans (unhide HB0).tape, hbut.output.trans (unhide HB0).output, by have := hbut.size; have := unhide HS0; omega, fun k hk => (hbut.block k (by have := unhide HS0; omega) (by omega)).trans ((unhide HB0).block k hk)⟩
    have hsz : w.heap.size + 3 ≤ w1.heap.size := by have := hbut.size; have := unhide HS0; omega
  rotate_left
  · exact unp_door _ 4 _ w1 w.heap.size (w.heap.size + 1) _ rfl rfl ⟨_, _, _, _, q0⟩ q1 (by omega) (by omega) (by omega) (by omega) (by omega) hbw fun w' hB => ⟨hB, .inr ⟨unp_no hwh, rfl⟩⟩
  have ho := hide (out_any 100 t v w1 (hx.mono fun k hk => hk.2))
  have HU := hide (unp_of hwh)
  have Q0 := hide q0
  have Q1 := hide q1
  have HBW := hide hbw
  have HSZ := hide hsz
  clear hbut hx hwh q0 q1 hbw hsz h1
  go_wp2_with fail
  refine (unhide ho).mono ?_
  rintro e w2 ⟨hb2, d0, d1, d2, d3, rfl, hta, how⟩
  obtain ⟨k1, k2, s, a, l, cap, rfl, rfl, rfl, rfl⟩ := kids_shape hta
  have hsz := unhide HSZ
  have q0 := (hb2.block w.heap.size (by omega)).trans (unhide Q0)
  have q1 := (hb2.block (w.heap.size + 1) (by omega)).trans (unhide Q1)
  have c00 : w2.cell? ⟨w.heap.size, 0, none⟩ = some (.int .i64 0) := cell_of_heap q0 0
  have c01 : w2.cell? ⟨w.heap.size, 1, none⟩ = some (.int .i64 0) := cell_of_heap q0 1
  have c02 : w2.cell? ⟨w.heap.size, 2, none⟩ = some (.string ⟨#[]⟩) := cell_of_heap q0 2
  have c03 : w2.cell? ⟨w.heap.size, 3, none⟩ = some (.slice none 0 0) := cell_of_heap q0 3
  have z00 := frozen_of_heap q0 0
  have z01 := frozen_of_heap q0 1
  have z02 := frozen_of_heap q0 2
  have z03 := frozen_of_heap q0 3
  have H2 := hide (And.intro hb2 (And.intro hta (And.intro how (And.intro q0 q1))))
  clear ho hb2 hta how q0 q1 hsz
  go_wp2_with fail
  obtain ⟨hb2, hta, how, q0, q1⟩ := unhide H2
  have hsz := unhide HSZ
  have hk := fourIn_kept w2 w.heap.size (.int .i64 k1) (.int .i64 k2) (.string s) (.slice a l cap)
  have p0 : (fourIn w2 w.heap.size (.int .i64 k1) (.int .i64 k2) (.string s) (.slice a l cap)).heap[w.heap.size]? = some (.cells #[.int .i64 k1, .int .i64 k2, .string s, .slice a l cap] 26 (0, 0)) :=
    Row.setHeap (Row.setHeap (Row.setHeap (Row.setHeap q0 0 _) 1 _) 2 _) 3 _
  have hs2 := hb2.size
  have p1 := (hk.block (w.heap.size + 1) (by omega) (by omega)).trans q1
  have ht3 : TAt (Fresh w1 w2) (fourIn w2 w.heap.size (.int .i64 k1) (.int .i64 k2) (.string s) (.slice a l cap)) 101 t (.int .i64 k1) (.int .i64 k2) (.string s) (.slice a l cap) :=
    hta.keep fun b hb => hk.block b hb.2 (by have := hb.1; omega)
  have ho3 : OwnS (fourIn w2 w.heap.size (.int .i64 k1) (.int .i64 k2) (.string s) (.slice a l cap)) 100 w1.heap.size w2.heap.size (kidsOf t) (.slice a l cap) :=
    how.keep fun b h1 h2 => hk.block b h2 (by omega)
  have hb3 : Below w.heap.size w (fourIn w2 w.heap.size (.int .i64 k1) (.int .i64 k2) (.string s) (.slice a l cap)) := ((unhide HBW).trans (hb2.mono (by omega))).four (Nat.le_refl _) _ _ _ _
  have hs3 : (fourIn w2 w.heap.size (.int .i64 k1) (.int .i64 k2) (.string s) (.slice a l cap)).heap.size = w2.heap.size := by simp [fourIn]
  obtain ⟨W3, hW3⟩ : ∃ W3, W3 = fourIn w2 w.heap.size (.int .i64 k1) (.int .i64 k2) (.string s) (.slice a l cap) := ⟨_, rfl⟩
  have hW3' := hW3
  unfold fourIn at hW3'
  rw [← hW3] at p0 p1 ht3 ho3 hb3 hs3
  rw [← hW3']
  have hin := hide (iPack_any t _ _ _ _ W3 (ht3.mono fun b hb => by show b < W3.heap.size; have := hb.2; omega))
  have HT3 := hide ht3
  have HO3 := hide ho3
  have HB3 := hide hb3
  have HS3 := hide hs3
  have HS2 := hide hs2
  have P0 := hide p0
  have P1 := hide p1
  clear hb2 hta how q0 q1 hsz hk p0 p1 ht3 ho3 hb3 hs3 hW3 hW3' c00 c01 c02 c03 z00 z01 z02 z03 H2 hs2
  refine (unhide hin).mono ?_
  rintro e w4 ⟨rfl, hb4⟩
  have hs3 := unhide HS3
  have hsz := unhide HSZ
  have hs2 := unhide HS2
  have r0 := (hb4.block w.heap.size (by omega)).trans (unhide P0)
  have r1 := (hb4.block (w.heap.size + 1) (by omega)).trans (unhide P1)
  have c00 : w4.cell? ⟨w.heap.size, 0, none⟩ = some (.int .i64 k1) := cell_of_heap r0 0
  have c01 : w4.cell? ⟨w.heap.size, 1, none⟩ = some (.int .i64 k2) := cell_of_heap r0 1
  have c02 : w4.cell? ⟨w.heap.size, 2, none⟩ = some (.string s) := cell_of_heap r0 2
  have c03 : w4.cell? ⟨w.heap.size, 3, none⟩ = some (.slice a l cap) := cell_of_heap r0 3
  have c10 : w4.cell? ⟨w.heap.size + 1, 0, none⟩ = some (.int .i64 0) := cell_of_heap r1 0
  have z00 := frozen_of_heap r0 0
  have z01 := frozen_of_heap r0 1
  have z02 := frozen_of_heap r0 2
  have z03 := frozen_of_heap r0 3
  have z10 := frozen_of_heap r1 0
  have H4 := hide hb4
  have R0 := hide r0
  have R1 := hide r1
  obtain ⟨pc, hpc⟩ : ∃ pc, pc = packCode 101 t := ⟨_, rfl⟩
  obtain ⟨ps, hps⟩ : ∃ ps, ps = packStr 101 t := ⟨_, rfl⟩
  rw [← hpc, ← hps]
  rw [← hpc, ← hps] at HU
  clear hin hb4 r0 r1 hs3 hs2 hsz hpc hps P0 P1
  by_cases hc : pc = 0
  · subst hc
    by_cases hs : ps = data
    · subst hs
      have hq : (ps.toList == ps.toList) = true := by simp
      have hu : unpT ps = some t := by rw [unhide HU]; exact if_pos ⟨rfl, rfl⟩
      have HU' := hide hu
      clear hu
      go_wp2_with fail
      refine unp_leave _ _ w4 w.heap.size (w.heap.size + 1) (.int .i64 0) (.int .i64 k1) (.int .i64 k2) (.string s) (.slice a l cap) (.int .i64 0) rfl rfl ⟨_, _, _, _, unhide R0⟩ (unhide R1) (by omega) fun w' hb => ?_
      have hb4 := unhide H4
      have hs3 := unhide HS3
      have hsz := unhide HSZ
      have hs2 := unhide HS2
      have hbw4 : Below w.heap.size w w4 := (unhide HB3).trans (hb4.mono (by omega))
      have hB : Below w.heap.size w ((fourIn w4 w.heap.size (.int .i64 k1) (.int .i64 k2) (.string s) (.slice a l cap)).setCell ⟨w.heap.size + 1, 0, none⟩ (.int .i64 0)) :=
        (hbw4.four (Nat.le_refl _) _ _ _ _).setCell (p := ⟨w.heap.size + 1, 0, none⟩) (by show w.heap.size ≤ w.heap.size + 1; omega) _
      have hblk : ∀ b, w1.heap.size ≤ b → b < w2.heap.size → w'.heap[b]? = W3.heap[b]? := fun b h1 h2 => by
        have hs4 := hb4.size
        refine (hb.block b (by omega)).trans ((Below.heap_setCell _ _ _ _ (by show b ≠ w.heap.size + 1; omega)).trans (((fourIn_kept w4 w.heap.size _ _ _ _).block b (by omega) (by omega)).trans (hb4.block b (by omega))))
      have hsw' : w2.heap.size ≤ w'.heap.size := by
        have h1 := hb.size
        have h2 : ((fourIn w4 w.heap.size (.int .i64 k1) (.int .i64 k2) (.string s) (.slice a l cap)).setCell ⟨w.heap.size + 1, 0, none⟩ (.int .i64 0)).heap.size = w4.heap.size := by simp [fourIn]
        have hs4 := hb4.size
        omega
      refine ⟨hB.trans (hb.mono (by have := hb4.size; omega)), .inl ⟨t, _, _, _, _, unhide HU', rfl, ?_, ?_⟩⟩
      · exact ((unhide HT3).keep fun b h => hblk b h.1 h.2).mono fun b h => ⟨by have := h.1; omega, by have := h.2; omega⟩
      · exact ((unhide HO3).keep fun b h1 h2 => hblk b h1 h2).wide (by omega) hsw'
    · have hq : (ps.toList == data.toList) = false := toList_ne hs
      have hu : unpT data = none := by rw [unhide HU]; exact if_neg fun h => hs h.2
      have HU' := hide hu
      clear hu
      go_wp2_with fail
      refine unp_leave _ _ w4 w.heap.size (w.heap.size + 1) (.int .i64 0) (.int .i64 0) (.int .i64 0) (.string ⟨#[]⟩) (.slice none 0 0) (.int .i64 4) rfl rfl ⟨_, _, _, _, unhide R0⟩ (unhide R1) (by omega) fun w' hb => ?_
      have hs3 := unhide HS3
      have hsz := unhide HSZ
      have hs2 := unhide HS2
      have hbw4 : Below w.heap.size w w4 := (unhide HB3).trans ((unhide H4).mono (by omega))
      exact ⟨((hbw4.four (Nat.le_refl _) _ _ _ _).setCell (p := ⟨w.heap.size + 1, 0, none⟩) (by show w.heap.size ≤ w.heap.size + 1; omega) _).trans (hb.mono hbw4.size), .inr ⟨unhide HU', rfl⟩⟩
  · have hq : (pc != 0) = true := by simpa using hc
    have hu : unpT data = none := by rw [unhide HU]; exact if_neg fun h => hc h.1
    have HU' := hide hu
    clear hu
    go_wp2_with fail
    refine unp_leave _ _ w4 w.heap.size (w.heap.size + 1) (.int .i64 0) (.int .i64 0) (.int .i64 0) (.string ⟨#[]⟩) (.slice none 0 0) (.int .i64 4) rfl rfl ⟨_, _, _, _, unhide R0⟩ (unhide R1) (by omega) fun w' hb => ?_
    have hs3 := unhide HS3
    have hsz := unhide HSZ
    have hs2 := unhide HS2
    have hbw4 : Below w.heap.size w w4 := (unhide HB3).trans ((unhide H4).mono (by omega))
    exact ⟨((hbw4.four (Nat.le_refl _) _ _ _ _).setCell (p := ⟨w.heap.size + 1, 0, none⟩) (by show w.heap.size ≤ w.heap.size + 1; omega) _).trans (hb.mono hbw4.size), .inr ⟨unhide HU', rfl⟩⟩

end Go.Proofs.YthfjgffhncogaaaGreat
/- What both sides' TermUnpack answers, in one sentence. -/
namespace Go.Proofs.YthfjgffhncogaaaGreat
open Go.RowKit Go.Deep

def zeroTm : Tm 101 := ((0 : Int), (0 : Int), noText, ([] : List (Tm 100)))
def ansT (data : ByteArray) : Tm 101 := match unpT data with
  | some t => t
  | none => zeroTm
def ansC (data : ByteArray) : Int := match unpT data with
  | some _ => 0
  | none => 4
theorem ansT_some {data : ByteArray} {t : Tm 101} (h : unpT data = some t) : ansT data = t := by unfold ansT; rw [h]
theorem ansT_none {data : ByteArray} (h : unpT data = none) : ansT data = zeroTm := by unfold ansT; rw [h]
theorem ansC_some {data : ByteArray} {t : Tm 101} (h : unpT data = some t) : ansC data = 0 := by unfold ansC; rw [h]
theorem ansC_none {data : ByteArray} (h : unpT data = none) : ansC data = 4 := by unfold ansC; rw [h]

theorem unp_ok {data : ByteArray} {t : Tm 101} (h : unpT data = some t) : okB 101 t = true := by
  unfold unpT at h
  cases hw : wholeT data with
  | none => rw [hw] at h; cases h
  | some p =>
    obtain ⟨u, r, c⟩ := p
    rw [hw] at h
    dsimp only at h
    by_cases hp : packCode 101 u = 0 ∧ packStr 101 u = data
    · rw [if_pos hp] at h
      cases h
      by_cases hok : okB 101 t = true
      · exact hok
      · have := hp.1
        rw [packCode_no hok] at this
        cases this
    · rw [if_neg hp] at h; cases h
theorem ans_siz (data : ByteArray) : sizS (kidsOf (ansT data)) ≤ 2000 := by
  cases h : unpT data with
  | none => rw [ansT_none h]; exact Nat.zero_le _
  | some t =>
    rw [ansT_some h]
    have hok := (ok_val.1 (unp_ok h)).2
    have h9 : siz 101 t = 1 + sizS (kidsOf t) := siz_kids t
    omega

theorem zero_at (S : Nat → Prop) (w : World) : TAt S w 101 zeroTm (.int .i64 0) (.int .i64 0) (.string ⟨#[]⟩) (.slice none 0 0) :=
  ⟨rfl, rfl, rfl, by unfold In64; omega, by unfold In64; omega, by decide, none, 0, rfl, Nat.le_refl _, by decide, fun i hi => by cases hi⟩
theorem zero_own (w : World) (lo hi : Nat) : OwnS w 100 lo hi (kidsOf zeroTm) (.slice none 0 0) := ⟨none, 0, rfl, .inl rfl⟩

section
variable (data : ByteArray) (w : World)

theorem sAns_any (hd : data.size ≤ 2 ^ 47) : Calls Tryz.prog 25 #[.string data] w fun e w' => Below w.heap.size w w' ∧ ∃ k1 k2 s a l cap, e = .returned (.tuple #[.agg #[.int .i64 k1, .int .i64 k2, .string s, .slice a l cap], .int .i64 (ansC data)]) ∧
    TAt (Fresh w w') w' 101 (ansT data) (.int .i64 k1) (.int .i64 k2) (.string s) (.slice a l cap) := by
  refine (sUnpack_any data w hd).mono ?_
  rintro e w' ⟨hb, ⟨t, d0, d1, d2, d3, hu, rfl, ht⟩ | ⟨hu, rfl⟩⟩
  · obtain ⟨k1, k2, s, a, l, cap, rfl, rfl, rfl, rfl⟩ := kids_shape ht
    exact ⟨hb, k1, k2, s, a, l, cap, by rw [ansC_some hu], by rw [ansT_some hu]; exact ht⟩
  · exact ⟨hb, 0, 0, ⟨#[]⟩, none, 0, 0, by rw [ansC_none hu]; rfl, by rw [ansT_none hu]; exact zero_at _ _⟩

theorem iAns_any (hd : data.size ≤ 2 ^ 47) : Calls Tryz.prog 19 #[.string data] w fun e w' => Below w.heap.size w w' ∧ ∃ k1 k2 s a l cap, e = .returned (.tuple #[.agg #[.int .i64 k1, .int .i64 k2, .string s, .slice a l cap], .int .i64 (ansC data)]) ∧
    TAt (Fresh w w') w' 101 (ansT data) (.int .i64 k1) (.int .i64 k2) (.string s) (.slice a l cap) ∧ OwnS w' 100 w.heap.size w'.heap.size (kidsOf (ansT data)) (.slice a l cap) := by
  refine (iUnpack_any data w hd).mono ?_
  rintro e w' ⟨hb, ⟨t, d0, d1, d2, d3, hu, rfl, ht, ho⟩ | ⟨hu, rfl⟩⟩
  · obtain ⟨k1, k2, s, a, l, cap, rfl, rfl, rfl, rfl⟩ := kids_shape ht
    exact ⟨hb, k1, k2, s, a, l, cap, by rw [ansC_some hu], by rw [ansT_some hu]; exact ht, by rw [ansT_some hu]; exact ho⟩
  · exact ⟨hb, 0, 0, ⟨#[]⟩, none, 0, 0, by rw [ansC_none hu]; rfl, by rw [ansT_none hu]; exact zero_at _ _, by rw [ansT_none hu]; exact zero_own _ _ _⟩
end

end Go.Proofs.YthfjgffhncogaaaGreat
