/- impl.TermPack: the function. -/
import Derived.Test.YthfjgffhncogaaaGreatQ40
import Derived.Test.YthfjgffhncogaaaGreatQ24
import Derived.Test.YthfjgffhncogaaaGreatQ1
namespace Go.Proofs.YthfjgffhncogaaaGreat
open Go.RowKit Go.Deep

/-- What TermPack answers. -/
def packStr (n : Nat) (t : Tm n) : ByteArray := if okB n t = true ∧ 1 + (packT n t).length ≤ 40000 then strOfNums (131 :: packT n t) else ⟨#[]⟩
def packCode (n : Nat) (t : Tm n) : Int := if okB n t = true then (if 1 + (packT n t).length ≤ 40000 then 0 else 3) else 1
theorem packStr_no {n : Nat} {t : Tm n} (h : ¬ okB n t = true) : packStr n t = ⟨#[]⟩ := if_neg fun g => h g.1
theorem packCode_no {n : Nat} {t : Tm n} (h : ¬ okB n t = true) : packCode n t = 1 := if_neg h
theorem packStr_full {n : Nat} {t : Tm n} (h : ¬ 1 + (packT n t).length ≤ 40000) : packStr n t = ⟨#[]⟩ := if_neg fun g => h g.2
theorem packCode_full {n : Nat} {t : Tm n} (h : okB n t = true) (h' : ¬ 1 + (packT n t).length ≤ 40000) : packCode n t = 3 := by unfold packCode; rw [if_pos h, if_neg h']
theorem packStr_yes {n : Nat} {t : Tm n} (h : okB n t = true) (h' : 1 + (packT n t).length ≤ 40000) : packStr n t = strOfNums (131 :: packT n t) := if_pos ⟨h, h'⟩
theorem packCode_yes {n : Nat} {t : Tm n} (h : okB n t = true) (h' : 1 + (packT n t).length ≤ 40000) : packCode n t = 0 := by unfold packCode; rw [if_pos h, if_pos h']

theorem u8c_get {l : List Int} {i : Nat} (h : i < (u8c l).length) : (u8c l)[i] = Value.int .u8 (l.getD i 0) := by
  have h' : i < l.length := by rwa [u8c_length] at h
  simp [u8c, h']

theorem heap_four (w : World) (x y z u : Obj) : ((((w.alloc x).alloc y).alloc z).alloc u).heap[w.heap.size]? = some x ∧ ((((w.alloc x).alloc y).alloc z).alloc u).heap[w.heap.size + 1]? = some y ∧
    ((((w.alloc x).alloc y).alloc z).alloc u).heap[w.heap.size + 2]? = some z ∧ ((((w.alloc x).alloc y).alloc z).alloc u).heap[w.heap.size + 3]? = some u := by
  refine ⟨?_, ?_, ?_, ?_⟩
  · rw [Below.heap_alloc _ _ _ (by simp; omega), Below.heap_alloc _ _ _ (by simp; omega), Below.heap_alloc _ _ _ (by simp)]; exact heap_new w x
  · rw [Below.heap_alloc _ _ _ (by simp), Below.heap_alloc _ _ _ (by simp)]
    have := heap_new (w.alloc x) y
    rwa [World.size_alloc] at this
  · rw [Below.heap_alloc _ _ _ (by simp)]
    have := heap_new ((w.alloc x).alloc y) z
    rwa [World.size_alloc, World.size_alloc] at this
  · have := heap_new (((w.alloc x).alloc y).alloc z) u
    rwa [World.size_alloc, World.size_alloc, World.size_alloc] at this

set_option maxRecDepth 40000 in
set_option maxHeartbeats 2000000 in
theorem iPack_any {n : Nat} (t : Tm n) (c0 c1 c2 c3 : Value) (w : World) (ht : TAt (Under w.heap.size) w n t c0 c1 c2 c3) :
    Calls Tryz.prog 18 #[.agg #[c0, c1, c2, c3]] w fun e w' => e = .returned (.tuple #[.string (packStr n t), .int .i64 (packCode n t)]) ∧ Below w.heap.size w w' := by
  obtain ⟨k0, k1, k2, k3, k4, k5, rfl, rfl, rfl, rfl⟩ := ht.shape
  have hmf : ∀ (fn : Fn) (first cap : Array Value) (w : World), (Instr.makeFunc fn first cap).run Tryz.prog w = .ok (.func fn first cap) w := fun _ _ _ _ => rfl
  obtain ⟨W0, hW0⟩ : ∃ W0, W0 = (((w.alloc (.cells #[.int .i64 k0, .int .i64 k1, .string k2, .slice k3 k4 k5] 26)).alloc (.cells #[.string ⟨#[]⟩] 9)).alloc (.cells #[.int .i64 0] 3)).alloc (.cells #[.int .i64 40000, .slice none 0 0] 54) := ⟨_, rfl⟩
  have hs0 : W0.heap.size = w.heap.size + 4 := by rw [hW0]; simp
  have hb0 : Below w.heap.size w W0 := by rw [hW0]; exact ((((Below.refl w.heap.size w).alloc (Nat.le_refl _) _).alloc (by simp) _).alloc (by simp; omega) _).alloc (by simp; omega) _
  obtain ⟨g0, g1, g2, g3⟩ := heap_four w (.cells #[.int .i64 k0, .int .i64 k1, .string k2, .slice k3 k4 k5] 26) (.cells #[.string ⟨#[]⟩] 9) (.cells #[.int .i64 0] 3) (.cells #[.int .i64 40000, .slice none 0 0] 54)
  rw [← hW0] at g0 g1 g2 g3
  -- the blocks ahead of the writer's
  have hK : ∀ w', Stay (fun k => k < w.heap.size + 1 + 1 + 1) W0 w' → w'.heap[w.heap.size]? = some (.cells #[.int .i64 k0, .int .i64 k1, .string k2, .slice k3 k4 k5] 26 (0, 0)) ∧
      w'.heap[w.heap.size + 1]? = some (.cells #[.string ⟨#[]⟩] 9 (0, 0)) ∧ w'.heap[w.heap.size + 1 + 1]? = some (.cells #[.int .i64 0] 3 (0, 0)) ∧ Below w.heap.size w w' ∧ w.heap.size + 4 ≤ w'.heap.size := fun w' hb =>
    ⟨(hb.block _ (by omega)).trans g0, (hb.block _ (by omega)).trans g1, (hb.block _ (by omega)).trans g2, hb0.trans (hb.toBelow fun k hk => by omega), by have := hb.size; omega⟩
  have hwri : Wri (fun k => k < w.heap.size + 1 + 1 + 1) (w.heap.size + 1 + 1 + 1) 40000 [] W0 :=
    ⟨fun k hk => by omega, by omega, by decide, none, 0, g3, World.ownsRow_nil _ _ _ _, fun g hg => by cases hg⟩
  have h1 := hide (lit_any _ (w.heap.size + 1 + 1 + 1) 40000 [] [131] 1 5 W0 hwri rfl (by simp [B8]) (by omega) (by omega))
  have HK := hide hK
  have HT := hide ht
  have HW := hide hW0
  rw [show W0.heap.size = w.heap.size + 1 + 1 + 1 + 1 from hs0] at h1
  clear ht hK hb0 g0 g1 g2 g3 hwri hs0
  go_enter_defers Tryz.func18, Tryz.ntmps18
  go_wp2_with fail
  rw [← unhide HW]
  clear hW0
  refine (unhide h1).mono ?_
  rintro e w1 ⟨s1, ⟨l1, rfl, hw1⟩ | ⟨l1, rfl⟩⟩
  rotate_left
  · exact absurd l1 (by decide)
  obtain ⟨q0, q1, q2, hbw, hsz⟩ := unhide HK w1 s1
  obtain ⟨p0, p1, p2, p3⟩ : w1.cell? ⟨w.heap.size, 0, none⟩ = some (.int .i64 k0) ∧ w1.cell? ⟨w.heap.size, 1, none⟩ = some (.int .i64 k1) ∧ w1.cell? ⟨w.heap.size, 2, none⟩ = some (.string k2) ∧ w1.cell? ⟨w.heap.size, 3, none⟩ = some (.slice k3 k4 k5) :=
    ⟨cell_of_heap q0 0, cell_of_heap q0 1, cell_of_heap q0 2, cell_of_heap q0 3⟩
  have hin := hide (inward_any n t _ _ _ _ w1 ((unhide HT).up hbw))
  have S1 := hide s1
  have W1 := hide hw1
  clear s1 hw1 l1 q0 q1 q2 hbw hsz h1
  go_wp2_with fail
  refine (unhide hin).mono ?_
  rintro e w2 ⟨hb2, hend⟩
  have s2 := (unhide S1).trans (Stay.below hb2 (unhide W1).lt)
  obtain ⟨q0, q1, q2, hbw, hsz⟩ := unhide HK w2 s2
  rcases hend with ⟨hok, v, rfl, hv⟩ | ⟨hno, rfl⟩
  rotate_left
  · have hno' := fun g => hno (ok_val.1 g)
    exact pack_door 1 _ w2 (w.heap.size + 1) (w.heap.size + 1 + 1) _ _ _ _ (packStr_no hno') (packCode_no hno') rfl rfl q1 q2 (by omega) (by omega) (by omega) (by omega) (by omega) hbw
  have hw2 : Wri (fun k => k < w.heap.size + 1 + 1 + 1 ∨ (w1.heap.size ≤ k ∧ k < w2.heap.size)) (w.heap.size + 1 + 1 + 1) 40000 ([] ++ [131]) w2 := (unhide W1).more hb2 fun k hk => hk
  obtain ⟨u, x, g, rfl, hm, hcf, hcall⟩ := pv_any n t v _ (w.heap.size + 1 + 1 + 1) 40000 _ w2 (hv.mono fun k hk => .inr hk) hok.1 (by have := hok.2.1; omega) hw2 (by omega)
  have HOK := hide (ok_val.2 hok)
  have HC := hide hcall
  have S2 := hide s2
  clear hb2 hv hok hw2 hcall s2 q0 q1 q2 hbw hsz p0 p1 p2 p3
  go_wp2_with fail
  refine (unhide HC).mono ?_
  rintro e w3 ⟨s3, ⟨l3, rfl, hw3⟩ | ⟨l3, rfl⟩⟩
  rotate_left
  · obtain ⟨q0, q1, q2, hbw, hsz⟩ := unhide HK w3 ((unhide S2).trans (s3.mono fun k hk => .inl hk))
    have hful : ¬ 1 + (packT n t).length ≤ 40000 := by
      have : 40000 < 1 + (packT n t).length := l3
      omega
    exact pack_door 3 _ w3 (w.heap.size + 1) (w.heap.size + 1 + 1) _ _ _ _ (packStr_full hful) (packCode_full (unhide HOK) hful) rfl rfl q1 q2 (by omega) (by omega) (by omega) (by omega) (by omega) hbw
  obtain ⟨q0, q1, q2, hbw, hsz⟩ := unhide HK w3 ((unhide S2).trans (s3.mono fun k hk => .inl hk))
  have hful : 1 + (packT n t).length ≤ 40000 := l3
  obtain ⟨a, cap, hb, ho, _⟩ := hw3.row
  have e0 : [] ++ [131] ++ packT n t = 131 :: packT n t := rfl
  rw [e0] at hb ho
  obtain ⟨g', c', hv, hg', hgl'⟩ := ho.form (by simp)
  cases hv
  obtain ⟨N, hN⟩ : ∃ N, N = (131 :: packT n t).length := ⟨_, rfl⟩
  have hby : ∀ y ∈ 131 :: packT n t, B8 y := fun y hy => by
    rcases List.mem_cons.1 hy with rfl | h
    · exact ⟨by decide, by decide⟩
    · exact packT_byte n t y h
  have hcv := run_convert_bytes_arg (P := Tryz.prog) w3 22 5 Tryz.underlying22 Tryz.underlying5 g' 0 N cap (131 :: packT n t) hN.symm (fun i hi => by
    have hi' : i < (u8c (131 :: packT n t)).length := by rw [u8c_length, ← hN]; exact hi
    have hc := ho.cells (g := g') rfl i _ (List.getElem?_eq_getElem hi')
    have hadd : (⟨g', 0, none⟩ : Addr).add i = ⟨g', i, none⟩ := by unfold Addr.add; split <;> simp_all
    rw [hadd] at hc
    rw [Nat.zero_add, hc, u8c_get hi']) 9 Tryz.underlying9
  obtain ⟨S, hS⟩ : ∃ S, S = strOfNums (131 :: packT n t) := ⟨_, rfl⟩
  rw [← hS] at hcv
  rw [← hN] at hb
  have c1 : w3.cell? ⟨w.heap.size + 1 + 1 + 1, 1, none⟩ = some (.slice (some ⟨g', 0, none⟩) N cap) := cell_of_heap hb 1
  have s0 : w3.cell? ⟨w.heap.size + 1, 0, none⟩ = some (.string ⟨#[]⟩) := cell_of_heap q1 0
  have s1 : w3.cell? ⟨w.heap.size + 1 + 1, 0, none⟩ = some (.int .i64 0) := cell_of_heap q2 0
  have z0 := frozen_of_heap q1 0
  have z1 := frozen_of_heap q2 0
  have HS' := hide hS
  have HF := hide hful
  have HB := hide hbw
  have HSZ := hide hsz
  have Q1 := hide q1
  have Q2 := hide q2
  clear s3 l3 hw3 q0 q1 q2 hbw hsz hful hb ho e0 hN hby hS hm hcf
  go_wp2_with fail
  obtain ⟨w6, hw6⟩ : ∃ w6, w6 = (w3.setCell ⟨w.heap.size + 1, 0, none⟩ (.string S)).setCell ⟨w.heap.size + 1 + 1, 0, none⟩ (.int .i64 0) := ⟨_, rfl⟩
  have u0 : w6.cell? ⟨w.heap.size + 1, 0, none⟩ = some (.string S) := by
    rw [hw6]; exact (World.cell?_setCell_other _ _ _ _ (by simp)).trans (World.cell?_setCell_same _ _ _ s0)
  have u1 : w6.cell? ⟨w.heap.size + 1 + 1, 0, none⟩ = some (.int .i64 0) := by
    rw [hw6]; exact World.cell?_setCell_same _ _ _ ((World.cell?_setCell_other _ _ _ _ (by simp)).trans s1)
  have hB6 : Below w.heap.size w w6 := by
    rw [hw6]; exact ((unhide HB).setCell (p := ⟨w.heap.size + 1, 0, none⟩) (by show w.heap.size ≤ w.heap.size + 1; omega) _).setCell (p := ⟨w.heap.size + 1 + 1, 0, none⟩) (by show w.heap.size ≤ w.heap.size + 1 + 1; omega) _
  have hs6 : w.heap.size + 3 ≤ w6.heap.size := by rw [hw6]; have := unhide HSZ; simp; omega
  rw [← hw6]
  have HB6 := hide hB6
  clear hw6 s0 s1 z0 z1 hB6 c1 hcv
  have ha : packStr n t = S := by rw [packStr_yes (unhide HOK) (unhide HF), ← unhide HS']
  have hb : packCode n t = 0 := packCode_yes (unhide HOK) (unhide HF)
  have HA := hide ha
  have HC := hide hb
  clear ha hb
  refine leaves_cons (f := 42) (args := #[.pointer (some ⟨w.heap.size + 1, 0, none⟩), .pointer (some ⟨w.heap.size + 1 + 1, 0, none⟩)]) (by simp) (by simp [go_sem]) ?_
  refine (tpk_idle _ _ _).mono ?_
  rintro e u' w7 ⟨rfl, rfl, hb7⟩
  have g1 := (World.cell?_of_block (hb7.block (w.heap.size + 1) (by omega))).trans u0
  have g2 := (World.cell?_of_block (hb7.block (w.heap.size + 1 + 1) (by omega))).trans u1
  have hB7 := hide ((unhide HB6).trans (hb7.mono (unhide HB6).size))
  clear hb7 u0 u1
  rw [unhide HA, unhide HC]
  simp [Leaves, settle, results, Tryz.results18, go_sem, g1, g2]
  exact unhide hB7

end Go.Proofs.YthfjgffhncogaaaGreat
/- spec's l01Pack, by induction on the depth; spec.TermPack. -/
namespace Go.Proofs.YthfjgffhncogaaaGreat
open Go.RowKit Go.Deep

theorem sp_of {n : Nat} (h : SpSaid n) : SpSaid (n + 1) := by
  rintro ⟨k, m, s, ks⟩ c0 c1 c2 c3 v N xs B w ⟨rfl, rfl, rfl, hk, hm, hs, hks⟩ hr hz hv hB hN
  obtain ⟨hf, hall⟩ := right_parts hr
  obtain ⟨hlen, hkz⟩ := siz_kid hz
  have hks' := hks
  obtain ⟨a, cap, rfl, _, _, _⟩ := hks
  have hN' : N + 10 + 10 * (s.size + (ks.length + totS ks)) ≤ 2 ^ 40 := hN
  have hNN : N + 10 + 10 * ks.length + 10 * totS ks ≤ 2 ^ 40 := by omega
  rcases fit_kinds hf with rfl | rfl | rfl | rfl | rfl | rfl | rfl | rfl | rfl
  · rw [fit_1] at hf
    simp only [Bool.and_eq_true, decide_eq_true_eq] at hf
    rw [packT_leaf hf.2 (by decide)]
    by_cases h1 : 0 ≤ m ∧ m ≤ 255
    · have e : headL 1 m s 0 true = [97, m] := if_pos h1
      rw [e]
      exact sp_int0 m s a ks.length cap v N B xs w hv hB (by omega) h1.1 h1.2
    · by_cases h2 : m < 0
      · have e : headL 1 m s 0 true = 98 :: 1 :: beL (-m) 7 := by
          show (if 0 ≤ m ∧ m ≤ 255 then [97, m] else if m < 0 then 98 :: 1 :: beL (-m) 7 else 98 :: 0 :: beL m 7) = _
          rw [if_neg h1, if_pos h2]
        rw [e]
        exact sp_int1 m s a ks.length cap v N B xs w hv hB (by omega) h2 hf.1.1.1
      · have e : headL 1 m s 0 true = 98 :: 0 :: beL m 7 := by
          show (if 0 ≤ m ∧ m ≤ 255 then [97, m] else if m < 0 then 98 :: 1 :: beL (-m) 7 else 98 :: 0 :: beL m 7) = _
          rw [if_neg h1, if_neg h2]
        rw [e]
        exact sp_int2 m s a ks.length cap v N B xs w hv hB (by omega) (by omega) hf.1.1.2
  · rw [fit_2] at hf
    simp only [Bool.and_eq_true, decide_eq_true_eq] at hf
    rw [packT_leaf hf.2 (by decide)]
    exact sp_atom m s a ks.length cap v N B xs w hv hB (by omega) (by omega)
  · rw [fit_3] at hf
    simp only [Bool.and_eq_true, decide_eq_true_eq] at hf
    rw [packT_leaf hf.2 (by decide)]
    exact sp_ref m s a ks.length cap v N B xs w hv hB (by omega) hf.1.1.1 hf.1.1.2
  · rw [fit_4] at hf
    simp only [Bool.and_eq_true, decide_eq_true_eq] at hf
    rw [packT_kids (by decide)]
    exact sp_fun h ks m s a cap v N B xs w hks' hall hkz hv hB hNN hf.1.1 hf.1.2 (by omega)
  · rw [fit_5] at hf
    simp only [Bool.and_eq_true, decide_eq_true_eq] at hf
    rw [packT_leaf hf.2 (by decide)]
    exact sp_pid m s a ks.length cap v N B xs w hv hB (by omega) hf.1.1.1 hf.1.1.2
  · rw [packT_kids (by decide)]
    by_cases h1 : ks.length ≤ 255
    · have e : headL 6 m s ks.length (ks.all (smallB n)) = [104, (ks.length : Int)] := by
        show (if ks.length ≤ 255 then [104, (ks.length : Int)] else 105 :: beL ks.length 2) = _
        rw [if_pos h1]
      rw [e]
      exact sp_tup0 h ks m s a cap v N B xs w hks' hall hkz hv hB hNN h1
    · have e : headL 6 m s ks.length (ks.all (smallB n)) = 105 :: beL ks.length 2 := by
        show (if ks.length ≤ 255 then [104, (ks.length : Int)] else 105 :: beL ks.length 2) = _
        rw [if_neg h1]
      rw [e]
      exact sp_tup1 h ks m s a cap v N B xs w hks' hall hkz hv hB hNN h1 (by omega)
  · obtain ⟨p, hp⟩ := fit_even hf
    have hp2 : ks.length / 2 = p := by omega
    rw [packT_kids (by decide)]
    have e : headL 7 m s ks.length (ks.all (smallB n)) = 116 :: beL p 2 := by
      show 116 :: beL ((ks.length / 2 : Nat) : Int) 2 = _
      rw [hp2]
    rw [e]
    exact sp_map h ks m s a cap v N B xs w hks' hall hkz hv hB hNN p hp (by omega)
  · rw [packT_list]
    by_cases h0 : ks.length = 0
    · have hk0 : ks = [] := List.eq_nil_of_length_eq_zero h0
      subst hk0
      exact sp_nil m s a 0 cap v N B xs w hv hB (by omega) rfl
    · cases hsm : ks.all (smallB n)
      · have e : lstL ks.length false ++ lstS ks = 108 :: beL ks.length 2 ++ packS ks := by
          unfold lstL lstS
          rw [if_neg h0, hsm]
          rfl
        rw [e]
        exact sp_lst1 h ks m s a cap v N B xs w hks' hall hkz hv hB hNN h0 hsm (by omega)
      · have e : lstL ks.length true ++ lstS ks = 107 :: (beL ks.length 2 ++ ks.map (numT n)) := by
          unfold lstL lstS
          rw [if_neg h0, hsm]
          rfl
        rw [e]
        exact sp_lst2 h ks m s a cap v N B xs w hks' hall hkz hv hB hNN h0 hsm (by omega)
  · rw [fit_9] at hf
    simp only [Bool.and_eq_true, decide_eq_true_eq] at hf
    rw [packT_leaf hf.2 (by decide)]
    exact sp_bin m s a ks.length cap v N B xs w hv hB (by omega) (by omega)

theorem sp_any : ∀ n, SpSaid n
  | 0 => fun t => t.elim
  | n + 1 => sp_of (sp_any n)

end Go.Proofs.YthfjgffhncogaaaGreat
/- A term's four cells, in a box of its own. -/
namespace Go.Proofs.YthfjgffhncogaaaGreat
open Go.RowKit

theorem box4 (w : World) (a b c d : Value) (e : TypeId) {w' : World} (h : Below (w.heap.size + 1) (w.alloc (.cells #[a, b, c, d] e)) w') :
    w'.cell? ⟨w.heap.size, 0, none⟩ = some a ∧ w'.cell? ⟨w.heap.size, 1, none⟩ = some b ∧ w'.cell? ⟨w.heap.size, 2, none⟩ = some c ∧ w'.cell? ⟨w.heap.size, 3, none⟩ = some d := by
  have hh := (h.block w.heap.size (by omega)).trans (heap_new _ _)
  exact ⟨cell_of_heap hh 0, cell_of_heap hh 1, cell_of_heap hh 2, cell_of_heap hh 3⟩

end Go.Proofs.YthfjgffhncogaaaGreat
/- spec.TermPack. -/
namespace Go.Proofs.YthfjgffhncogaaaGreat
open Go.RowKit Go.Deep

theorem ret_sn {s s' : ByteArray} {x x' : Int} (h : s = s') (h' : x = x') : Ending.returned (.tuple #[.string s, .int .i64 x]) = .returned (.tuple #[.string s', .int .i64 x']) := by rw [h, h']

set_option maxRecDepth 40000 in
set_option maxHeartbeats 1000000 in
theorem sPack_any {n : Nat} (t : Tm n) (c0 c1 c2 c3 : Value) (w : World) (ht : TAt (Under w.heap.size) w n t c0 c1 c2 c3) (hl : tot n t ≤ 1048576) :
    Calls Tryz.prog 16 #[.agg #[c0, c1, c2, c3]] w fun e w' => e = .returned (.tuple #[.string (packStr n t), .int .i64 (packCode n t)]) ∧ Below w.heap.size w w' := by
  obtain ⟨k0, k1, k2, k3, k4, k5, rfl, rfl, rfl, rfl⟩ := ht.shape
  have hbx := fun x : Obj => (Below.refl w.heap.size w).alloc (Nat.le_refl _) x
  have hc := hide (fun x => sOK_any t _ _ _ _ (w.alloc x) (ht.up (hbx x)))
  by_cases hf : okB n t = true
  · rw [hf] at hc
    have hok := ok_val.1 hf
    go_enter Tryz.func16, Tryz.ntmps16
    go_wp2_with fail
    refine ((unhide hc) _).mono ?_
    rintro e w1 ⟨rfl, hb⟩
    obtain ⟨f0, f1, f2, f3⟩ := box4 w _ _ _ _ _ (hb.mono (by simp))
    have hb2 := (hbx _).trans (hb.mono (by simp))
    have hown : (w1.alloc (.cells #[.int .u8 131] 5)).ownsRow w1.heap.size 5 1 (.slice (some ⟨w1.heap.size, 0, none⟩) 1 1) 1 (u8c [131]) :=
      ⟨rfl, .inr ⟨w1.heap.size, 1, #[.int .u8 131], rfl, Nat.le_refl _, heap_new _ _, Nat.le_refl _, by unfold maxLen; omega, rfl, rfl⟩⟩
    have hbl : Below w1.heap.size w1 (w1.alloc (.cells #[.int .u8 131] 5)) := (Below.refl _ _).alloc (Nat.le_refl _) _
    have hs1 : w.heap.size + 1 ≤ w1.heap.size := by have := hb.size; simpa using this
    obtain ⟨q0, q1, q2, q3⟩ := box4 w _ _ _ _ _ ((hb.mono (by simp)).trans (hbl.mono hs1))
    have hp := hide (sp_any n t _ _ _ _ (.slice (some ⟨w1.heap.size, 0, none⟩) 1 1) 1 [131] w1.heap.size (w1.alloc (.cells #[.int .u8 131] 5)) ((ht.up hb2).below hbl fun _ h => h) hok.1 (by have := hok.2.1; omega) hown hbl.size (by omega))
    have HF := hide hf
    have HB2 := hide hb2
    have HBL := hide hbl
    clear hf hok hb hb2 hown hbl hc hs1
    go_wp2_with fail
    refine (unhide hp).mono ?_
    rintro e w3 ⟨v3, rfl, ho3, hg3, hl3⟩
    have hb3 : Below w.heap.size w w3 := by
      refine (unhide HB2).trans (((unhide HBL).mono (unhide HB2).size).trans ⟨hg3.os, hg3.tape, hg3.output, hg3.size, fun k hk => hg3.block k ?_ ?_⟩)
      · have := (unhide HB2).size; simp; omega
      · intro e
        have e' : k = w1.heap.size := by simpa [Value.ownBlock] using e
        have := (unhide HB2).size
        omega
    obtain ⟨g, cap, rfl, hg, hgl⟩ := ho3.form (by simp; omega)
    obtain ⟨N, hN⟩ : ∃ N, N = ([131] : List Int).length + (packT n t).length := ⟨_, rfl⟩
    rw [← hN] at ho3 ⊢
    have hN1 : N = 1 + (packT n t).length := hN
    have hcv := run_convert_bytes_arg (P := Tryz.prog) w3 22 5 Tryz.underlying22 Tryz.underlying5 g 0 N cap (131 :: packT n t) (by rw [hN1, List.length_cons]; omega) (fun i hi => by
      have hi' : i < (u8c (131 :: packT n t)).length := by rw [u8c_length, List.length_cons]; omega
      have hc := ho3.cells (g := g) rfl i _ (List.getElem?_eq_getElem hi')
      have hadd : (⟨g, 0, none⟩ : Addr).add i = ⟨g, i, none⟩ := by unfold Addr.add; split <;> simp_all
      rw [hadd] at hc
      rw [Nat.zero_add, hc, u8c_get hi']) 9 Tryz.underlying9
    obtain ⟨S, hS⟩ : ∃ S, S = strOfNums (131 :: packT n t) := ⟨_, rfl⟩
    rw [← hS] at hcv
    have HN := hide hN1
    have HS := hide hS
    have HB3 := hide hb3
    by_cases hfit : N ≤ 40000
    · have hfit' : ¬ (40000 : Int) < N := by omega
      have HFIT := hide hfit
      clear hp ho3 hg3 hl3 hb3 hN hN1 hS hg hgl
      go_wp2_with fail
      go_ret2
      have h1 : 1 + (packT n t).length ≤ 40000 := by have := unhide HN; omega
      exact ⟨ret_sn (by rw [packStr_yes (unhide HF) h1, unhide HS]) (packCode_yes (unhide HF) h1).symm, unhide HB3⟩
    · have hfit' : (40000 : Int) < N := by omega
      clear hp ho3 hg3 hl3 hb3 hN hN1 hS hg hgl hcv
      go_wp2_with fail
      go_ret2
      have h1 : ¬ 1 + (packT n t).length ≤ 40000 := by have := unhide HN; omega
      exact ⟨ret_sn (packStr_full h1).symm (packCode_full (unhide HF) h1).symm, unhide HB3⟩
  · have hf' : okB n t = false := by simpa using hf
    rw [hf'] at hc
    have HF := hide hf
    clear hf hf'
    go_enter Tryz.func16, Tryz.ntmps16
    go_wp2_with (go_at_call 28; refine ((unhide hc) _).mono ?_; rintro e w1 ⟨rfl, hb⟩)
    go_ret2
    exact ⟨ret_sn (packStr_no (unhide HF)).symm (packCode_no (unhide HF)).symm, (hbx _).trans (hb.mono (by simp))⟩

end Go.Proofs.YthfjgffhncogaaaGreat
