/- The law of BitsJoin: its own walk. -/
import Derived.Test.YtbljelopgalkgaaDoorBj7
import Derived.Test.YtbljelopgalkgaaDoorBhl
import Derived.Deep.DeepCutAuto
namespace Go.Proofs.YtbljelopgalkgaaDoor
open Go.RowKit Go.Deep

theorem joinAns_shape (n : Int) (s : ByteArray) (m : Int) (t : ByteArray) : ∃ (A : Int) (S : ByteArray) (C : Int), joinAns n s m t = .tuple #[.agg #[.int .i64 A, .string S], .int .i64 C] := by
  unfold joinAns; split <;> exact ⟨_, _, _, rfl⟩
theorem sameB_same (n : Int) (s : ByteArray) : sameB n n s s = true := by unfold sameB; simp

/-- What two boxes hold, behind anything that leaves them be. -/
theorem two_boxes (w : World) (a b c d : Value) (T1 T2 : TypeId) {w' : World} (h : Below (w.heap.size + 2) ((w.alloc (.cells #[a, b] T1)).alloc (.cells #[c, d] T2)) w') :
    (w'.cell? ⟨w.heap.size, 0, none⟩ = some a ∧ w'.cell? ⟨w.heap.size, 1, none⟩ = some b) ∧ (w'.cell? ⟨w.heap.size + 1, 0, none⟩ = some c ∧ w'.cell? ⟨w.heap.size + 1, 1, none⟩ = some d) := by
  have k0 : ((w.alloc (.cells #[a, b] T1)).alloc (.cells #[c, d] T2)).heap[w.heap.size]? = some (.cells #[a, b] T1 (0, 0)) := by rw [Below.heap_alloc _ _ _ (by simp)]; exact heap_new w _
  have k1 : ((w.alloc (.cells #[a, b] T1)).alloc (.cells #[c, d] T2)).heap[w.heap.size + 1]? = some (.cells #[c, d] T2 (0, 0)) := by
    have := heap_new (w.alloc (.cells #[a, b] T1)) (.cells #[c, d] T2)
    rwa [World.size_alloc] at this
  have q0 := (h.block w.heap.size (by omega)).trans k0
  have q1 := (h.block (w.heap.size + 1) (by omega)).trans k1
  exact ⟨⟨cell_of_heap q0 0, cell_of_heap q0 1⟩, ⟨cell_of_heap q1 0, cell_of_heap q1 1⟩⟩

/-- A call behind a world that keeps what lies below W. -/
theorem later_call {W v w' : World} (hv : Below W.heap.size W v) (hb : Below v.heap.size v w') : Below W.heap.size W w' := hv.trans (hb.mono hv.size)
theorem later_block {v w' : World} {r : Nat} {o : Obj} (h : v.heap[r]? = some o) (hb : Below v.heap.size v w') : w'.heap[r]? = some o := (hb.block r (Array.getElem?_eq_some_iff.1 h).1).trans h
theorem later_new (v : World) (o : Obj) {w' : World} (hb : Below (v.alloc o).heap.size (v.alloc o) w') : w'.heap[v.heap.size]? = some o := later_block (heap_new v o) hb
theorem later_newd (v : World) (o : Obj) {w' : World} (hb : Below (v.alloc o).drew.heap.size (v.alloc o).drew w') : w'.heap[v.heap.size]? = some o := later_block (v := (v.alloc o).drew) (heap_new v o) hb

/-- The place of a pair of bits that a region made early: where it lies, and that it may be written. -/
def Spare (W w : World) (r : Nat) : Prop := w.heap[r]? = some (.cells #[.int .i64 0, .string ⟨#[]⟩] 26 (0, 0)) ∧ W.heap.size ≤ r
theorem Spare.later {W v w' : World} {r : Nat} (h : Spare W v r) (hb : Below v.heap.size v w') : Spare W w' r := ⟨later_block h.1 hb, h.2⟩
theorem Spare.facts {W w : World} {r : Nat} (h : Spare W w r) : w.cell? ⟨r, 0, none⟩ = some (.int .i64 0) ∧ w.cell? ⟨r, 1, none⟩ = some (.string ⟨#[]⟩) ∧ w.frozen? ⟨r, 0, none⟩ = false ∧ w.frozen? ⟨r, 1, none⟩ = false :=
  ⟨cell_of_heap h.1 0, cell_of_heap h.1 1, by simp [World.frozen?, h.1], by simp [World.frozen?, h.1]⟩

/-- A pair of bits is laid at R. -/
def Laid2 (W w : World) (R : Nat) (A : Int) (S : ByteArray) : Prop := W.heap.size ≤ R ∧ R < w.heap.size ∧ (w.cell? ⟨R, 0, none⟩ = some (.int .i64 A) ∧ w.cell? ⟨R, 1, none⟩ = some (.string S)) ∧ Below W.heap.size W w
theorem laid_new {W w : World} (h : Below W.heap.size W w) (A : Int) (S : ByteArray) : Laid2 W (w.alloc (.cells #[.int .i64 A, .string S] 26)) w.heap.size A S :=
  ⟨h.size, by simp, two_new w _ _ _, h.alloc h.size _⟩
theorem laid_spare {W w : World} {r : Nat} (h : Below W.heap.size W w) (hs : Spare W w r) (A : Int) (S : ByteArray) : Laid2 W ((w.setCell ⟨r, 0, none⟩ (.int .i64 A)).setCell ⟨r, 1, none⟩ (.string S)) r A S := by
  obtain ⟨z0, z1, _, _⟩ := hs.facts
  refine ⟨hs.2, by simpa using (Array.getElem?_eq_some_iff.1 hs.1).1, ⟨?_, ?_⟩, (h.setCell (p := ⟨r, 0, none⟩) hs.2 _).setCell (p := ⟨r, 1, none⟩) hs.2 _⟩
  · exact (World.cell?_setCell_other _ _ _ _ (by simp)).trans (World.cell?_setCell_same _ _ _ z0)
  · exact World.cell?_setCell_same _ _ _ ((World.cell?_setCell_other _ _ _ _ (by simp)).trans z1)

set_option maxRecDepth 100000 in
set_option maxHeartbeats 8000000 in
theorem lawB5_any (n : Int) (s : ByteArray) (m : Int) (t : ByteArray) (w : World) (hm : Masks 0 w) (hs : s.size ≤ 9223372036854775807) (ht : t.size ≤ 9223372036854775807) :
    Calls Tryd.prog 4 #[.agg #[.int .i64 n, .string s], .agg #[.int .i64 m, .string t]] w fun e w' => e = .returned (.bool true) ∧ Below w.heap.size w w' := by
  obtain ⟨W0, hW0⟩ : ∃ W0, W0 = (w.alloc (.cells #[.int .i64 n, .string s] 23)).alloc (.cells #[.int .i64 m, .string t] 23) := ⟨_, rfl⟩
  have hs0 : W0.heap.size = w.heap.size + 2 := by rw [hW0]; simp
  have hb0 : Below w.heap.size w W0 := by rw [hW0]; exact ((Below.refl w.heap.size w).alloc (Nat.le_refl _) _).alloc (by simp) _
  have F := hide (fun w' (hb : Below W0.heap.size W0 w') => two_boxes w (.int .i64 n) (.string s) (.int .i64 m) (.string t) 23 23 (w' := w') (by rw [← hW0, ← hs0]; exact hb))
  have Hb0 := hide hb0
  have HW := hide hW0
  have Hm := hide hm
  have Hend := hide (fun w' (hb : Below W0.heap.size W0 w') => hb0.trans (hb.mono hb0.size))
  clear hm hb0
  have hsz := hide (szB_any n s 1048576 W0 hs (by omega) (by omega))
  obtain ⟨⟨f0, f1⟩, ⟨f2, f3⟩⟩ := unhide F W0 (Below.refl _ _)
  by_cases hl : s.size ≤ 1048576
  · have hle : leftB s 1048576 = 1048576 - (s.size : Int) := if_pos (by omega)
    have hnn : ¬ (1048576 : Int) - (s.size : Int) < 0 := by omega
    have hsz2 := hide (fun w => szB_any m t (1048576 - (s.size : Int)) w ht (by omega) (by omega))
    by_cases hl2 : s.size + t.size ≤ 1048576
    · have hle2 : leftB t (1048576 - (s.size : Int)) = 1048576 - (s.size : Int) - t.size := if_pos (by omega)
      have hnn2 : ¬ (1048576 : Int) - (s.size : Int) - (t.size : Int) < 0 := by omega
      obtain ⟨A, S, C, hsh⟩ := joinAns_shape n s m t
      have h1 := fun w => sBitsJoin_any n s m t w
      have h2 := fun w hm => iBitsJoin_any n s m t w hm hl (by omega)
      simp only [hsh] at h1 h2
      have H1 := hide h1
      have H2 := hide h2
      clear h1 h2 hsh
      go_enter Tryd.func4, Tryd.ntmps4
      go_wp2_with fail
      rw [← unhide HW]
      clear hW0
      refine (unhide hsz).mono ?_
      rintro e w1 ⟨rfl, hb1⟩
      rw [hle]
      obtain ⟨⟨f0, f1⟩, ⟨f2, f3⟩⟩ := unhide F w1 hb1
      have K1 := hide hb1
      clear hb1
      go_wp2_with fail
      refine (unhide hsz2 _).mono ?_
      rintro e w2 ⟨rfl, hb2⟩
      rw [hle2]
      have hB2 := (unhide K1).trans (hb2.mono (unhide K1).size)
      have K2 := hide hB2
      clear hb2 hB2 f0 f1 f2 f3
      go_wp2_with fail
      have K2d := hide (unhide K2).drew
      go_cut [6, 7] (fun sp sc wc => ∃ R, sp = .pointer (some ⟨R, 0, none⟩) ∧ sc = .int .i64 C ∧ Laid2 W0 wc R A S)
      case first =>
        obtain ⟨⟨f0, f1⟩, ⟨f2, f3⟩⟩ := unhide F _ (unhide K2)
        have aw2 : w.heap.size < w2.heap.size := by have := (unhide K2).size; omega
        have bw2 : w.heap.size + 1 < w2.heap.size := by have := (unhide K2).size; omega
        go_region_with (first
          | (go_at_call_of 10 s; refine (toB_any n s _).mono ?_; rintro e y1 ⟨rfl, hb⟩; have Ky1 := hide (later_call (unhide K2d) hb); clear f0 f1 f2 f3; obtain ⟨⟨f0, f1⟩, ⟨f2, f3⟩⟩ := unhide F _ (unhide Ky1); have ay1 : w.heap.size < y1.heap.size := (by have := (unhide Ky1).size; omega); have by1 : w.heap.size + 1 < y1.heap.size := (by have := (unhide Ky1).size; omega); clear hb)
          | (go_at_call_of 10 s; refine (toB_any n s _).mono ?_; rintro e y1 ⟨rfl, hb⟩; have Ky1 := hide (later_call ((unhide K2).alloc (unhide K2).size (.cells #[.int .i64 0, .string ⟨#[]⟩] 26)).drew hb); have SPy1 : Hid (Spare W0 y1 w2.heap.size) := ⟨later_newd w2 _ hb, (unhide K2).size⟩; clear f0 f1 f2 f3; obtain ⟨⟨f0, f1⟩, ⟨f2, f3⟩⟩ := unhide F _ (unhide Ky1); have ay1 : w.heap.size < y1.heap.size := (by have := (unhide Ky1).size; omega); have by1 : w.heap.size + 1 < y1.heap.size := (by have := (unhide Ky1).size; omega); clear hb; obtain ⟨z0, z1, z2, z3⟩ := (unhide SPy1).facts)
          | (go_at_call_of 10 t; have SP := SPy1; refine (toB_any m t _).mono ?_; rintro e y2 ⟨rfl, hb⟩; have Ky2 := hide (later_call (unhide Ky1) hb); have SPy2 := hide ((unhide SP).later hb); clear SP; clear f0 f1 f2 f3; obtain ⟨⟨f0, f1⟩, ⟨f2, f3⟩⟩ := unhide F _ (unhide Ky2); have ay2 : w.heap.size < y2.heap.size := (by have := (unhide Ky2).size; omega); have by2 : w.heap.size + 1 < y2.heap.size := (by have := (unhide Ky2).size; omega); clear hb; obtain ⟨z0, z1, z2, z3⟩ := (unhide SPy2).facts)
          | (go_at_call_of 10 t; refine (toB_any m t _).mono ?_; rintro e y2 ⟨rfl, hb⟩; have Ky2 := hide (later_call (unhide Ky1) hb); clear f0 f1 f2 f3; obtain ⟨⟨f0, f1⟩, ⟨f2, f3⟩⟩ := unhide F _ (unhide Ky2); have ay2 : w.heap.size < y2.heap.size := (by have := (unhide Ky2).size; omega); have by2 : w.heap.size + 1 < y2.heap.size := (by have := (unhide Ky2).size; omega); clear hb)
          | (go_at_call_of 10 t; refine (toB_any m t _).mono ?_; rintro e y2 ⟨rfl, hb⟩; have Ky2 := hide (later_call ((unhide Ky1).alloc (unhide Ky1).size (.cells #[.int .i64 0, .string ⟨#[]⟩] 26)) hb); have SPy2 : Hid (Spare W0 y2 y1.heap.size) := ⟨later_new y1 _ hb, (unhide Ky1).size⟩; clear f0 f1 f2 f3; obtain ⟨⟨f0, f1⟩, ⟨f2, f3⟩⟩ := unhide F _ (unhide Ky2); have ay2 : w.heap.size < y2.heap.size := (by have := (unhide Ky2).size; omega); have by2 : w.heap.size + 1 < y2.heap.size := (by have := (unhide Ky2).size; omega); clear hb; obtain ⟨z0, z1, z2, z3⟩ := (unhide SPy2).facts)
          | (go_at_call 12; have SP := SPy2; refine (unhide H1 _).mono ?_; rintro e y3 ⟨rfl, hb⟩; have Ky3 := hide (later_call (unhide Ky2) hb); have SPy3 := hide ((unhide SP).later hb); clear SP; clear f0 f1 f2 f3; obtain ⟨⟨f0, f1⟩, ⟨f2, f3⟩⟩ := unhide F _ (unhide Ky3); have ay3 : w.heap.size < y3.heap.size := (by have := (unhide Ky3).size; omega); have by3 : w.heap.size + 1 < y3.heap.size := (by have := (unhide Ky3).size; omega); clear hb; obtain ⟨z0, z1, z2, z3⟩ := (unhide SPy3).facts)
          | (go_at_call 12; refine (unhide H1 _).mono ?_; rintro e y3 ⟨rfl, hb⟩; have Ky3 := hide (later_call (unhide Ky2) hb); clear f0 f1 f2 f3; obtain ⟨⟨f0, f1⟩, ⟨f2, f3⟩⟩ := unhide F _ (unhide Ky3); have ay3 : w.heap.size < y3.heap.size := (by have := (unhide Ky3).size; omega); have by3 : w.heap.size + 1 < y3.heap.size := (by have := (unhide Ky3).size; omega); clear hb)
          | (go_at_call 12; refine (unhide H1 _).mono ?_; rintro e y3 ⟨rfl, hb⟩; have Ky3 := hide (later_call ((unhide Ky2).alloc (unhide Ky2).size (.cells #[.int .i64 0, .string ⟨#[]⟩] 26)) hb); have SPy3 : Hid (Spare W0 y3 y2.heap.size) := ⟨later_new y2 _ hb, (unhide Ky2).size⟩; clear f0 f1 f2 f3; obtain ⟨⟨f0, f1⟩, ⟨f2, f3⟩⟩ := unhide F _ (unhide Ky3); have ay3 : w.heap.size < y3.heap.size := (by have := (unhide Ky3).size; omega); have by3 : w.heap.size + 1 < y3.heap.size := (by have := (unhide Ky3).size; omega); clear hb; obtain ⟨z0, z1, z2, z3⟩ := (unhide SPy3).facts))
        all_goals
          go_wp2_with fail
          go_meet
          first
            | exact ⟨_, rfl, rfl, laid_new (unhide Ky3) A S⟩
            | exact ⟨_, rfl, rfl, laid_spare (unhide Ky3) (unhide SPy3) A S⟩
      case rest =>
        obtain ⟨R, rfl, rfl, hR0, hR1, ⟨r0, r1⟩, hRb⟩ := hcut
        rename World => w3
        have F2 := hide (fun w' (hb : Below w3.heap.size w3 w') => unhide F w' (later_call hRb hb))
        have Hmk := hide (fun w' (hb : Below w3.heap.size w3 w') => unhide Hend w' (later_call hRb hb))
        have hs3 : W0.heap.size ≤ w3.heap.size := hRb.size
        have K3 := hide (Below.refl w3.heap.size w3)
        have K3d := hide (Below.refl w3.heap.size w3).drew
        have HR := hide (And.intro r0 r1)
        clear r0 r1 hRb
        go_wp2_with fail
        go_cut [8, 9] (fun sp sc wc => ∃ R, sp = .pointer (some ⟨R, 0, none⟩) ∧ sc = .int .i64 C ∧ Laid2 w3 wc R A S)
        case first =>
          obtain ⟨⟨f0, f1⟩, ⟨f2, f3⟩⟩ := unhide F2 _ (unhide K3)
          have aw3 : w.heap.size < w3.heap.size := by have := (unhide K3).size; omega
          have bw3 : w.heap.size + 1 < w3.heap.size := by have := (unhide K3).size; omega
          go_region_with (first
            | (go_at_call_of 10 s; refine (toB_any n s _).mono ?_; rintro e x1 ⟨rfl, hb⟩; have Kx1 := hide (later_call (unhide K3d) hb); clear f0 f1 f2 f3; obtain ⟨⟨f0, f1⟩, ⟨f2, f3⟩⟩ := unhide F2 _ (unhide Kx1); have ax1 : w.heap.size < x1.heap.size := (by have := (unhide Kx1).size; omega); have bx1 : w.heap.size + 1 < x1.heap.size := (by have := (unhide Kx1).size; omega); clear hb)
            | (go_at_call_of 10 s; refine (toB_any n s _).mono ?_; rintro e x1 ⟨rfl, hb⟩; have Kx1 := hide (later_call ((unhide K3).alloc (unhide K3).size (.cells #[.int .i64 0, .string ⟨#[]⟩] 26)).drew hb); have SPx1 : Hid (Spare w3 x1 w3.heap.size) := ⟨later_newd w3 _ hb, (unhide K3).size⟩; clear f0 f1 f2 f3; obtain ⟨⟨f0, f1⟩, ⟨f2, f3⟩⟩ := unhide F2 _ (unhide Kx1); have ax1 : w.heap.size < x1.heap.size := (by have := (unhide Kx1).size; omega); have bx1 : w.heap.size + 1 < x1.heap.size := (by have := (unhide Kx1).size; omega); clear hb; obtain ⟨z0, z1, z2, z3⟩ := (unhide SPx1).facts)
            | (go_at_call_of 10 t; have SP := SPx1; refine (toB_any m t _).mono ?_; rintro e x2 ⟨rfl, hb⟩; have Kx2 := hide (later_call (unhide Kx1) hb); have SPx2 := hide ((unhide SP).later hb); clear SP; clear f0 f1 f2 f3; obtain ⟨⟨f0, f1⟩, ⟨f2, f3⟩⟩ := unhide F2 _ (unhide Kx2); have ax2 : w.heap.size < x2.heap.size := (by have := (unhide Kx2).size; omega); have bx2 : w.heap.size + 1 < x2.heap.size := (by have := (unhide Kx2).size; omega); clear hb; obtain ⟨z0, z1, z2, z3⟩ := (unhide SPx2).facts)
            | (go_at_call_of 10 t; refine (toB_any m t _).mono ?_; rintro e x2 ⟨rfl, hb⟩; have Kx2 := hide (later_call (unhide Kx1) hb); clear f0 f1 f2 f3; obtain ⟨⟨f0, f1⟩, ⟨f2, f3⟩⟩ := unhide F2 _ (unhide Kx2); have ax2 : w.heap.size < x2.heap.size := (by have := (unhide Kx2).size; omega); have bx2 : w.heap.size + 1 < x2.heap.size := (by have := (unhide Kx2).size; omega); clear hb)
            | (go_at_call_of 10 t; refine (toB_any m t _).mono ?_; rintro e x2 ⟨rfl, hb⟩; have Kx2 := hide (later_call ((unhide Kx1).alloc (unhide Kx1).size (.cells #[.int .i64 0, .string ⟨#[]⟩] 26)) hb); have SPx2 : Hid (Spare w3 x2 x1.heap.size) := ⟨later_new x1 _ hb, (unhide Kx1).size⟩; clear f0 f1 f2 f3; obtain ⟨⟨f0, f1⟩, ⟨f2, f3⟩⟩ := unhide F2 _ (unhide Kx2); have ax2 : w.heap.size < x2.heap.size := (by have := (unhide Kx2).size; omega); have bx2 : w.heap.size + 1 < x2.heap.size := (by have := (unhide Kx2).size; omega); clear hb; obtain ⟨z0, z1, z2, z3⟩ := (unhide SPx2).facts)
            | (go_at_call 13; have SP := SPx2; refine (unhide H2 _ ((unhide Hm).keep (unhide Hmk _ (unhide Kx2)))).mono ?_; rintro e x3 ⟨rfl, hb⟩; have Kx3 := hide (later_call (unhide Kx2) hb); have SPx3 := hide ((unhide SP).later hb); clear SP; clear f0 f1 f2 f3; obtain ⟨⟨f0, f1⟩, ⟨f2, f3⟩⟩ := unhide F2 _ (unhide Kx3); have ax3 : w.heap.size < x3.heap.size := (by have := (unhide Kx3).size; omega); have bx3 : w.heap.size + 1 < x3.heap.size := (by have := (unhide Kx3).size; omega); clear hb; obtain ⟨z0, z1, z2, z3⟩ := (unhide SPx3).facts)
            | (go_at_call 13; refine (unhide H2 _ ((unhide Hm).keep (unhide Hmk _ (unhide Kx2)))).mono ?_; rintro e x3 ⟨rfl, hb⟩; have Kx3 := hide (later_call (unhide Kx2) hb); clear f0 f1 f2 f3; obtain ⟨⟨f0, f1⟩, ⟨f2, f3⟩⟩ := unhide F2 _ (unhide Kx3); have ax3 : w.heap.size < x3.heap.size := (by have := (unhide Kx3).size; omega); have bx3 : w.heap.size + 1 < x3.heap.size := (by have := (unhide Kx3).size; omega); clear hb)
            | (go_at_call 13; refine (unhide H2 _ ((unhide Hm).keep (unhide Hmk _ ((unhide Kx2).alloc (unhide Kx2).size (.cells #[.int .i64 0, .string ⟨#[]⟩] 26))))).mono ?_; rintro e x3 ⟨rfl, hb⟩; have Kx3 := hide (later_call ((unhide Kx2).alloc (unhide Kx2).size (.cells #[.int .i64 0, .string ⟨#[]⟩] 26)) hb); have SPx3 : Hid (Spare w3 x3 x2.heap.size) := ⟨later_new x2 _ hb, (unhide Kx2).size⟩; clear f0 f1 f2 f3; obtain ⟨⟨f0, f1⟩, ⟨f2, f3⟩⟩ := unhide F2 _ (unhide Kx3); have ax3 : w.heap.size < x3.heap.size := (by have := (unhide Kx3).size; omega); have bx3 : w.heap.size + 1 < x3.heap.size := (by have := (unhide Kx3).size; omega); clear hb; obtain ⟨z0, z1, z2, z3⟩ := (unhide SPx3).facts))
          all_goals
            go_wp2_with fail
            go_meet
            first
              | exact ⟨_, rfl, rfl, laid_new (unhide Kx3) A S⟩
              | exact ⟨_, rfl, rfl, laid_spare (unhide Kx3) (unhide SPx3) A S⟩
        case rest =>
          obtain ⟨R2, rfl, rfl, hT0, hT1, ⟨t0, t1⟩, hTb⟩ := hcut
          rename World => w4
          have r0 := (hTb.cell (p := ⟨R, 0, none⟩) hR1).trans (unhide HR).1
          have r1 := (hTb.cell (p := ⟨R, 1, none⟩) hR1).trans (unhide HR).2
          have hfin := unhide Hmk w4 hTb
          have HFin := hide hfin
          have hs4 := hTb.size
          clear hTb hfin
          go_wp2_with fail
          refine (eqB_any A A S S _).mono ?_
          rintro e w6 ⟨rfl, hb6⟩
          rw [sameB_same]
          have hfin := (unhide HFin).trans (hb6.mono (by have := (unhide HFin).size; simpa using this))
          have HFin2 := hide hfin
          clear hb6 hfin
          go_wp2_with fail
          go_ret
          exact ⟨rfl, unhide HFin2⟩
    · have hle2 : leftB t (1048576 - (s.size : Int)) = -1 := if_neg (by omega)
      go_enter Tryd.func4, Tryd.ntmps4
      go_wp2_with fail
      rw [← unhide HW]
      clear hW0
      refine (unhide hsz).mono ?_
      rintro e w1 ⟨rfl, hb1⟩
      rw [hle]
      obtain ⟨⟨f0, f1⟩, ⟨f2, f3⟩⟩ := unhide F w1 hb1
      have K1 := hide hb1
      clear hb1
      go_wp2_with fail
      refine (unhide hsz2 _).mono ?_
      rintro e w2 ⟨rfl, hb2⟩
      rw [hle2]
      have K2 := hide ((unhide K1).trans (hb2.mono (unhide K1).size))
      clear hb2
      go_wp2_with fail
      go_ret
      exact ⟨rfl, unhide Hend _ (unhide K2)⟩
  · have hle : leftB s 1048576 = -1 := if_neg (by omega)
    go_enter Tryd.func4, Tryd.ntmps4
    go_wp2_with fail
    rw [← unhide HW]
    clear hW0
    refine (unhide hsz).mono ?_
    rintro e w1 ⟨rfl, hb1⟩
    rw [hle]
    have K1 := hide hb1
    clear hb1
    go_wp2_with fail
    go_ret
    exact ⟨rfl, unhide Hend _ (unhide K1)⟩

end Go.Proofs.YtbljelopgalkgaaDoor
