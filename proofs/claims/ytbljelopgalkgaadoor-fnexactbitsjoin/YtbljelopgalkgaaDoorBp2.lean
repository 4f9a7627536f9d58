/- impl's rows of bits that are being made: newRow, set, bits; a field's power and fits. -/
import Derived.Test.YtbljelopgalkgaaDoorBis
import Derived.Test.YtbljelopgalkgaaDoorBpp
namespace Go.Proofs.YtbljelopgalkgaaDoor
open Go.RowKit Go.Deep

theorem ret_int {k : IntKind} {a b : Int} (h : a = b) : Ending.returned (.int k b) = .returned (.int k a) := by rw [h]
/-- The two cells of a boxed struct are not frozen, later too. -/
theorem box2f (w : World) (a b : Value) (e : TypeId) {w' : World} (h : Below (w.heap.size + 1) (w.alloc (.cells #[a, b] e)) w') (o : Nat) : w'.frozen? ⟨w.heap.size, o, none⟩ = false := by
  rw [World.frozen?_of_block (w := w.alloc (.cells #[a, b] e)) (h.block w.heap.size (by omega))]
  simp [go_sem]

set_option maxRecDepth 100000 in
theorem fits_any (n : Int) (sg li : Bool) (w : World) :
    Calls Tryd.prog 30 #[.agg #[.int .i64 n, .bool sg, .bool li]] w fun e w' => e = .returned (.bool (decide (0 ≤ n) && decide (n ≤ 49))) ∧ Below w.heap.size w w' := by
  cases h : decide (0 ≤ n)
  · go_enter Tryd.func30, Tryd.ntmps30
    go_wp2_with fail
    go_ret
    exact ⟨rfl, (Below.refl w.heap.size w).alloc (Nat.le_refl _) _⟩
  · go_enter Tryd.func30, Tryd.ntmps30
    go_wp2_with fail
    go_ret
    exact ⟨rfl, (Below.refl w.heap.size w).alloc (Nat.le_refl _) _⟩

set_option maxRecDepth 100000 in
theorem power_any (size : Nat) (sg li : Bool) (i : Nat) (w : World) (hi : i < size) (hs : size ≤ 49) :
    Calls Tryd.prog 38 #[.agg #[.int .i64 size, .bool sg, .bool li], .int .i64 i] w fun e w' => e = .returned (.int .i64 (pw size li i)) ∧ Below w.heap.size w w' := by
  cases li
  · have hr := hide (show ((pw size false i : Nat) : Int) = (size : Int) - 1 - i by unfold pw; simp only; omega)
    go_enter Tryd.func38, Tryd.ntmps38
    go_wp2_with fail
    go_ret
    exact ⟨by rw [unhide hr]; rfl, (Below.refl w.heap.size w).alloc (Nat.le_refl _) _⟩
  · have hr := hide (show ((pw size true i : Nat) : Int) = min ((i : Int) - (i : Int) % 8 + 8) size - 1 - (i : Int) % 8 by unfold pw; simp only; omega)
    go_enter Tryd.func38, Tryd.ntmps38
    go_wp2_with fail
    all_goals go_ret
    all_goals exact ⟨ret_int (by have := unhide hr; omega), (Below.refl w.heap.size w).alloc (Nat.le_refl _) _⟩

set_option maxRecDepth 100000 in
theorem newRow_any (n : Nat) (w : World) (hn : n ≤ 100000) :
    Calls Tryd.prog 35 #[.int .i64 n] w fun e w' => ∃ g, e = .returned (.agg #[.int .i64 n, .slice (some ⟨g, 0, none⟩) ((n + 7) / 8) ((n + 7) / 8)]) ∧
      w'.ownsRow w.heap.size 5 1 (.slice (some ⟨g, 0, none⟩) ((n + 7) / 8) ((n + 7) / 8)) ((n + 7) / 8) (u8s (List.replicate ((n + 7) / 8) 0)) ∧ Below w.heap.size w w' := by
  have hmk := fun w : World => run_make_row' (P := Tryd.prog) 41 5 (.int .u8 0) 1 Tryd.underlying41 info_u8 rfl .i64 .i64 ((n + 7) / 8) (by omega) (by omega) w
  have e8 : (((n + 7) / 8 : Nat) : Int) = ((n : Int) + 7) / 8 := by omega
  rw [e8] at hmk
  clear e8
  have hb2 := two_new w (.int .i64 0) (.slice none 0 0) 46
  have hbx := (Below.refl w.heap.size w).alloc (Nat.le_refl _) (.cells #[.int .i64 0, .slice none 0 0] 46)
  have Hbx := hide hbx
  clear hbx
  go_enter Tryd.func35, Tryd.ntmps35
  go_wp2_with fail
  refine (bf_any n _ (by omega) (by omega)).mono ?_
  rintro e w1 ⟨rfl, hb1⟩
  have hB1 := hb1.mono (show w.heap.size + 1 ≤ _ by simp)
  have hs1 : w.heap.size < w1.heap.size := by have := hB1.size; simp at this; omega
  have g0 : ∀ o, (w1.alloc o).cell? ⟨w.heap.size, 0, none⟩ = some (.int .i64 0) := fun o => (World.cell?_alloc_past _ _ _ hs1).trans (box2 w _ _ _ hB1).1
  have g1 : ∀ o, (w1.alloc o).cell? ⟨w.heap.size, 1, none⟩ = some (.slice none 0 0) := fun o => (World.cell?_alloc_past _ _ _ hs1).trans (box2 w _ _ _ hB1).2
  have g2 : ∀ o, (w1.alloc o).frozen? ⟨w.heap.size, 0, none⟩ = false := fun o => (World.frozen?_alloc_past _ _ _ hs1).trans (box2f w _ _ _ hB1 0)
  have g3 : ∀ o, (w1.alloc o).frozen? ⟨w.heap.size, 1, none⟩ = false := fun o => (World.frozen?_alloc_past _ _ _ hs1).trans (box2f w _ _ _ hB1 1)
  obtain ⟨k0, k1⟩ := box2 w _ _ _ hB1
  have k2 := box2f w _ _ _ hB1 0
  have k3 := box2f w _ _ _ hB1 1
  have HB1 := hide hB1
  clear hb1 hB1 hb2
  go_wp2_with fail
  obtain ⟨W2, hW2⟩ : ∃ W2, W2 = (w1.setCell ⟨w.heap.size, 0, none⟩ (.int .i64 n)).setCell ⟨w.heap.size, 1, none⟩ (.slice (some ⟨w1.heap.size, 0, none⟩) ((n + 7) / 8) ((n + 7) / 8)) := ⟨_, rfl⟩
  have hs2 : W2.heap.size = w1.heap.size := by rw [hW2]; simp
  have hb2 : Below w.heap.size w W2 := by rw [hW2]; exact ((((unhide Hbx).trans ((unhide HB1).mono (by omega))).setCell (Nat.le_refl _) _).setCell (Nat.le_refl _) _)
  have c0 : W2.cell? ⟨w.heap.size, 0, none⟩ = some (.int .i64 n) := by rw [hW2]; simp [go_sem, k0]
  have c1 : W2.cell? ⟨w.heap.size, 1, none⟩ = some (.slice (some ⟨w1.heap.size, 0, none⟩) ((n + 7) / 8) ((n + 7) / 8)) := by rw [hW2]; simp [go_sem, k1]
  rw [← hW2]
  have d0 := (World.cell?_alloc_past (w := W2) (.cells (madeCells #[.int .u8 0] ((n + 7) / 8)) 5) _ _ (show w.heap.size < W2.heap.size by omega)).trans c0
  have d1 := (World.cell?_alloc_past (w := W2) (.cells (madeCells #[.int .u8 0] ((n + 7) / 8)) 5) _ _ (show w.heap.size < W2.heap.size by omega)).trans c1
  refine bodyPost_ret (v := .agg #[.int .i64 n, .slice (some ⟨w1.heap.size, 0, none⟩) ((n + 7) / 8) ((n + 7) / 8)]) (by simp [results, Tryd.results35, go_sem, d0, d1]) rfl ⟨_, rfl, ?_, hb2.alloc (by omega) _⟩
  have h := World.ownsRow_lit (base := w.heap.size) (e := 5) (size := 1) W2 (madeCells #[.int .u8 0] ((n + 7) / 8)) ((n + 7) / 8) (by omega) (by unfold maxLen; omega) (by simp [size_madeCells])
  have e : u8s (List.replicate ((n + 7) / 8) 0) = (madeCells #[Value.int .u8 0] ((n + 7) / 8)).toList := by
    apply List.ext_getElem?
    intro i
    by_cases h : i < (n + 7) / 8 <;> simp [u8s, madeCells, h, Nat.mod_one]
  rw [e, ← hs2]
  exact h

set_option maxRecDepth 100000 in
theorem set_any (R g m c i : Nat) (ys : List Int) (w : World) (hm : Masks 0 w) (h1 : w.cell? ⟨R, 1, none⟩ = some (.slice (some ⟨g, 0, none⟩) m c))
    (hy : w.cell? ⟨g, i / 8, none⟩ = some (.int .u8 (ys.getD (i / 8) 0))) (hf : w.frozen? ⟨g, i / 8, none⟩ = false) (hi : i / 8 < m) (hi2 : i ≤ 10000000000) :
    Calls Tryd.prog 39 #[.pointer (some ⟨R, 0, none⟩), .int .i64 i] w fun e w' => e = .returned (.tuple #[]) ∧ w' = (w.setCell ⟨g, i / 8, none⟩ (.int .u8 (bits .or .u8 (ys.getD (i / 8) 0) (2 ^ (7 - i % 8))))).drew := by
  have hmk := hm.2 (i % 8) (Nat.mod_lt _ (by decide))
  obtain ⟨y, hye⟩ : ∃ y, y = ys.getD (i / 8) 0 := ⟨_, rfl⟩
  rw [← hye] at hy ⊢
  clear hm hye
  go_enter Tryd.func39, Tryd.ntmps39
  go_wp2_with fail
  go_region
  go_end0
  exact ⟨rfl, rfl⟩

set_option maxRecDepth 100000 in
theorem rbits_any (R g m c : Nat) (n : Int) (ys : List Int) (w : World) (h0 : w.cell? ⟨R, 0, none⟩ = some (.int .i64 n)) (h1 : w.cell? ⟨R, 1, none⟩ = some (.slice (some ⟨g, 0, none⟩) m c)) (hR : R < w.heap.size)
    (hl : ys.length = m) (hy : ∀ i, i < m → w.cell? ⟨g, i, none⟩ = some (.int .u8 (ys.getD i 0))) (hg : g < w.heap.size) :
    Calls Tryd.prog 26 #[.pointer (some ⟨R, 0, none⟩)] w fun e w' => e = .returned (.agg #[.int .i64 n, .string (strOfNums ys)]) ∧ Below w.heap.size w w' := by
  have hcv := run_convert_bytes_arg (P := Tryd.prog) ((w.alloc (.cells #[.int .i64 0, .string ⟨#[]⟩] 26)).drew) 41 5 Tryd.underlying41 Tryd.underlying5 g 0 m c ys hl (fun i hi => by
    rw [Nat.zero_add]
    exact (World.cell?_alloc_past (w := w) (.cells #[.int .i64 0, .string ⟨#[]⟩] 26) _ _ hg).trans (hy i hi)) 9 Tryd.underlying9
  obtain ⟨S, hS⟩ : ∃ S, S = strOfNums ys := ⟨_, rfl⟩
  rw [← hS] at hcv ⊢
  clear hS hy
  go_enter Tryd.func26, Tryd.ntmps26
  go_wp2_with fail
  go_region
  go_wp2_with fail
  have hc0 : ((w.alloc (.cells #[.int .i64 n, .string S] 26)).drew).cell? ⟨w.heap.size, 0, none⟩ = some (.int .i64 n) := (two_new w _ _ _).1
  have hc1 : ((w.alloc (.cells #[.int .i64 n, .string S] 26)).drew).cell? ⟨w.heap.size, 1, none⟩ = some (.string S) := (two_new w _ _ _).2
  exact bodyPost_ret (v := .agg #[.int .i64 n, .string S]) (by simp [results, Tryd.results26, go_sem, hc0, hc1]) rfl ⟨rfl, ((Below.refl w.heap.size w).alloc (Nat.le_refl _) _).drew⟩

end Go.Proofs.YtbljelopgalkgaaDoor
