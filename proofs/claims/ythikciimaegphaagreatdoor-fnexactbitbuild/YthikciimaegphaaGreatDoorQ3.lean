/- spec.l02Row: the bits of a row, a byte each. -/
import Derived.Test.YthikciimaegphaaGreatDoorRows
import Derived.Test.YthikciimaegphaaGreatDoorQ2
import Derived.WalkSpells
import Derived.WalkLawsBesides
import Derived.BigQuiet
import Derived.Deep.OwnRows
namespace Go.Proofs.YthikciimaegphaaGreatDoor
open Go.RowKit

theorem info_u8 : (Tryz.prog.info? 5).map (fun i => (i.zero, i.size, i.bytes)) = some (some (.int .u8 0), 1, 1) := by kernel_rfl

/-- The bits as cells. -/
abbrev u8s (xs : List Int) : List Value := xs.map (Value.int .u8)

set_option maxRecDepth 100000 in
theorem row_any (n : Int) (s : ByteArray) (w : World) (hn : n ≤ 8 * s.size) (hs : n ≤ 1000000000) :
    Calls Tryz.prog 18 #[.agg #[.int .i64 n, .string s]] w fun e w' => ∃ v, e = .returned v ∧ w'.ownsRow w.heap.size 5 1 v n.toNat (u8s (bitsOf s n.toNat)) ∧ Below w.heap.size w w' := by
  obtain ⟨i0, hi, hz0, hz1, hz2⟩ := info_parts info_u8
  go_enter Tryz.func18, Tryz.ntmps18
  go_wp2_with fail
  go_loopw [3, 4] (fun v iv wr => ∃ k : Nat, k ≤ n.toNat ∧ iv = .int .i64 k ∧ wr.ownsRow (w.heap.size + 1) 5 1 v k (u8s (bitsOf s k)) ∧ wr.cell? ⟨w.heap.size, 0, none⟩ = some (.int .i64 n) ∧
      wr.cell? ⟨w.heap.size, 1, none⟩ = some (.string s) ∧ Below (w.heap.size + 1) (w.alloc (.cells #[.int .i64 n, .string s] 25)) wr) (fun _ iv _ => n.toNat - (intOf iv).toNat)
  case atStart =>
    refine ⟨0, Nat.zero_le _, rfl, by have h := World.ownsRow_lit (base := w.heap.size + 1) (e := 5) (size := 1) (w.alloc (.cells #[.int .i64 n, .string s] 25)) #[] 0 (by simp) (by decide) rfl; simpa [u8s, bitsOf] using h, ?_, ?_, (Below.refl _ _).alloc (by simp) _⟩
    · exact (World.cell?_alloc_past _ _ _ (by simp)).trans (two_new _ _ _ _).1
    · exact (World.cell?_alloc_past _ _ _ (by simp)).trans (two_new _ _ _ _).2
  case round =>
    obtain ⟨k, hk, rfl, hown, hc0, hc1, hb⟩ := hrel
    have hsz := hb.size
    simp only [World.size_alloc] at hsz
    by_cases hlt : (k : Int) < n
    · have hkl : k / 8 < s.size := by omega
      go_wp2_with (at_builtin; refine wpList_append_own _ rfl (.tmp 12) (.tmp 24) 33 rfl (w.heap.size + 1) 5 i0 (.int .u8 0) 1 1 Tryz.underlying33 hi hz0 hz1 hz2 rfl (by decide) _ _ _ rfl (hown.alloc _) ⟨wr.heap.size, 0, none⟩ 1 1 [.int .u8 (bit s k)] rfl rfl ?c1 ?c2 ?c3 ?c4 ?c5 ?_)
      case c1 => rw [bit_walk s k hkl]; exact cell_one_new _ _ _
      case c2 => intro u hu; simp at hu; subst hu; rfl
      case c3 => unfold maxLen; omega
      case c4 => omega
      case c5 => simp; omega
      intro v' w1 hown' hgrow _
      have hne : some w.heap.size ≠ u3.ownBlock := fun h => by have := (hown.lt _ h.symm).1; omega
      have hB1 : Below (w.heap.size + 1) (w.alloc (.cells #[.int .i64 n, .string s] 25)) w1 := (hb.alloc hsz _).grown hgrow (by simp; omega) (fun j hj => (hown.lt j hj).1)
      have hd0 := (hgrow.cell (a := ⟨w.heap.size, 0, none⟩) ((World.cell?_alloc_past _ _ _ (by show w.heap.size < _; omega)).trans hc0) hne)
      have hd1 := (hgrow.cell (a := ⟨w.heap.size, 1, none⟩) ((World.cell?_alloc_past _ _ _ (by show w.heap.size < _; omega)).trans hc1) hne)
      have hown2 : w1.ownsRow (w.heap.size + 1) 5 1 v' (k + 1) (u8s (bitsOf s (k + 1))) := by rw [bitsOf_succ]; simpa [u8s] using hown'
      clear hown' hown hb hc0 hc1 hgrow
      go_wp2
      go_roundw
      case rel => exact ⟨k + 1, by omega, by go_num, hown2, hd0, hd1, hB1⟩
      case measure => simp [intOf]; omega
    · have hkn : n.toNat = k := by omega
      go_wp2_with fail
      go_ret
      exact ⟨_, rfl, ownsRow_base hown (by omega), ((Below.refl w.heap.size w).alloc (Nat.le_refl _) _).trans (hb.mono (by omega))⟩

end Go.Proofs.YthikciimaegphaaGreatDoor
/- spec.l02Bits: bits, a byte each, as a row. -/
namespace Go.Proofs.YthikciimaegphaaGreatDoor
open Go.RowKit Go.Deep

set_option maxRecDepth 100000 in
theorem pack_any (v : Value) (xs : List Int) (w : World) (hv : RowAt w v xs) (hx : ∀ x ∈ xs, x = 0 ∨ x = 1) (hs : xs.length ≤ 1000000000) :
    Calls Tryz.prog 19 #[v] w fun e w' => e = .returned (.agg #[.int .i64 xs.length, .string (strB xs)]) ∧ Below w.heap.size w w' := by
  obtain ⟨a, cap, rfl, hcap, hel⟩ := hv
  have hmk := fun w : World => run_make_row' (P := Tryz.prog) 33 5 (.int .u8 0) 1 Tryz.underlying33 info_u8 rfl .i64 .i64 ((xs.length + 7) / 8) (by omega) (by omega) w
  have e8 : (((xs.length + 7) / 8 : Nat) : Int) = ((xs.length : Int) + 7) / 8 := by omega
  rw [e8] at hmk
  clear e8
  go_enter Tryz.func19, Tryz.ntmps19
  go_wp2_with fail
  go_loopw [4] (fun iv wr => ∃ k : Nat, k ≤ xs.length ∧ iv = .int .i64 k ∧ wr.ownsRow (w.heap.size + 1) 5 1 (.slice (some ⟨w.heap.size + 1, 0, none⟩) ((xs.length + 7) / 8) ((xs.length + 7) / 8)) ((xs.length + 7) / 8) (u8s (bytesAt xs k)) ∧
      wr.frozen? ⟨w.heap.size, 0, none⟩ = false ∧ wr.frozen? ⟨w.heap.size, 1, none⟩ = false ∧ (∃ x, wr.cell? ⟨w.heap.size, 0, none⟩ = some x) ∧ (∃ x, wr.cell? ⟨w.heap.size, 1, none⟩ = some x) ∧ Below w.heap.size w wr ∧ w.heap.size + 2 ≤ wr.heap.size) (fun iv _ => xs.length - (intOf iv).toNat)
  case atStart =>
    refine ⟨0, Nat.zero_le _, rfl, ?_, ?_, ?_, ⟨_, (World.cell?_alloc_past _ _ _ (by simp)).trans (two_new _ _ _ _).1⟩, ⟨_, (World.cell?_alloc_past _ _ _ (by simp)).trans (two_new _ _ _ _).2⟩, ((Below.refl w.heap.size w).alloc (Nat.le_refl _) _).alloc (by simp) _, by simp⟩
    · have h := World.ownsRow_lit (base := w.heap.size + 1) (e := 5) (size := 1) (w.alloc (.cells #[.int .i64 0, .string ⟨#[]⟩] 25)) (madeCells #[.int .u8 0] ((xs.length + 7) / 8)) ((xs.length + 7) / 8) (by simp) (by unfold maxLen; omega) (by simp [size_madeCells])
      have e : u8s (bytesAt xs 0) = (madeCells #[Value.int .u8 0] ((xs.length + 7) / 8)).toList := by
        rw [bytesAt_zero]
        apply List.ext_getElem?
        intro i
        by_cases h : i < (xs.length + 7) / 8 <;> simp [u8s, madeCells, h, Nat.mod_one]
      rw [e]
      simpa using h
    · simp [go_sem]
    · simp [go_sem]
  case round =>
    obtain ⟨k, hk, rfl, hown, hf0, hf1, ⟨y0, hc0⟩, ⟨y1, hc1⟩, hb, hsz⟩ := hrel
    by_cases hlt : k < xs.length
    · obtain ⟨b, off, rfl, hbk, hxk⟩ := hel k hlt
      have hxr := (hb.cell (p := ⟨b, off + k, none⟩) hbk).trans hxk
      have hkj : k / 8 < (xs.length + 7) / 8 := by omega
      have hx01 := getD_01 hx k
      have hcy : wr.cell? ⟨w.heap.size + 1, k / 8, none⟩ = some (.int .u8 ((bytesAt xs k).getD (k / 8) 0)) := by
        rw [hown.cellAt (k / 8) (by omega)]
        simp [u8s, bytesAt_get _ _ _ hkj]
      have hfy := hown.frozenAt (k / 8)
      have hst := hide (hown.stored (k / 8) (.int .u8 ((bytesAt xs (k + 1)).getD (k / 8) 0)))
      have HS := hide (bytesAt_succ xs hx k hlt)
      obtain ⟨y, hy⟩ : ∃ y, y = (bytesAt xs k).getD (k / 8) 0 := ⟨_, rfl⟩
      obtain ⟨x, hxe⟩ : ∃ x, x = xs.getD k 0 := ⟨_, rfl⟩
      rw [← hy] at hcy
      rw [← hxe] at hxr hx01
      have HY := hide hy
      have HX := hide hxe
      have HO := hide hown
      clear hy hxe hxk hown hx
      go_wp2_with fail
      go_region
      have hu : bits .or .u8 y (x * 2 ^ (7 - k % 8) % 256) = (bytesAt xs (k + 1)).getD (k / 8) 0 := by
        rw [unhide HS, set_getD _ _ _ (by rw [bytesAt_length]; exact hkj), ← unhide HY, ← unhide HX, bit_mod x hx01]
      have H := unhide hst
      rw [← hu] at H
      have hown2 : (wr.setCell ⟨w.heap.size + 1, k / 8, none⟩ (.int .u8 (bits .or .u8 y (x * 2 ^ (7 - k % 8) % 256)))).ownsRow (w.heap.size + 1) 5 1 (.slice (some ⟨w.heap.size + 1, 0, none⟩) ((xs.length + 7) / 8) ((xs.length + 7) / 8)) ((xs.length + 7) / 8) (u8s (bytesAt xs (k + 1))) := by
        have e : u8s (bytesAt xs (k + 1)) = (u8s (bytesAt xs k)).set (k / 8) (.int .u8 (bits .or .u8 y (x * 2 ^ (7 - k % 8) % 256))) := by
          rw [hu]
          conv => lhs; rw [unhide HS]
          rw [u8s, List.map_set, unhide HS, set_getD _ _ _ (by rw [bytesAt_length]; exact hkj)]
        rw [e]
        exact H.1
      have hbn : Below w.heap.size w (wr.setCell ⟨w.heap.size + 1, k / 8, none⟩ (.int .u8 (bits .or .u8 y (x * 2 ^ (7 - k % 8) % 256)))).drew := (hb.setCell (by show w.heap.size ≤ w.heap.size + 1; omega) _).drew
      have HU := hide hu
      clear H hu
      go_wp2_with fail
      go_roundw
      case rel => exact ⟨k + 1, by omega, by go_num, hown2.drew, by simpa [go_sem] using hf0, by simpa [go_sem] using hf1, ⟨y0, by simpa [go_sem] using hc0⟩, ⟨y1, by simpa [go_sem] using hc1⟩, hbn, by simpa using hsz⟩
      case measure => simp [intOf]; omega
    · have hkn : k = xs.length := by omega
      subst hkn
      have hcv := run_convert_bytes_arg (P := Tryz.prog) wr 33 5 Tryz.underlying33 Tryz.underlying5 (w.heap.size + 1) 0 ((xs.length + 7) / 8) ((xs.length + 7) / 8) (bytesAt xs xs.length) (bytesAt_length _ _) (fun i hi => by
        rw [Nat.zero_add, hown.cellAt i (by omega), u8s, List.getElem?_map, bytesAt_get _ _ _ hi, List.getD_eq_getElem?_getD, bytesAt_get _ _ _ hi]; rfl) 9 Tryz.underlying9
      obtain ⟨S, hS⟩ : ∃ S, S = strOfNums (bytesAt xs xs.length) := ⟨_, rfl⟩
      rw [← hS] at hcv
      have HS := hide hS
      clear hS
      go_wp2_with fail
      exact bodyPost_ret (v := .agg #[.int .i64 xs.length, .string S]) (by simp [results, Tryz.results19, go_sem, hc0, hc1]) rfl ⟨by rw [unhide HS]; rfl, (hb.setCell (Nat.le_refl _) _).setCell (Nat.le_refl _) _⟩

/-- The same, with the length and the text under names. -/
theorem pack_as (v : Value) (xs : List Int) (L : Nat) (S : ByteArray) (w : World) (hv : RowAt w v xs) (hx : ∀ x ∈ xs, x = 0 ∨ x = 1) (hl : xs.length = L) (hs : L ≤ 1000000000) (hS : strB xs = S) :
    Calls Tryz.prog 19 #[v] w fun e w' => e = .returned (.agg #[.int .i64 L, .string S]) ∧ Below w.heap.size w w' := by
  subst hl; subst hS; exact pack_any v xs w hv hx hs

end Go.Proofs.YthikciimaegphaaGreatDoor
/- impl's isSet and bytesFor. -/
namespace Go.Proofs.YthikciimaegphaaGreatDoor
open Go.RowKit Go.Deep

set_option maxRecDepth 100000 in
theorem field1 (a b : Value) (w : World) : (Instr.field 25 (.agg #[a, b]) 1).run Tryz.prog w = .ok b w := by rfl
set_option maxRecDepth 100000 in
theorem field0 (a b : Value) (w : World) : (Instr.field 25 (.agg #[a, b]) 0).run Tryz.prog w = .ok a w := by rfl

set_option maxRecDepth 100000 in
theorem bf_any (n : Int) (w : World) (h0 : 0 ≤ n) (hn : n ≤ 10000000000) : Calls Tryz.prog 42 #[.int .i64 n] w fun e w' => e = .returned (.int .i64 ((n + 7) / 8)) ∧ Below w.heap.size w w' := by
  go_enter Tryz.func42, Tryz.ntmps42
  go_wp2_with fail
  go_ret
  exact ⟨rfl, Below.refl _ _⟩

set_option maxRecDepth 100000 in
theorem isSet_any (n : Int) (s : ByteArray) (i : Nat) (w : World) (hm : Masks 0 w) (hi : i / 8 < s.size) (hi2 : i ≤ 10000000000) :
    Calls Tryz.prog 49 #[.agg #[.int .i64 n, .string s], .int .i64 i] w fun e w' => e = .returned (.bool (decide (bit s i = 1))) ∧ Below w.heap.size w w' := by
  have hmk := hm.2 (i % 8) (Nat.mod_lt _ (by decide))
  have hlt := hm.1
  have H := hide (set_walk s i hi)
  clear hm
  have hA : 0 ≤ (i : Int) / 8 := by omega
  have hB : (i : Int) / 8 < s.size := by omega
  have hC : ((i : Int) / 8).toNat = i / 8 := by omega
  have hW : IntKind.i64.wrap ((i : Int) / 8) = (i : Int) / 8 := by simp [IntKind.wrap, IntKind.bits, IntKind.signed]; omega
  go_enter Tryz.func49, Tryz.ntmps49
  go_wp2_with fail
  go_region
  go_wp2_with fail
  go_ret
  refine ⟨?_, (((Below.refl w.heap.size w).alloc (Nat.le_refl _) _).drew)⟩
  rw [← unhide H]
  rfl

end Go.Proofs.YthikciimaegphaaGreatDoor
/- impl's rows of bits that are being made: newRow, set, bits; a field's power and fits. -/
namespace Go.Proofs.YthikciimaegphaaGreatDoor
open Go.RowKit Go.Deep

/-- The two cells of a boxed struct are not frozen, later too. -/
theorem box2f (w : World) (a b : Value) (e : TypeId) {w' : World} (h : Below (w.heap.size + 1) (w.alloc (.cells #[a, b] e)) w') (o : Nat) : w'.frozen? ⟨w.heap.size, o, none⟩ = false := by
  rw [World.frozen?_of_block (w := w.alloc (.cells #[a, b] e)) (h.block w.heap.size (by omega))]
  simp [go_sem]

set_option maxRecDepth 100000 in
theorem ffits_any (n : Int) (sg li : Bool) (w : World) :
    Calls Tryz.prog 58 #[.agg #[.int .i64 n, .bool sg, .bool li]] w fun e w' => e = .returned (.bool (decide (0 ≤ n) && decide (n ≤ 49))) ∧ Below w.heap.size w w' := by
  cases h : decide (0 ≤ n)
  · go_enter Tryz.func58, Tryz.ntmps58
    go_wp2_with fail
    go_ret
    exact ⟨rfl, (Below.refl w.heap.size w).alloc (Nat.le_refl _) _⟩
  · go_enter Tryz.func58, Tryz.ntmps58
    go_wp2_with fail
    go_ret
    exact ⟨rfl, (Below.refl w.heap.size w).alloc (Nat.le_refl _) _⟩

set_option maxRecDepth 100000 in
theorem power_any (size : Nat) (sg li : Bool) (i : Nat) (w : World) (hi : i < size) (hs : size ≤ 49) :
    Calls Tryz.prog 61 #[.agg #[.int .i64 size, .bool sg, .bool li], .int .i64 i] w fun e w' => e = .returned (.int .i64 (pw size li i)) ∧ Below w.heap.size w w' := by
  cases li
  · have hr := hide (show ((pw size false i : Nat) : Int) = (size : Int) - 1 - i by unfold pw; simp only; omega)
    go_enter Tryz.func61, Tryz.ntmps61
    go_wp2_with fail
    go_ret
    exact ⟨by rw [unhide hr]; rfl, (Below.refl w.heap.size w).alloc (Nat.le_refl _) _⟩
  · have hr := hide (show ((pw size true i : Nat) : Int) = min ((i : Int) - (i : Int) % 8 + 8) size - 1 - (i : Int) % 8 by unfold pw; simp only; omega)
    go_enter Tryz.func61, Tryz.ntmps61
    go_wp2_with fail
    all_goals go_ret
    all_goals exact ⟨ret_back (by have := unhide hr; omega), (Below.refl w.heap.size w).alloc (Nat.le_refl _) _⟩

set_option maxRecDepth 100000 in
theorem newRow_any (n : Nat) (w : World) (hn : n ≤ 100000) :
    Calls Tryz.prog 60 #[.int .i64 n] w fun e w' => ∃ g, e = .returned (.agg #[.int .i64 n, .slice (some ⟨g, 0, none⟩) ((n + 7) / 8) ((n + 7) / 8)]) ∧
      w'.ownsRow w.heap.size 5 1 (.slice (some ⟨g, 0, none⟩) ((n + 7) / 8) ((n + 7) / 8)) ((n + 7) / 8) (u8s (List.replicate ((n + 7) / 8) 0)) ∧ Below w.heap.size w w' := by
  have hmk := fun w : World => run_make_row' (P := Tryz.prog) 33 5 (.int .u8 0) 1 Tryz.underlying33 info_u8 rfl .i64 .i64 ((n + 7) / 8) (by omega) (by omega) w
  have e8 : (((n + 7) / 8 : Nat) : Int) = ((n : Int) + 7) / 8 := by omega
  rw [e8] at hmk
  clear e8
  have hb2 := two_new w (.int .i64 0) (.slice none 0 0) 58
  have hbx := (Below.refl w.heap.size w).alloc (Nat.le_refl _) (.cells #[.int .i64 0, .slice none 0 0] 58)
  have Hbx := hide hbx
  clear hbx
  go_enter Tryz.func60, Tryz.ntmps60
  go_wp2_with fail
  refine (bf_any n _ (by omega) (by omega)).mono ?_
  rintro e w1 ⟨rfl, hb1⟩
  have hB1 := hb1.mono (show w.heap.size + 1 ≤ _ by simp)
  have hs1 : w.heap.size < w1.heap.size := by have := hB1.size; simp at this; omega
  have g0 : ∀ o, (w1.alloc o).cell? ⟨w.heap.size, 0, none⟩ = some (.int .i64 0) := fun o => (World.cell?_alloc_past _ _ _ hs1).trans (box2 w _ _ _ hB1).1
  have g1 : ∀ o, (w1.alloc o).cell? ⟨w.heap.size, 1, none⟩ = some (.slice none 0 0) := fun o => (World.cell?_alloc_past _ _ _ hs1).trans (box2 w _ _ _ hB1).2
  have g2 : ∀ o, (w1.alloc o).frozen? ⟨w.heap.size, 0, none⟩ = false := fun o => (World.frozen?_alloc_past _ _ _ hs1).trans (box2f w _ _ _ hB1 0)
  have g3 : ∀ o, (w1.alloc o).frozen? ⟨w.heap.size, 1, none⟩ = false := fun o => (World.frozen?_alloc_past _ _ _ hs1).trans (box2f w _ _ _ hB1 1)
  obtain ⟨k0, k1⟩ := box2 w _ _ _ hB1
  have k2 := box2f w _ _ _ hB1 0
  have k3 := box2f w _ _ _ hB1 1
  have HB1 := hide hB1
  clear hb1 hB1 hb2
  go_wp2_with fail
  obtain ⟨W2, hW2⟩ : ∃ W2, W2 = (w1.setCell ⟨w.heap.size, 0, none⟩ (.int .i64 n)).setCell ⟨w.heap.size, 1, none⟩ (.slice (some ⟨w1.heap.size, 0, none⟩) ((n + 7) / 8) ((n + 7) / 8)) := ⟨_, rfl⟩
  have hs2 : W2.heap.size = w1.heap.size := by rw [hW2]; simp
  have hb2 : Below w.heap.size w W2 := by rw [hW2]; exact ((((unhide Hbx).trans ((unhide HB1).mono (by omega))).setCell (Nat.le_refl _) _).setCell (Nat.le_refl _) _)
  have c0 : W2.cell? ⟨w.heap.size, 0, none⟩ = some (.int .i64 n) := by rw [hW2]; simp [go_sem, k0]
  have c1 : W2.cell? ⟨w.heap.size, 1, none⟩ = some (.slice (some ⟨w1.heap.size, 0, none⟩) ((n + 7) / 8) ((n + 7) / 8)) := by rw [hW2]; simp [go_sem, k1]
  rw [← hW2]
  have d0 := (World.cell?_alloc_past (w := W2) (.cells (madeCells #[.int .u8 0] ((n + 7) / 8)) 5) _ _ (show w.heap.size < W2.heap.size by omega)).trans c0
  have d1 := (World.cell?_alloc_past (w := W2) (.cells (madeCells #[.int .u8 0] ((n + 7) / 8)) 5) _ _ (show w.heap.size < W2.heap.size by omega)).trans c1
  refine bodyPost_ret (v := .agg #[.int .i64 n, .slice (some ⟨w1.heap.size, 0, none⟩) ((n + 7) / 8) ((n + 7) / 8)]) (by simp [results, Tryz.results60, go_sem, d0, d1]) rfl ⟨_, rfl, ?_, hb2.alloc (by omega) _⟩
  have h := World.ownsRow_lit (base := w.heap.size) (e := 5) (size := 1) W2 (madeCells #[.int .u8 0] ((n + 7) / 8)) ((n + 7) / 8) (by omega) (by unfold maxLen; omega) (by simp [size_madeCells])
  have e : u8s (List.replicate ((n + 7) / 8) 0) = (madeCells #[Value.int .u8 0] ((n + 7) / 8)).toList := by
    apply List.ext_getElem?
    intro i
    by_cases h : i < (n + 7) / 8 <;> simp [u8s, madeCells, h, Nat.mod_one]
  rw [e, ← hs2]
  exact h

set_option maxRecDepth 100000 in
theorem set_any (R g m c i : Nat) (ys : List Int) (w : World) (hm : Masks 0 w) (h1 : w.cell? ⟨R, 1, none⟩ = some (.slice (some ⟨g, 0, none⟩) m c))
    (hy : w.cell? ⟨g, i / 8, none⟩ = some (.int .u8 (ys.getD (i / 8) 0))) (hf : w.frozen? ⟨g, i / 8, none⟩ = false) (hi : i / 8 < m) (hi2 : i ≤ 10000000000) :
    Calls Tryz.prog 62 #[.pointer (some ⟨R, 0, none⟩), .int .i64 i] w fun e w' => e = .returned (.tuple #[]) ∧ w' = (w.setCell ⟨g, i / 8, none⟩ (.int .u8 (bits .or .u8 (ys.getD (i / 8) 0) (2 ^ (7 - i % 8))))).drew := by
  have hmk := hm.2 (i % 8) (Nat.mod_lt _ (by decide))
  obtain ⟨y, hye⟩ : ∃ y, y = ys.getD (i / 8) 0 := ⟨_, rfl⟩
  rw [← hye] at hy ⊢
  clear hm hye
  go_enter Tryz.func62, Tryz.ntmps62
  go_wp2_with fail
  go_region
  go_end0
  exact ⟨rfl, rfl⟩

set_option maxRecDepth 100000 in
theorem rbits_any (R g m c : Nat) (n : Int) (ys : List Int) (w : World) (h0 : w.cell? ⟨R, 0, none⟩ = some (.int .i64 n)) (h1 : w.cell? ⟨R, 1, none⟩ = some (.slice (some ⟨g, 0, none⟩) m c)) (hR : R < w.heap.size)
    (hl : ys.length = m) (hy : ∀ i, i < m → w.cell? ⟨g, i, none⟩ = some (.int .u8 (ys.getD i 0))) (hg : g < w.heap.size) :
    Calls Tryz.prog 25 #[.pointer (some ⟨R, 0, none⟩)] w fun e w' => e = .returned (.agg #[.int .i64 n, .string (strOfNums ys)]) ∧ Below w.heap.size w w' := by
  have hcv := run_convert_bytes_arg (P := Tryz.prog) ((w.alloc (.cells #[.int .i64 0, .string ⟨#[]⟩] 25)).drew) 33 5 Tryz.underlying33 Tryz.underlying5 g 0 m c ys hl (fun i hi => by
    rw [Nat.zero_add]
    exact (World.cell?_alloc_past (w := w) (.cells #[.int .i64 0, .string ⟨#[]⟩] 25) _ _ hg).trans (hy i hi)) 9 Tryz.underlying9
  obtain ⟨S, hS⟩ : ∃ S, S = strOfNums ys := ⟨_, rfl⟩
  rw [← hS] at hcv ⊢
  clear hS hy
  go_enter Tryz.func25, Tryz.ntmps25
  go_wp2_with fail
  go_region
  go_wp2_with fail
  have hc0 : ((w.alloc (.cells #[.int .i64 n, .string S] 25)).drew).cell? ⟨w.heap.size, 0, none⟩ = some (.int .i64 n) := (two_new w _ _ _).1
  have hc1 : ((w.alloc (.cells #[.int .i64 n, .string S] 25)).drew).cell? ⟨w.heap.size, 1, none⟩ = some (.string S) := (two_new w _ _ _).2
  exact bodyPost_ret (v := .agg #[.int .i64 n, .string S]) (by simp [results, Tryz.results25, go_sem, hc0, hc1]) rfl ⟨rfl, ((Below.refl w.heap.size w).alloc (Nat.le_refl _) _).drew⟩

end Go.Proofs.YthikciimaegphaaGreatDoor
/- Bits that are cut out. -/
namespace Go.Proofs.YthikciimaegphaaGreatDoor
open Go.RowKit Go.Deep

/-- Some bits of a row. -/
def cutBits (s : ByteArray) (f k : Nat) : List Int := (List.range k).map fun i => bit s (f + i)
theorem cutBits_length (s : ByteArray) (f k : Nat) : (cutBits s f k).length = k := by simp [cutBits]
theorem cutBits_01 (s : ByteArray) (f k : Nat) : ∀ x ∈ cutBits s f k, x = 0 ∨ x = 1 := by
  intro x hx
  obtain ⟨i, _, rfl⟩ := List.mem_map.1 hx
  exact bit_01 s _
theorem cutBits_getD (s : ByteArray) (f k i : Nat) (h : i < k) : (cutBits s f k).getD i 0 = bit s (f + i) := by
  rw [List.getD_eq_getElem?_getD]; simp [cutBits, h]
theorem bitsOf_getD (s : ByteArray) (n i : Nat) (h : i < n) : (bitsOf s n).getD i 0 = bit s i := by
  rw [List.getD_eq_getElem?_getD, bitsOf_get s n i h]; rfl

/-- Whether some bits are all there. -/
abbrev cutOK (n : Int) (s : ByteArray) (f k : Int) : Prop := okS n s = true ∧ 0 ≤ f ∧ 0 ≤ k ∧ k ≤ n - f
/-- What BitsCut answers. -/
def cutAns (n : Int) (s : ByteArray) (f k : Int) : Value := match decide (cutOK n s f k) with
  | true => .tuple #[.agg #[.int .i64 k, .string (strB (cutBits s f.toNat k.toNat))], .int .i64 0]
  | false => .tuple #[.agg #[.int .i64 0, .string ⟨#[]⟩], .int .i64 1]
theorem cutAns_no {n : Int} {s : ByteArray} {f k : Int} (h : ¬ cutOK n s f k) : cutAns n s f k = .tuple #[.agg #[.int .i64 0, .string ⟨#[]⟩], .int .i64 1] := by unfold cutAns; rw [decide_eq_false h]
theorem cutAns_yes {n : Int} {s : ByteArray} {f k : Int} (h : cutOK n s f k) : cutAns n s f k = .tuple #[.agg #[.int .i64 k, .string (strB (cutBits s f.toNat k.toNat))], .int .i64 0] := by unfold cutAns; rw [decide_eq_true h]
theorem okS_len {n : Int} {s : ByteArray} (h : okS n s = true) : okLen n s := by
  by_cases g : okLen n s
  · exact g
  · rw [okS_false g] at h; cases h

/-- A slice of a row of bytes. -/
theorem RowAt.slice {w : World} {a : Option Addr} {len cap : Nat} {xs ys : List Int} (h : RowAt w (.slice a len cap) xs) (f k : Nat) (hfk : f + k ≤ xs.length) (hy : ys.length = k) (he : ∀ i, i < k → ys.getD i 0 = xs.getD (f + i) 0) :
    ∀ a', (0 < k → ∀ b off, a = some ⟨b, off, none⟩ → a' = some ⟨b, off + f, none⟩) → RowAt w (.slice a' k (cap - f)) ys := by
  intro a' ha
  obtain ⟨a0, cap0, h1, h2, h3⟩ := h
  simp only [Value.slice.injEq] at h1
  obtain ⟨rfl, rfl, rfl⟩ := h1
  refine ⟨a', _, by rw [hy], by omega, fun i hi => ?_⟩
  obtain ⟨b, off, g1, g2, g3⟩ := h3 (f + i) (by omega)
  refine ⟨b, off + f, ha (by omega) b off g1, g2, ?_⟩
  rw [he i (by omega), Nat.add_assoc]; exact g3

end Go.Proofs.YthikciimaegphaaGreatDoor
