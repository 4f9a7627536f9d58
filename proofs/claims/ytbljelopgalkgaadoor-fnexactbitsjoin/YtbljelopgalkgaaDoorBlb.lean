/- spec.l02Bits: bits, a byte each, as a row. -/
import Derived.Test.YtbljelopgalkgaaDoorBlr
import Derived.Deep.OwnRows
namespace Go.Proofs.YtbljelopgalkgaaDoor
open Go.RowKit Go.Deep

set_option maxRecDepth 100000 in
theorem pack_any (v : Value) (xs : List Int) (w : World) (hv : RowAt w v xs) (hx : ∀ x ∈ xs, x = 0 ∨ x = 1) (hs : xs.length ≤ 1000000000) :
    Calls Tryd.prog 21 #[v] w fun e w' => e = .returned (.agg #[.int .i64 xs.length, .string (strB xs)]) ∧ Below w.heap.size w w' := by
  obtain ⟨a, cap, rfl, hcap, hel⟩ := hv
  have hmk := fun w : World => run_make_row' (P := Tryd.prog) 41 5 (.int .u8 0) 1 Tryd.underlying41 info_u8 rfl .i64 .i64 ((xs.length + 7) / 8) (by omega) (by omega) w
  have e8 : (((xs.length + 7) / 8 : Nat) : Int) = ((xs.length : Int) + 7) / 8 := by omega
  rw [e8] at hmk
  clear e8
  go_enter Tryd.func21, Tryd.ntmps21
  go_wp2_with fail
  go_loopw [4] (fun iv wr => ∃ k : Nat, k ≤ xs.length ∧ iv = .int .i64 k ∧ wr.ownsRow (w.heap.size + 1) 5 1 (.slice (some ⟨w.heap.size + 1, 0, none⟩) ((xs.length + 7) / 8) ((xs.length + 7) / 8)) ((xs.length + 7) / 8) (u8s (bytesAt xs k)) ∧
      wr.frozen? ⟨w.heap.size, 0, none⟩ = false ∧ wr.frozen? ⟨w.heap.size, 1, none⟩ = false ∧ (∃ x, wr.cell? ⟨w.heap.size, 0, none⟩ = some x) ∧ (∃ x, wr.cell? ⟨w.heap.size, 1, none⟩ = some x) ∧ Below w.heap.size w wr ∧ w.heap.size + 2 ≤ wr.heap.size) (fun iv _ => xs.length - (intOf iv).toNat)
  case atStart =>
    refine ⟨0, Nat.zero_le _, rfl, ?_, ?_, ?_, ⟨_, (World.cell?_alloc_past _ _ _ (by simp)).trans (two_new _ _ _ _).1⟩, ⟨_, (World.cell?_alloc_past _ _ _ (by simp)).trans (two_new _ _ _ _).2⟩, ((Below.refl w.heap.size w).alloc (Nat.le_refl _) _).alloc (by simp) _, by simp⟩
    · have h := World.ownsRow_lit (base := w.heap.size + 1) (e := 5) (size := 1) (w.alloc (.cells #[.int .i64 0, .string ⟨#[]⟩] 26)) (madeCells #[.int .u8 0] ((xs.length + 7) / 8)) ((xs.length + 7) / 8) (by simp) (by unfold maxLen; omega) (by simp [size_madeCells])
      have e : u8s (bytesAt xs 0) = (madeCells #[Value.int .u8 0] ((xs.length + 7) / 8)).toList := by
        rw [bytesAt_zero]
        apply List.ext_getElem?
        intro i
        by_cases h : i < (xs.length + 7) / 8 <;> simp [u8s, madeCells, h, Nat.mod_one]
      rw [e]
      simpa using h
    · simp [go_sem]
    · simp [go_sem]
  case round =>
    obtain ⟨k, hk, rfl, hown, hf0, hf1, ⟨y0, hc0⟩, ⟨y1, hc1⟩, hb, hsz⟩ := hrel
    by_cases hlt : k < xs.length
    · obtain ⟨b, off, rfl, hbk, hxk⟩ := hel k hlt
      have hxr := (hb.cell (p := ⟨b, off + k, none⟩) hbk).trans hxk
      have hkj : k / 8 < (xs.length + 7) / 8 := by omega
      have hx01 := getD_01 hx k
      have hcy : wr.cell? ⟨w.heap.size + 1, k / 8, none⟩ = some (.int .u8 ((bytesAt xs k).getD (k / 8) 0)) := by
        rw [hown.cellAt (k / 8) (by omega)]
        simp [u8s, bytesAt_get _ _ _ hkj]
      have hfy := hown.frozenAt (k / 8)
      have hst := hide (hown.stored (k / 8) (.int .u8 ((bytesAt xs (k + 1)).getD (k / 8) 0)))
      have HS := hide (bytesAt_succ xs hx k hlt)
      obtain ⟨y, hy⟩ : ∃ y, y = (bytesAt xs k).getD (k / 8) 0 := ⟨_, rfl⟩
      obtain ⟨x, hxe⟩ : ∃ x, x = xs.getD k 0 := ⟨_, rfl⟩
      rw [← hy] at hcy
      rw [← hxe] at hxr hx01
      have HY := hide hy
      have HX := hide hxe
      have HO := hide hown
      clear hy hxe hxk hown hx
      go_wp2_with fail
      go_region
      have hu : bits .or .u8 y (x * 2 ^ (7 - k % 8) % 256) = (bytesAt xs (k + 1)).getD (k / 8) 0 := by
        rw [unhide HS, set_getD _ _ _ (by rw [bytesAt_length]; exact hkj), ← unhide HY, ← unhide HX, bit_mod x hx01]
      have H := unhide hst
      rw [← hu] at H
      have hown2 : (wr.setCell ⟨w.heap.size + 1, k / 8, none⟩ (.int .u8 (bits .or .u8 y (x * 2 ^ (7 - k % 8) % 256)))).ownsRow (w.heap.size + 1) 5 1 (.slice (some ⟨w.heap.size + 1, 0, none⟩) ((xs.length + 7) / 8) ((xs.length + 7) / 8)) ((xs.length + 7) / 8) (u8s (bytesAt xs (k + 1))) := by
        have e : u8s (bytesAt xs (k + 1)) = (u8s (bytesAt xs k)).set (k / 8) (.int .u8 (bits .or .u8 y (x * 2 ^ (7 - k % 8) % 256))) := by
          rw [hu]
          conv => lhs; rw [unhide HS]
          rw [u8s, List.map_set, unhide HS, set_getD _ _ _ (by rw [bytesAt_length]; exact hkj)]
        rw [e]
        exact H.1
      have hbn : Below w.heap.size w (wr.setCell ⟨w.heap.size + 1, k / 8, none⟩ (.int .u8 (bits .or .u8 y (x * 2 ^ (7 - k % 8) % 256)))).drew := (hb.setCell (by show w.heap.size ≤ w.heap.size + 1; omega) _).drew
      have HU := hide hu
      clear H hu
      go_wp2_with fail
      go_roundw
      case rel => exact ⟨k + 1, by omega, by go_num, hown2.drew, by simpa [go_sem] using hf0, by simpa [go_sem] using hf1, ⟨y0, by simpa [go_sem] using hc0⟩, ⟨y1, by simpa [go_sem] using hc1⟩, hbn, by simpa using hsz⟩
      case measure => simp [intOf]; omega
    · have hkn : k = xs.length := by omega
      subst hkn
      have hcv := run_convert_bytes_arg (P := Tryd.prog) wr 41 5 Tryd.underlying41 Tryd.underlying5 (w.heap.size + 1) 0 ((xs.length + 7) / 8) ((xs.length + 7) / 8) (bytesAt xs xs.length) (bytesAt_length _ _) (fun i hi => by
        rw [Nat.zero_add, hown.cellAt i (by omega), u8s, List.getElem?_map, bytesAt_get _ _ _ hi, List.getD_eq_getElem?_getD, bytesAt_get _ _ _ hi]; rfl) 9 Tryd.underlying9
      obtain ⟨S, hS⟩ : ∃ S, S = strOfNums (bytesAt xs xs.length) := ⟨_, rfl⟩
      rw [← hS] at hcv
      have HS := hide hS
      clear hS
      go_wp2_with fail
      exact bodyPost_ret (v := .agg #[.int .i64 xs.length, .string S]) (by simp [results, Tryd.results21, go_sem, hc0, hc1]) rfl ⟨by rw [unhide HS]; rfl, (hb.setCell (Nat.le_refl _) _).setCell (Nat.le_refl _) _⟩

/-- The same, with the length and the text under names. -/
theorem pack_as (v : Value) (xs : List Int) (L : Nat) (S : ByteArray) (w : World) (hv : RowAt w v xs) (hx : ∀ x ∈ xs, x = 0 ∨ x = 1) (hl : xs.length = L) (hs : L ≤ 1000000000) (hS : strB xs = S) :
    Calls Tryd.prog 21 #[v] w fun e w' => e = .returned (.agg #[.int .i64 L, .string S]) ∧ Below w.heap.size w w' := by
  subst hl; subst hS; exact pack_any v xs w hv hx hs

end Go.Proofs.YtbljelopgalkgaaDoor
