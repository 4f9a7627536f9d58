/- impl's byteAt and clearEnd. -/
import Derived.Test.YthbdojbnoeilkaaDoorBcp
import Derived.Test.YthbdojbnoeilkaaDoorBp2
namespace Go.Proofs.YthbdojbnoeilkaaDoor
open Go.RowKit Go.Deep

set_option maxRecDepth 100000 in
theorem byteAt_any (n : Int) (s : ByteArray) (i : Nat) (w : World) (hi : i / 8 < s.size) (h8 : i % 8 ≠ 0) (hi2 : i ≤ 10000000000) :
    Calls Tryd.prog 36 #[.agg #[.int .i64 n, .string s], .int .i64 i] w fun e w' => e = .returned (.int .u8 (full s i 0)) ∧ Below w.heap.size w w' := by
  have hbx := hide ((Below.refl w.heap.size w).alloc (Nat.le_refl _) (.cells #[.int .i64 n, .string s] 26))
  have hA := hide (byt_get s (i / 8) hi)
  by_cases h1 : i / 8 + 1 < s.size
  · have hB := hide (byt_get s (i / 8 + 1) h1)
    have hr := hide (full_parts s i h8)
    have ho := hide (or_parts (byt s (i / 8)) (byt s (i / 8 + 1)) (i % 8) (by omega) (byt_lo _ _) (byt_hi _ _) (byt_lo _ _) (byt_hi _ _))
    clear h8
    go_enter Tryd.func36, Tryd.ntmps36
    go_wp2_with fail
    go_ret
    refine ⟨ret_int (k := .u8) ?_, unhide hbx⟩
    rw [unhide hr, ← unhide ho, unhide hA, unhide hB]
  · have hB : byt s (i / 8 + 1) = 0 := by
      unfold byt
      rw [Array.getElem?_eq_none (by have : s.data.size = s.size := rfl; omega)]; rfl
    have hr := hide (full_parts s i h8)
    rw [hB] at hr
    clear h8 hB
    go_enter Tryd.func36, Tryd.ntmps36
    go_wp2_with fail
    go_ret
    refine ⟨ret_int (k := .u8) ?_, unhide hbx⟩
    rw [unhide hr, unhide hA, Int.zero_ediv, Int.add_zero]

set_option maxRecDepth 100000 in
theorem clearEnd_any (R g m n : Nat) (base : Nat) (Z : List Int) (w : World) (hm : Masks 0 w) (h0 : w.cell? ⟨R, 0, none⟩ = some (.int .i64 n)) (h1 : w.cell? ⟨R, 1, none⟩ = some (.slice (some ⟨g, 0, none⟩) m m))
    (hown : w.ownsRow base 5 1 (.slice (some ⟨g, 0, none⟩) m m) m (u8s Z)) (hl : Z.length = m) (hZ : ∀ x ∈ Z, 0 ≤ x ∧ x < 256) (hR : g < R) (hG : 0 < g) (hn : n ≤ 8 * m) (hn8 : 8 * m < n + 8) (hmm : m ≤ 100000) :
    Calls Tryd.prog 37 #[.pointer (some ⟨R, 0, none⟩)] w fun e w' => e = .returned (.tuple #[]) ∧ w'.ownsRow base 5 1 (.slice (some ⟨g, 0, none⟩) m m) m (u8s (cl Z (8 * m - n))) ∧
      w'.cell? ⟨R, 0, none⟩ = some (.int .i64 n) ∧ w'.cell? ⟨R, 1, none⟩ = some (.slice (some ⟨g, 0, none⟩) m m) ∧ Below g w w' ∧ w'.heap.size = w.heap.size := by
  have Hm := hide hm
  have Hown := hide hown
  have HZ := hide hZ
  clear hm hown hZ
  go_enter Tryd.func37, Tryd.ntmps37
  go_wp2_with fail
  go_region
  go_wp2_with fail
  go_loopw [2, 14] (fun jv iv wr => ∃ k : Nat, (k : Int) ≤ 8 * (m : Int) - n ∧ iv = .int .i64 k ∧ wr.ownsRow base 5 1 (.slice (some ⟨g, 0, none⟩) m m) m (u8s (cl Z k)) ∧
      wr.cell? ⟨R, 0, none⟩ = some (.int .i64 n) ∧ wr.cell? ⟨R, 1, none⟩ = some (.slice (some ⟨g, 0, none⟩) m m) ∧ Below g w wr ∧ wr.heap.size = w.heap.size) (fun _ iv _ => 8 * m - n - (intOf iv).toNat)
  case atStart => exact ⟨0, by omega, rfl, by rw [cl_zero]; exact (unhide Hown).drew, h0, h1, (Below.refl g w).drew, rfl⟩
  case round =>
    obtain ⟨k, hk, rfl, hown, r0, r1, hb, hsz⟩ := hrel
    clear h0 h1
    by_cases hlt : (k : Int) < 8 * (m : Int) - n
    · have hm0 : 0 < m := by omega
      have hk8 : k < 8 := by omega
      have hmask : wr.cell? ⟨0, 7 - k, none⟩ = some (.int .u8 (2 ^ k)) := by
        have := (hb.cell (p := ⟨0, 7 - k, none⟩) hG).trans ((unhide Hm).2 (7 - k) (by omega))
        rw [show 7 - (7 - k) = k by omega] at this
        exact this
      have hc := own_cell hown (m - 1) (by omega)
      have hf := hown.frozenAt (m - 1)
      have hS := hide (cl_step Z k hk8 (unhide HZ) (by omega))
      have hown2 := hide (own_set hown (m - 1))
      obtain ⟨y, hy⟩ : ∃ y, y = (cl Z k).getD (m - 1) 0 := ⟨_, rfl⟩
      rw [← hy] at hc
      have HY := hide hy
      have Hb := hide hb
      clear hy hb hown
      have e1 : IntKind.i64.wrap ((m : Int) - 1) = ((m - 1 : Nat) : Int) := by simp [IntKind.wrap, IntKind.bits, IntKind.signed]; omega
      go_wp2_with fail
      go_region
      have hown3 := unhide hown2 (bits .andNot .u8 y (2 ^ k))
      have e3 : (cl Z k).set (m - 1) (bits .andNot .u8 y (2 ^ k)) = cl Z (k + 1) := by
        have := unhide hS
        rw [hl, ← unhide HY] at this
        exact this
      rw [e3] at hown3
      obtain ⟨w5, hw5⟩ : ∃ w5, w5 = (wr.setCell ⟨g, m - 1, none⟩ (.int .u8 (bits .andNot .u8 y (2 ^ k)))).drew := ⟨_, rfl⟩
      have hown6 : w5.ownsRow base 5 1 (.slice (some ⟨g, 0, none⟩) m m) m (u8s (cl Z (k + 1))) := by rw [hw5]; exact hown3
      have hb6 : Below g w w5 := by rw [hw5]; exact ((unhide Hb).setCell (Nat.le_refl _) _).drew
      have c0 : w5.cell? ⟨R, 0, none⟩ = some (.int .i64 n) := by rw [hw5]; exact (World.cell?_setCell_other _ _ _ _ (by simp)).trans r0
      have c1 : w5.cell? ⟨R, 1, none⟩ = some (.slice (some ⟨g, 0, none⟩) m m) := by rw [hw5]; exact (World.cell?_setCell_other _ _ _ _ (by simp)).trans r1
      have hs6 : w5.heap.size = w.heap.size := by rw [hw5]; simpa using hsz
      rw [← hw5]
      have H6 := hide hown6
      have HB6 := hide hb6
      have HC0 := hide c0
      have HC1 := hide c1
      have HS6 := hide hs6
      clear hown3 hw5 r0 r1 e3 e1 hmask hc hf hsz hown6 hb6 c0 c1 hs6
      go_wp2_with fail
      go_roundw
      case rel => exact ⟨k + 1, by omega, by go_num, unhide H6, unhide HC0, unhide HC1, unhide HB6, unhide HS6⟩
      case measure => simp [intOf]; omega
    · have hkn : 8 * m - n = k := by omega
      have Hown' := hide hown
      have Hb := hide hb
      have HN := hide hkn
      clear hown hb hkn
      go_wp2_with fail
      go_end0
      exact ⟨rfl, by rw [unhide HN]; exact unhide Hown', r0, r1, unhide Hb, hsz⟩

end Go.Proofs.YthbdojbnoeilkaaDoor
