/- impl's rows of bits that are being made: newRow, set, bits; a field's power and fits. -/
import Derived.Test.YtgkckkaegkdioaaDoorQ2
import Derived.Deep.DeepCutAuto
import Derived.Deep.RegionWith
import Derived.Deep.RegionLaw
import Derived.Defers
import Derived.Recover
import Derived.BigQuiet
import Derived.Deep.OwnRows
namespace Go.Proofs.YtgkckkaegkdioaaDoor
open Go.RowKit Go.Deep

/-- The two cells of a boxed struct are not frozen, later too. -/
theorem box2f (w : World) (a b : Value) (e : TypeId) {w' : World} (h : Below (w.heap.size + 1) (w.alloc (.cells #[a, b] e)) w') (o : Nat) : w'.frozen? ⟨w.heap.size, o, none⟩ = false := by
  rw [World.frozen?_of_block (w := w.alloc (.cells #[a, b] e)) (h.block w.heap.size (by omega))]
  simp [go_sem]

set_option maxRecDepth 100000 in
theorem ffits_any (n : Int) (sg li : Bool) (w : World) :
    Calls Tryd.prog 44 #[.agg #[.int .i64 n, .bool sg, .bool li]] w fun e w' => e = .returned (.bool (decide (0 ≤ n) && decide (n ≤ 49))) ∧ Below w.heap.size w w' := by
  cases h : decide (0 ≤ n)
  · go_enter Tryd.func44, Tryd.ntmps44
    go_wp2_with fail
    go_ret
    exact ⟨rfl, (Below.refl w.heap.size w).alloc (Nat.le_refl _) _⟩
  · go_enter Tryd.func44, Tryd.ntmps44
    go_wp2_with fail
    go_ret
    exact ⟨rfl, (Below.refl w.heap.size w).alloc (Nat.le_refl _) _⟩

set_option maxRecDepth 100000 in
theorem power_any (size : Nat) (sg li : Bool) (i : Nat) (w : World) (hi : i < size) (hs : size ≤ 49) :
    Calls Tryd.prog 45 #[.agg #[.int .i64 size, .bool sg, .bool li], .int .i64 i] w fun e w' => e = .returned (.int .i64 (pw size li i)) ∧ Below w.heap.size w w' := by
  cases li
  · have hr := hide (show ((pw size false i : Nat) : Int) = (size : Int) - 1 - i by unfold pw; simp only; omega)
    go_enter Tryd.func45, Tryd.ntmps45
    go_wp2_with fail
    go_ret
    exact ⟨by rw [unhide hr]; rfl, (Below.refl w.heap.size w).alloc (Nat.le_refl _) _⟩
  · have hr := hide (show ((pw size true i : Nat) : Int) = min ((i : Int) - (i : Int) % 8 + 8) size - 1 - (i : Int) % 8 by unfold pw; simp only; omega)
    go_enter Tryd.func45, Tryd.ntmps45
    go_wp2_with fail
    all_goals go_ret
    all_goals exact ⟨ret_back (by have := unhide hr; omega), (Below.refl w.heap.size w).alloc (Nat.le_refl _) _⟩

set_option maxRecDepth 100000 in
theorem newRow_any (n : Nat) (w : World) (hn : n ≤ 100000) :
    Calls Tryd.prog 46 #[.int .i64 n] w fun e w' => ∃ g, e = .returned (.agg #[.int .i64 n, .slice (some ⟨g, 0, none⟩) ((n + 7) / 8) ((n + 7) / 8)]) ∧
      w'.ownsRow w.heap.size 5 1 (.slice (some ⟨g, 0, none⟩) ((n + 7) / 8) ((n + 7) / 8)) ((n + 7) / 8) (u8s (List.replicate ((n + 7) / 8) 0)) ∧ Below w.heap.size w w' := by
  have hmk := fun w : World => run_make_row' (P := Tryd.prog) 51 5 (.int .u8 0) 1 Tryd.underlying51 info_u8 rfl .i64 .i64 ((n + 7) / 8) (by omega) (by omega) w
  have e8 : (((n + 7) / 8 : Nat) : Int) = ((n : Int) + 7) / 8 := by omega
  rw [e8] at hmk
  clear e8
  have hb2 := two_new w (.int .i64 0) (.slice none 0 0) 81
  have hbx := (Below.refl w.heap.size w).alloc (Nat.le_refl _) (.cells #[.int .i64 0, .slice none 0 0] 81)
  have Hbx := hide hbx
  clear hbx
  go_enter Tryd.func46, Tryd.ntmps46
  go_wp2_with fail
  refine (bf_any n _ (by omega) (by omega)).mono ?_
  rintro e w1 ⟨rfl, hb1⟩
  have hB1 := hb1.mono (show w.heap.size + 1 ≤ _ by simp)
  have hs1 : w.heap.size < w1.heap.size := by have := hB1.size; simp at this; omega
  have g0 : ∀ o, (w1.alloc o).cell? ⟨w.heap.size, 0, none⟩ = some (.int .i64 0) := fun o => (World.cell?_alloc_past _ _ _ hs1).trans (box2 w _ _ _ hB1).1
  have g1 : ∀ o, (w1.alloc o).cell? ⟨w.heap.size, 1, none⟩ = some (.slice none 0 0) := fun o => (World.cell?_alloc_past _ _ _ hs1).trans (box2 w _ _ _ hB1).2
  have g2 : ∀ o, (w1.alloc o).frozen? ⟨w.heap.size, 0, none⟩ = false := fun o => (World.frozen?_alloc_past _ _ _ hs1).trans (box2f w _ _ _ hB1 0)
  have g3 : ∀ o, (w1.alloc o).frozen? ⟨w.heap.size, 1, none⟩ = false := fun o => (World.frozen?_alloc_past _ _ _ hs1).trans (box2f w _ _ _ hB1 1)
  obtain ⟨k0, k1⟩ := box2 w _ _ _ hB1
  have k2 := box2f w _ _ _ hB1 0
  have k3 := box2f w _ _ _ hB1 1
  have HB1 := hide hB1
  clear hb1 hB1 hb2
  go_wp2_with fail
  obtain ⟨W2, hW2⟩ : ∃ W2, W2 = (w1.setCell ⟨w.heap.size, 0, none⟩ (.int .i64 n)).setCell ⟨w.heap.size, 1, none⟩ (.slice (some ⟨w1.heap.size, 0, none⟩) ((n + 7) / 8) ((n + 7) / 8)) := ⟨_, rfl⟩
  have hs2 : W2.heap.size = w1.heap.size := by rw [hW2]; simp
  have hb2 : Below w.heap.size w W2 := by rw [hW2]; exact ((((unhide Hbx).trans ((unhide HB1).mono (by omega))).setCell (Nat.le_refl _) _).setCell (Nat.le_refl _) _)
  have c0 : W2.cell? ⟨w.heap.size, 0, none⟩ = some (.int .i64 n) := by rw [hW2]; simp [go_sem, k0]
  have c1 : W2.cell? ⟨w.heap.size, 1, none⟩ = some (.slice (some ⟨w1.heap.size, 0, none⟩) ((n + 7) / 8) ((n + 7) / 8)) := by rw [hW2]; simp [go_sem, k1]
  rw [← hW2]
  have d0 := (World.cell?_alloc_past (w := W2) (.cells (madeCells #[.int .u8 0] ((n + 7) / 8)) 5) _ _ (show w.heap.size < W2.heap.size by omega)).trans c0
  have d1 := (World.cell?_alloc_past (w := W2) (.cells (madeCells #[.int .u8 0] ((n + 7) / 8)) 5) _ _ (show w.heap.size < W2.heap.size by omega)).trans c1
  refine bodyPost_ret (v := .agg #[.int .i64 n, .slice (some ⟨w1.heap.size, 0, none⟩) ((n + 7) / 8) ((n + 7) / 8)]) (by simp [results, Tryd.results46, go_sem, d0, d1]) rfl ⟨_, rfl, ?_, hb2.alloc (by omega) _⟩
  have h := World.ownsRow_lit (base := w.heap.size) (e := 5) (size := 1) W2 (madeCells #[.int .u8 0] ((n + 7) / 8)) ((n + 7) / 8) (by omega) (by unfold maxLen; omega) (by simp [size_madeCells])
  have e : u8s (List.replicate ((n + 7) / 8) 0) = (madeCells #[Value.int .u8 0] ((n + 7) / 8)).toList := by
    apply List.ext_getElem?
    intro i
    by_cases h : i < (n + 7) / 8 <;> simp [u8s, madeCells, h, Nat.mod_one]
  rw [e, ← hs2]
  exact h

set_option maxRecDepth 100000 in
theorem rbits_any (R g m c : Nat) (n : Int) (ys : List Int) (w : World) (h0 : w.cell? ⟨R, 0, none⟩ = some (.int .i64 n)) (h1 : w.cell? ⟨R, 1, none⟩ = some (.slice (some ⟨g, 0, none⟩) m c)) (hR : R < w.heap.size)
    (hl : ys.length = m) (hy : ∀ i, i < m → w.cell? ⟨g, i, none⟩ = some (.int .u8 (ys.getD i 0))) (hg : g < w.heap.size) :
    Calls Tryd.prog 49 #[.pointer (some ⟨R, 0, none⟩)] w fun e w' => e = .returned (.agg #[.int .i64 n, .string (strOfNums ys)]) ∧ Below w.heap.size w w' := by
  have hcv := run_convert_bytes_arg (P := Tryd.prog) ((w.alloc (.cells #[.int .i64 0, .string ⟨#[]⟩] 30)).drew) 51 5 Tryd.underlying51 Tryd.underlying5 g 0 m c ys hl (fun i hi => by
    rw [Nat.zero_add]
    exact (World.cell?_alloc_past (w := w) (.cells #[.int .i64 0, .string ⟨#[]⟩] 30) _ _ hg).trans (hy i hi)) 9 Tryd.underlying9
  obtain ⟨S, hS⟩ : ∃ S, S = strOfNums ys := ⟨_, rfl⟩
  rw [← hS] at hcv ⊢
  clear hS hy
  go_enter Tryd.func49, Tryd.ntmps49
  go_wp2_with fail
  go_region
  go_wp2_with fail
  have hc0 : ((w.alloc (.cells #[.int .i64 n, .string S] 30)).drew).cell? ⟨w.heap.size, 0, none⟩ = some (.int .i64 n) := (two_new w _ _ _).1
  have hc1 : ((w.alloc (.cells #[.int .i64 n, .string S] 30)).drew).cell? ⟨w.heap.size, 1, none⟩ = some (.string S) := (two_new w _ _ _).2
  exact bodyPost_ret (v := .agg #[.int .i64 n, .string S]) (by simp [results, Tryd.results49, go_sem, hc0, hc1]) rfl ⟨rfl, ((Below.refl w.heap.size w).alloc (Nat.le_refl _) _).drew⟩

end Go.Proofs.YtgkckkaegkdioaaDoor
/- Bits that are cut out. -/
namespace Go.Proofs.YtgkckkaegkdioaaDoor
open Go.RowKit Go.Deep

/-- Some bits of a row. -/
def cutBits (s : ByteArray) (f k : Nat) : List Int := (List.range k).map fun i => bit s (f + i)
theorem cutBits_length (s : ByteArray) (f k : Nat) : (cutBits s f k).length = k := by simp [cutBits]
theorem cutBits_01 (s : ByteArray) (f k : Nat) : ∀ x ∈ cutBits s f k, x = 0 ∨ x = 1 := by
  intro x hx
  obtain ⟨i, _, rfl⟩ := List.mem_map.1 hx
  exact bit_01 s _
theorem cutBits_getD (s : ByteArray) (f k i : Nat) (h : i < k) : (cutBits s f k).getD i 0 = bit s (f + i) := by
  rw [List.getD_eq_getElem?_getD]; simp [cutBits, h]
theorem okS_len {n : Int} {s : ByteArray} (h : okS n s = true) : okLen n s := by
  by_cases g : okLen n s
  · exact g
  · rw [okS_false g] at h; cases h

/-- A slice of a row of bytes. -/
theorem RowAt.slice {w : World} {a : Option Addr} {len cap : Nat} {xs ys : List Int} (h : RowAt w (.slice a len cap) xs) (f k : Nat) (hfk : f + k ≤ xs.length) (hy : ys.length = k) (he : ∀ i, i < k → ys.getD i 0 = xs.getD (f + i) 0) :
    ∀ a', (0 < k → ∀ b off, a = some ⟨b, off, none⟩ → a' = some ⟨b, off + f, none⟩) → RowAt w (.slice a' k (cap - f)) ys := by
  intro a' ha
  obtain ⟨a0, cap0, h1, h2, h3⟩ := h
  simp only [Value.slice.injEq] at h1
  obtain ⟨rfl, rfl, rfl⟩ := h1
  refine ⟨a', _, by rw [hy], by omega, fun i hi => ?_⟩
  obtain ⟨b, off, g1, g2, g3⟩ := h3 (f + i) (by omega)
  refine ⟨b, off + f, ha (by omega) b off g1, g2, ?_⟩
  rw [he i (by omega), Nat.add_assoc]; exact g3

end Go.Proofs.YtgkckkaegkdioaaDoor
/- Segments that are built: what comes of them, as a function. -/
namespace Go.Proofs.YtgkckkaegkdioaaDoor
open Go.RowKit

/-- Whether a part is one, its V aside. -/
def sgOK {n : Nat} (g : SgT n) : Bool :=
  decide (1 ≤ g.2.2.1) && decide (g.2.2.1 ≤ 256) && decide (-1 ≤ g.2.1) && decide (g.2.1 ≤ 32000) &&
    (if g.1 = 1 then decide (0 ≤ g.2.1) && decide (g.2.1 * g.2.2.1 ≤ 49) else decide (g.1 = 2) && !g.2.2.2.1 && !g.2.2.2.2.1)
/-- How many bits a part of kind Bin takes of so many. -/
def sgW {n : Nat} (g : SgT n) (most : Int) : Int := if g.2.1 = -1 then most else g.2.1 * g.2.2.1
section
variable {n : Nat} {g : SgT n} {gs : List (SgT n)} {acc xs : List Int}
end

end Go.Proofs.YtgkckkaegkdioaaDoor
/- spec's l02SegOK; impl's fits, areSegs, haveTerms. -/
namespace Go.Proofs.YtgkckkaegkdioaaDoor
open Go.RowKit

theorem sgOK_eq {n : Nat} (g1 g2 g3 : Int) (g4 g5 : Bool) (t : Tm n) : sgOK ((g1, g2, g3, g4, g5, t) : SgT n) = (decide (1 ≤ g3) && decide (g3 ≤ 256) && decide (-1 ≤ g2) && decide (g2 ≤ 32000) && (if g1 = 1 then decide (0 ≤ g2) && decide (g2 * g3 ≤ 49) else decide (g1 = 2) && !g4 && !g5)) := rfl

theorem wide_bounds {g2 g3 : Int} (p1 : 1 ≤ g3) (p2 : g3 ≤ 256) (p3 : -1 ≤ g2) (p4 : g2 ≤ 32000) : -256 ≤ g2 * g3 ∧ g2 * g3 ≤ 8192000 := by
  constructor
  · rcases Int.le_total 0 g2 with h | h
    · have := Int.mul_nonneg h (by omega : 0 ≤ g3); omega
    · obtain rfl | rfl : g2 = 0 ∨ g2 = -1 := by omega
      · simp
      · omega
  · have a1 := Int.mul_le_mul_of_nonneg_right p4 (by omega : 0 ≤ g3)
    have a2 := Int.mul_le_mul_of_nonneg_left p2 (by omega : (0 : Int) ≤ 32000)
    omega
theorem wide_wrap {g2 g3 : Int} (p1 : 1 ≤ g3) (p2 : g3 ≤ 256) (p3 : -1 ≤ g2) (p4 : g2 ≤ 32000) : IntKind.i64.wrap (g2 * g3) = g2 * g3 := by
  have := wide_bounds p1 p2 p3 p4
  rw [IntKind.wrap_i64]; omega

set_option maxRecDepth 40000 in
set_option maxHeartbeats 4000000 in
theorem sSegOK_any {n : Nat} (g1 g2 g3 : Int) (g4 g5 : Bool) (t : Tm n) (c0 c1 c2 c3 : Value) (w : World) (hs : ∃ k m s ua ul uc, c0 = .int .i64 k ∧ c1 = .int .i64 m ∧ c2 = .string s ∧ c3 = .slice ua ul uc) :
    Calls Tryd.prog 17 #[.agg #[.int .i64 g1, .int .i64 g2, .int .i64 g3, .bool g4, .bool g5, c0, c1, c2, c3]] w fun e w' => e = .returned (.bool (sgOK ((g1, g2, g3, g4, g5, t) : SgT n))) ∧ Below w.heap.size w w' := by
  obtain ⟨k, m, s, ua, ul, uc, rfl, rfl, rfl, rfl⟩ := hs
  rw [sgOK_eq]
  have hB := hide ((Below.refl w.heap.size w).alloc (Nat.le_refl _) (.cells #[.int .i64 g1, .int .i64 g2, .int .i64 g3, .bool g4, .bool g5, .int .i64 k, .int .i64 m, .string s, .slice ua ul uc] 50))
  by_cases hok : 1 ≤ g3 ∧ g3 ≤ 256 ∧ -1 ≤ g2 ∧ g2 ≤ 32000
  · obtain ⟨p1, p2, p3, p4⟩ := hok
    have b1 : ¬ g3 < 1 := by omega
    have b2 : ¬ 256 < g3 := by omega
    have b3 : ¬ g2 < -1 := by omega
    have b4 : ¬ 32000 < g2 := by omega
    have w1 := wide_wrap p1 p2 p3 p4
    by_cases ht : g1 = 1
    · subst ht
      by_cases hz : 0 ≤ g2
      · have hans : (decide (1 ≤ g3) && decide (g3 ≤ 256) && decide (-1 ≤ g2) && decide (g2 ≤ 32000) && (if (1 : Int) = 1 then decide (0 ≤ g2) && decide (g2 * g3 ≤ 49) else decide ((1 : Int) = 2) && !g4 && !g5)) = decide (g2 * g3 ≤ 49) := by
          rw [decide_eq_true p1, decide_eq_true p2, decide_eq_true p3, decide_eq_true p4, if_pos rfl, decide_eq_true hz]; rfl
        rw [hans]
        clear hans
        go_enter Tryd.func17, Tryd.ntmps17
        go_wp2_with fail
        go_ret
        exact ⟨ret_bool rfl, unhide hB⟩
      · have hz' : ¬ g2 ≥ 0 := hz
        have hans : (decide (1 ≤ g3) && decide (g3 ≤ 256) && decide (-1 ≤ g2) && decide (g2 ≤ 32000) && (if (1 : Int) = 1 then decide (0 ≤ g2) && decide (g2 * g3 ≤ 49) else decide ((1 : Int) = 2) && !g4 && !g5)) = false := by
          rw [if_pos rfl, decide_eq_false hz]; simp
        rw [hans]
        clear hans
        go_enter Tryd.func17, Tryd.ntmps17
        go_wp2_with fail
        go_ret
        exact ⟨ret_bool rfl, unhide hB⟩
    · have ht' : (g1 == 1) = false := by simpa using ht
      have hans : (decide (1 ≤ g3) && decide (g3 ≤ 256) && decide (-1 ≤ g2) && decide (g2 ≤ 32000) && (if g1 = 1 then decide (0 ≤ g2) && decide (g2 * g3 ≤ 49) else decide (g1 = 2) && !g4 && !g5)) = (decide (g1 = 2) && !g4 && !g5) := by
        rw [decide_eq_true p1, decide_eq_true p2, decide_eq_true p3, decide_eq_true p4, if_neg ht]; rfl
      rw [hans]
      clear hans
      by_cases h2' : g1 = 2
      · subst h2'
        cases g4 <;> cases g5
        all_goals
          go_enter Tryd.func17, Tryd.ntmps17
          go_wp2_with fail
          go_ret
          exact ⟨ret_bool rfl, unhide hB⟩
      · have h2'' : (g1 == 2) = false := by simpa using h2'
        rw [decide_eq_false h2']
        go_enter Tryd.func17, Tryd.ntmps17
        go_wp2_with fail
        go_ret
        exact ⟨ret_bool rfl, unhide hB⟩
  · have hans : (decide (1 ≤ g3) && decide (g3 ≤ 256) && decide (-1 ≤ g2) && decide (g2 ≤ 32000) && (if g1 = 1 then decide (0 ≤ g2) && decide (g2 * g3 ≤ 49) else decide (g1 = 2) && !g4 && !g5)) = false := by
      cases h : (decide (1 ≤ g3) && decide (g3 ≤ 256) && decide (-1 ≤ g2) && decide (g2 ≤ 32000)) with
      | false => rfl
      | true =>
        simp only [Bool.and_eq_true, decide_eq_true_eq] at h
        exact absurd ⟨h.1.1.1, h.1.1.2, h.1.2, h.2⟩ hok
    rw [hans]
    clear hans
    by_cases p1 : g3 < 1
    · go_enter Tryd.func17, Tryd.ntmps17
      go_wp2_with fail
      go_ret
      exact ⟨ret_bool rfl, unhide hB⟩
    by_cases p2 : 256 < g3
    · go_enter Tryd.func17, Tryd.ntmps17
      go_wp2_with fail
      go_ret
      exact ⟨ret_bool rfl, unhide hB⟩
    by_cases p3 : g2 < -1
    · go_enter Tryd.func17, Tryd.ntmps17
      go_wp2_with fail
      go_ret
      exact ⟨ret_bool rfl, unhide hB⟩
    have p4 : 32000 < g2 := by
      rcases (show 32000 < g2 ∨ g2 ≤ 32000 by omega) with h | h
      · exact h
      · exact absurd ⟨by omega, by omega, by omega, h⟩ hok
    go_enter Tryd.func17, Tryd.ntmps17
    go_wp2_with fail
    go_ret
    exact ⟨ret_bool rfl, unhide hB⟩

end Go.Proofs.YtgkckkaegkdioaaDoor
/- impl's isOpen, width, asField, fits of a segment. -/
namespace Go.Proofs.YtgkckkaegkdioaaDoor
open Go.RowKit Go.Deep

section
variable (g1 g2 g3 : Int) (g4 g5 : Bool) (k m : Int) (s : ByteArray) (ua : Option Addr) (ul uc : Nat) (w : World)
/-- A segment's value. -/
abbrev sgV : Value := .agg #[.int .i64 g1, .int .i64 g2, .int .i64 g3, .bool g4, .bool g5, .int .i64 k, .int .i64 m, .string s, .slice ua ul uc]
abbrev sgO : Obj := .cells #[.int .i64 g1, .int .i64 g2, .int .i64 g3, .bool g4, .bool g5, .int .i64 k, .int .i64 m, .string s, .slice ua ul uc] 50

theorem box9 {w' : World} {B : Nat} (hB : w.heap.size < B) (h : Below B (w.alloc (sgO g1 g2 g3 g4 g5 k m s ua ul uc)) w') :
    w'.cell? ⟨w.heap.size, 0, none⟩ = some (.int .i64 g1) ∧ w'.cell? ⟨w.heap.size, 1, none⟩ = some (.int .i64 g2) ∧ w'.cell? ⟨w.heap.size, 2, none⟩ = some (.int .i64 g3) ∧ w'.cell? ⟨w.heap.size, 3, none⟩ = some (.bool g4) ∧ w'.cell? ⟨w.heap.size, 4, none⟩ = some (.bool g5) ∧
    w'.cell? ⟨w.heap.size, 5, none⟩ = some (.int .i64 k) ∧ w'.cell? ⟨w.heap.size, 6, none⟩ = some (.int .i64 m) ∧ w'.cell? ⟨w.heap.size, 7, none⟩ = some (.string s) ∧ w'.cell? ⟨w.heap.size, 8, none⟩ = some (.slice ua ul uc) := by
  have hh := (h.block w.heap.size hB).trans (heap_new _ _)
  exact ⟨cell_of_heap hh 0, cell_of_heap hh 1, cell_of_heap hh 2, cell_of_heap hh 3, cell_of_heap hh 4, cell_of_heap hh 5, cell_of_heap hh 6, cell_of_heap hh 7, cell_of_heap hh 8⟩

set_option maxRecDepth 40000 in
theorem isOpen_any : Calls Tryd.prog 37 #[sgV g1 g2 g3 g4 g5 k m s ua ul uc] w fun e w' => e = .returned (.bool (g2 == -1)) ∧ Below w.heap.size w w' := by
  unfold sgV
  go_enter Tryd.func37, Tryd.ntmps37
  go_wp2_with fail
  go_ret
  exact ⟨rfl, (Below.refl _ _).alloc (Nat.le_refl _) _⟩

set_option maxRecDepth 40000 in
theorem width_any (p1 : 1 ≤ g3) (p2 : g3 ≤ 256) (p3 : -1 ≤ g2) (p4 : g2 ≤ 32000) : Calls Tryd.prog 38 #[sgV g1 g2 g3 g4 g5 k m s ua ul uc] w fun e w' => e = .returned (.int .i64 (g2 * g3)) ∧ Below w.heap.size w w' := by
  have w1 := wide_wrap p1 p2 p3 p4
  unfold sgV
  go_enter Tryd.func38, Tryd.ntmps38
  go_wp2_with fail
  go_ret
  exact ⟨rfl, (Below.refl _ _).alloc (Nat.le_refl _) _⟩

set_option maxRecDepth 40000 in
set_option maxHeartbeats 1000000 in
theorem asField_any (p1 : 1 ≤ g3) (p2 : g3 ≤ 256) (p3 : -1 ≤ g2) (p4 : g2 ≤ 32000) : Calls Tryd.prog 39 #[sgV g1 g2 g3 g4 g5 k m s ua ul uc] w fun e w' => e = .returned (.agg #[.int .i64 (g2 * g3), .bool g4, .bool g5]) ∧ Below w.heap.size w w' := by
  have HW := hide (fun w => width_any g1 g2 g3 g4 g5 k m s ua ul uc w p1 p2 p3 p4)
  clear p1 p2 p3 p4
  unfold sgV
  go_enter Tryd.func39, Tryd.ntmps39
  go_wp2_with fail
  obtain ⟨n0, n1, l0, l1⟩ := two_news w (sgO g1 g2 g3 g4 g5 k m s ua ul uc) (.cells #[.int .i64 0, .bool false, .bool false] 73)
  have hB := below_two w (sgO g1 g2 g3 g4 g5 k m s ua ul uc) (.cells #[.int .i64 0, .bool false, .bool false] 73)
  have HN := hide (And.intro n0 (And.intro n1 (And.intro l0 (And.intro l1 hB))))
  clear n0 n1 l0 l1 hB
  go_region_with (go_at_call 38; refine ((unhide HW) _).mono ?_; rintro e w1 ⟨rfl, hb1⟩; obtain ⟨n0, n1, l0, l1, hB⟩ := unhide HN; have q0 := (hb1.block w.heap.size l0).trans n0; have q1 := (hb1.block (w.heap.size + 1) l1).trans n1; have x0 := cell_of_heap q0 0; have x3 := cell_of_heap q0 3; have x4 := cell_of_heap q0 4; have y0 := cell_of_heap q1 0; have y1 := cell_of_heap q1 1; have y2 := cell_of_heap q1 2; have f0 := frozen_of_heap q1 0; have f1 := frozen_of_heap q1 1; have f2 := frozen_of_heap q1 2; have H1 := hide (And.intro q1 (hB.drew.trans (hb1.mono (Nat.le_of_lt l0)))); clear hb1 n0 n1 l0 l1 hB q0 q1)
  all_goals
    go_wp2_with fail
    exact bodyPost_ret (v := .agg #[.int .i64 (g2 * g3), .bool g4, .bool g5]) (by simp [results, Tryd.results39, go_sem, y0, y1, y2]) rfl ⟨rfl, (((unhide H1).2.setCell (p := ⟨w.heap.size + 1, 0, none⟩) (Nat.le_succ _) _).setCell (p := ⟨w.heap.size + 1, 1, none⟩) (Nat.le_succ _) _).setCell (p := ⟨w.heap.size + 1, 2, none⟩) (Nat.le_succ _) _⟩
end

end Go.Proofs.YtgkckkaegkdioaaDoor
/- impl's values: how they lie in memory; cmp.Compare at its instances. -/
namespace Go.Proofs.YtgkckkaegkdioaaDoor
open Go.RowKit

/-- A row of one-cell values in blocks of which S holds; cell i stands for ks[i]. -/
def KAt {α : Type} (S : Nat → Prop) (w : World) (R : α → Value → Prop) (ks : List α) (a : Option Addr) : Prop :=
  ∀ i (h : i < ks.length), ∃ b off v, a = some ⟨b, off, none⟩ ∧ S b ∧ w.cell? ⟨b, off + i, none⟩ = some v ∧ R ks[i] v

theorem KAt.keep {α : Type} {S : Nat → Prop} {w w' : World} {R R' : α → Value → Prop} {ks : List α} {a : Option Addr}
    (h : KAt S w R ks a) (hk : ∀ b, S b → w'.heap[b]? = w.heap[b]?) (hR : ∀ t ∈ ks, ∀ v, R t v → R' t v) : KAt S w' R' ks a := by
  intro i hi
  obtain ⟨b, off, v, ha, hS, e, hr⟩ := h i hi
  exact ⟨b, off, v, ha, hS, by rw [World.cell?_of_block (w := w) (hk b hS), e], hR _ (List.getElem_mem hi) _ hr⟩
theorem KAt.mono {α : Type} {S S' : Nat → Prop} {w : World} {R R' : α → Value → Prop} {ks : List α} {a : Option Addr}
    (h : KAt S w R ks a) (hk : ∀ b, S b → S' b) (hR : ∀ t ∈ ks, ∀ v, R t v → R' t v) : KAt S' w R' ks a := by
  intro i hi
  obtain ⟨b, off, v, ha, hS, e, hr⟩ := h i hi
  exact ⟨b, off, v, ha, hk b hS, e, hR _ (List.getElem_mem hi) _ hr⟩

end Go.Proofs.YtgkckkaegkdioaaDoor
/- impl's way inward: the counter (passed), the worlds in which all but the counter's block is kept. -/
namespace Go.Proofs.YtgkckkaegkdioaaDoor
open Go.RowKit

/-- All blocks that were there are as they were, but block g. -/
structure But (g : Nat) (w w' : World) : Prop where
  os : w'.os = w.os
  tape : w'.tape = w.tape
  output : w'.output = w.output
  size : w.heap.size ≤ w'.heap.size
  block : ∀ k, k < w.heap.size → k ≠ g → w'.heap[k]? = w.heap[k]?

theorem But.refl (g : Nat) (w : World) : But g w w := ⟨rfl, rfl, rfl, Nat.le_refl _, fun _ _ _ => rfl⟩
theorem But.trans {g : Nat} {a b c : World} (h : But g a b) (k : But g b c) : But g a c :=
  ⟨k.os.trans h.os, k.tape.trans h.tape, k.output.trans h.output, Nat.le_trans h.size k.size, fun i hi hg => (k.block i (Nat.lt_of_lt_of_le hi h.size) hg).trans (h.block i hi hg)⟩
theorem But.below {g : Nat} {w w' : World} (h : Below w.heap.size w w') : But g w w' := ⟨h.os, h.tape, h.output, h.size, fun k hk _ => h.block k hk⟩
theorem But.alloc {g : Nat} {a w : World} (h : But g a w) (o : Obj) : But g a (w.alloc o) := h.trans (But.below ((Below.refl _ _).alloc (Nat.le_refl _) _))
theorem But.set {g : Nat} {a w : World} (h : But g a w) (o : Nat) (v : Value) : But g a (w.setCell ⟨g, o, none⟩ v) :=
  h.trans ⟨rfl, rfl, rfl, by simp, fun k _ hg => Below.heap_setCell _ _ _ _ hg⟩
theorem But.grown {g R : Nat} {a w w' : World} (h : But g a w) (hg : w.grownBy w' (some R)) (hR : a.heap.size ≤ R) : But g a w' :=
  ⟨hg.os.trans h.os, hg.tape.trans h.tape, hg.output.trans h.output, Nat.le_trans h.size hg.size, fun k hk hn => (hg.block k (Nat.lt_of_lt_of_le hk h.size) (by intro e; injection e with e; omega)).trans (h.block k hk hn)⟩
end Go.Proofs.YtgkckkaegkdioaaDoor
/- impl's way inward: rows of kids (goIn.row), given the way inward of one. -/
namespace Go.Proofs.YtgkckkaegkdioaaDoor
open Go.RowKit

/-- The blocks of the input: there, and not the counter's. -/
abbrev Inp (w : World) (g : Nat) : Nat → Prop := fun b => b < w.heap.size ∧ b ≠ g

theorem TAt.but {w w' : World} {g : Nat} (hb : But g w w') {n : Nat} {t : Tm n} {a b c d : Value} (h : TAt (Inp w g) w n t a b c d) : TAt (Inp w' g) w' n t a b c d :=
  (h.keep fun b hs => hb.block b hs.1 hs.2).mono fun _ hs => ⟨Nat.lt_of_lt_of_le hs.1 hb.size, hs.2⟩
theorem SAt.but {w w' : World} {g : Nat} (hb : But g w w') {n : Nat} {ks : List (Tm n)} {v : Value} (h : SAt (Inp w g) w (TAt (Inp w g) w n) ks v) : SAt (Inp w' g) w' (TAt (Inp w' g) w' n) ks v :=
  (h.keep (R' := TAt (Inp w g) w' n) (fun b hs => hb.block b hs.1 hs.2) fun _ _ _ _ _ _ ht => ht.keep fun b hs => hb.block b hs.1 hs.2).mono (fun _ hs => ⟨Nat.lt_of_lt_of_le hs.1 hb.size, hs.2⟩)
    fun _ _ _ _ _ _ ht => ht.mono fun _ hs => ⟨Nat.lt_of_lt_of_le hs.1 hb.size, hs.2⟩

end Go.Proofs.YtgkckkaegkdioaaDoor
/- impl's way inward: goIn.rising, the pairs of a map whose keys must rise. -/
namespace Go.Proofs.YtgkckkaegkdioaaDoor
open Go.RowKit

theorem KAt.list {α : Type} {S : Nat → Prop} {w : World} {R : α → Value → Prop} {ks : List α} {r : Nat} (h : KAt S w R ks (some ⟨r, 0, none⟩)) :
    ∃ vs : List Value, vs.length = ks.length ∧ ∀ j (hj : j < ks.length) (hj' : j < vs.length), S r ∧ w.cell? ⟨r, j, none⟩ = some vs[j] ∧ R ks[j] vs[j] := by
  have hx : ∀ j : Fin ks.length, ∃ v, S r ∧ w.cell? ⟨r, j.1, none⟩ = some v ∧ R (ks[j.1]'j.2) v := fun ⟨j, hj⟩ => by
    obtain ⟨b, off, v, e, hS, hc, hR⟩ := h j hj
    cases e
    exact ⟨v, hS, by simpa using hc, hR⟩
  refine ⟨List.ofFn fun j => (hx j).choose, by simp, fun j hj hj' => ?_⟩
  have := (hx ⟨j, hj⟩).choose_spec
  simpa using this

end Go.Proofs.YtgkckkaegkdioaaDoor
/- impl's fits of a segment; areSegs, haveTerms. -/
namespace Go.Proofs.YtgkckkaegkdioaaDoor
open Go.RowKit Go.Deep

section
variable (g1 g2 g3 : Int) (g4 g5 : Bool) (k m : Int) (s : ByteArray) (ua : Option Addr) (ul uc : Nat) (w : World)
set_option maxRecDepth 40000 in
set_option maxHeartbeats 4000000 in
theorem sfits_any {n : Nat} (t : Tm n) : Calls Tryd.prog 36 #[sgV g1 g2 g3 g4 g5 k m s ua ul uc] w fun e w' => e = .returned (.bool (sgOK ((g1, g2, g3, g4, g5, t) : SgT n))) ∧ Below w.heap.size w w' := by
  rw [sgOK_eq]
  have hB := hide ((Below.refl w.heap.size w).alloc (Nat.le_refl _) (sgO g1 g2 g3 g4 g5 k m s ua ul uc))
  by_cases hok : 1 ≤ g3 ∧ g3 ≤ 256 ∧ -1 ≤ g2 ∧ g2 ≤ 32000
  · obtain ⟨p1, p2, p3, p4⟩ := hok
    have b1 : ¬ g3 < 1 := by omega
    have b2 : ¬ 256 < g3 := by omega
    have b3 : ¬ g2 < -1 := by omega
    have b4 : ¬ 32000 < g2 := by omega
    have HO := hide (fun w => isOpen_any g1 g2 g3 g4 g5 k m s ua ul uc w)
    have HA := hide (fun w => asField_any g1 g2 g3 g4 g5 k m s ua ul uc w p1 p2 p3 p4)
    by_cases ht : g1 = 1
    · subst ht
      by_cases hz : g2 = -1
      · subst hz
        have hz' : ((-1 : Int) == -1) = true := rfl
        have hans : (decide (1 ≤ g3) && decide (g3 ≤ 256) && decide ((-1 : Int) ≤ -1) && decide ((-1 : Int) ≤ 32000) && (if (1 : Int) = 1 then decide ((0 : Int) ≤ -1) && decide (-1 * g3 ≤ 49) else decide ((1 : Int) = 2) && !g4 && !g5)) = false := by
          rw [if_pos rfl, decide_eq_false (show ¬ (0 : Int) ≤ -1 by omega)]; simp
        rw [hans]
        clear hans
        unfold sgV
        go_enter Tryd.func36, Tryd.ntmps36
        go_wp2_with fail
        refine ((unhide HO) _).mono ?_
        rintro e w1 ⟨rfl, hb1⟩
        rw [hz']
        go_wp2_with fail
        go_ret
        exact ⟨ret_bool rfl, (unhide hB).trans (hb1.mono (by simp))⟩
      · have hz' : (g2 == -1) = false := by simpa using hz
        have hm := Int.mul_nonneg (show 0 ≤ g2 by omega) (show 0 ≤ g3 by omega)
        have hans : (decide (1 ≤ g3) && decide (g3 ≤ 256) && decide (-1 ≤ g2) && decide (g2 ≤ 32000) && (if (1 : Int) = 1 then decide (0 ≤ g2) && decide (g2 * g3 ≤ 49) else decide ((1 : Int) = 2) && !g4 && !g5)) = (decide (0 ≤ g2 * g3) && decide (g2 * g3 ≤ 49)) := by
          rw [decide_eq_true p1, decide_eq_true p2, decide_eq_true p3, decide_eq_true p4, if_pos rfl, decide_eq_true (show 0 ≤ g2 by omega), decide_eq_true hm]; rfl
        rw [hans]
        clear hans hm
        unfold sgV
        go_enter Tryd.func36, Tryd.ntmps36
        go_wp2_with fail
        refine ((unhide HO) _).mono ?_
        rintro e w1 ⟨rfl, hb1⟩
        rw [hz']
        obtain ⟨x0, x1, x2, x3, x4, x5, x6, x7, x8⟩ := box9 1 g2 g3 g4 g5 k m s ua ul uc w (Nat.lt_succ_self _) (hb1.mono (by simp))
        have H1 := hide ((unhide hB).trans (hb1.mono (by simp)))
        clear hb1
        go_wp2_with fail
        refine ((unhide HA) _).mono ?_
        rintro e w2 ⟨rfl, hb2⟩
        have H2 := hide ((unhide H1).trans (hb2.mono (unhide H1).size))
        clear hb2 x0 x1 x2 x3 x4 x5 x6 x7 x8
        go_wp2_with fail
        refine (ffits_any _ _ _ _).mono ?_
        rintro e w3 ⟨rfl, hb3⟩
        go_wp2_with fail
        go_ret
        exact ⟨ret_bool rfl, (unhide H2).trans (hb3.mono (unhide H2).size)⟩
    · have ht' : (g1 == 1) = false := by simpa using ht
      have hans : (decide (1 ≤ g3) && decide (g3 ≤ 256) && decide (-1 ≤ g2) && decide (g2 ≤ 32000) && (if g1 = 1 then decide (0 ≤ g2) && decide (g2 * g3 ≤ 49) else decide (g1 = 2) && !g4 && !g5)) = (decide (g1 = 2) && !g4 && !g5) := by
        rw [decide_eq_true p1, decide_eq_true p2, decide_eq_true p3, decide_eq_true p4, if_neg ht]; rfl
      rw [hans]
      clear hans
      unfold sgV
      by_cases h2' : g1 = 2
      · subst h2'
        cases g4 <;> cases g5
        all_goals
          go_enter Tryd.func36, Tryd.ntmps36
          go_wp2_with fail
          go_ret
          exact ⟨ret_bool rfl, unhide hB⟩
      · have h2'' : (g1 == 2) = false := by simpa using h2'
        rw [decide_eq_false h2']
        go_enter Tryd.func36, Tryd.ntmps36
        go_wp2_with fail
        go_ret
        exact ⟨ret_bool rfl, unhide hB⟩
  · have hans : (decide (1 ≤ g3) && decide (g3 ≤ 256) && decide (-1 ≤ g2) && decide (g2 ≤ 32000) && (if g1 = 1 then decide (0 ≤ g2) && decide (g2 * g3 ≤ 49) else decide (g1 = 2) && !g4 && !g5)) = false := by
      cases h : (decide (1 ≤ g3) && decide (g3 ≤ 256) && decide (-1 ≤ g2) && decide (g2 ≤ 32000)) with
      | false => rfl
      | true =>
        simp only [Bool.and_eq_true, decide_eq_true_eq] at h
        exact absurd ⟨h.1.1.1, h.1.1.2, h.1.2, h.2⟩ hok
    rw [hans]
    clear hans
    unfold sgV
    by_cases p1 : g3 < 1
    · go_enter Tryd.func36, Tryd.ntmps36
      go_wp2_with fail
      go_ret
      exact ⟨ret_bool rfl, unhide hB⟩
    by_cases p2 : 256 < g3
    · go_enter Tryd.func36, Tryd.ntmps36
      go_wp2_with fail
      go_ret
      exact ⟨ret_bool rfl, unhide hB⟩
    by_cases p3 : g2 < -1
    · go_enter Tryd.func36, Tryd.ntmps36
      go_wp2_with fail
      go_ret
      exact ⟨ret_bool rfl, unhide hB⟩
    have p4 : 32000 < g2 := by
      rcases (show 32000 < g2 ∨ g2 ≤ 32000 by omega) with h | h
      · exact h
      · exact absurd ⟨by omega, by omega, by omega, h⟩ hok
    go_enter Tryd.func36, Tryd.ntmps36
    go_wp2_with fail
    go_ret
    exact ⟨ret_bool rfl, unhide hB⟩
end

end Go.Proofs.YtgkckkaegkdioaaDoor
/- impl's areSegs, haveTerms. -/
namespace Go.Proofs.YtgkckkaegkdioaaDoor
open Go.RowKit Go.Deep

def fitX {n : Nat} (gs : List (SgT n)) : Bool := gs.all fun g => sgOK g
theorem allB_of {α : Type} {p : α → Bool} {xs : List α} (h : ∀ i (hi : i < xs.length), p xs[i] = true) : xs.all p = true := by
  rw [List.all_eq_true]
  intro x hx
  obtain ⟨i, hi, rfl⟩ := List.mem_iff_getElem.1 hx
  exact h i hi
theorem allB_not {α : Type} {p : α → Bool} {xs : List α} {i : Nat} (hi : i < xs.length) (h : p xs[i] = false) : xs.all p = false := by
  rw [List.all_eq_false]
  exact ⟨_, List.getElem_mem hi, by rw [h]; exact Bool.false_ne_true⟩

section
variable {n : Nat} (gs : List (SgT n)) (v : Value) (w : World)
set_option maxRecDepth 40000 in
set_option maxHeartbeats 2000000 in
theorem areSegs_any (hv : SgsAt (Under w.heap.size) w n gs v) : Calls Tryd.prog 25 #[v] w fun e w' => e = .returned (.bool (decide (gs.length ≤ 200) && fitX gs)) ∧ Below w.heap.size w w' := by
  obtain ⟨a, cap, rfl, hcap⟩ : ∃ a cap, v = .slice a gs.length cap ∧ gs.length ≤ 2 ^ 47 := by obtain ⟨a, cap, h, _, h2, _⟩ := hv; exact ⟨a, cap, h, h2⟩
  by_cases hbig : (200 : Int) < (gs.length : Int)
  · rw [decide_eq_false (show ¬ gs.length ≤ 200 by omega)]
    go_enter Tryd.func25, Tryd.ntmps25
    go_wp2_with fail
    go_ret
    exact ⟨ret_bool rfl, Below.refl _ _⟩
  · rw [decide_eq_true (show gs.length ≤ 200 by omega)]
    go_enter Tryd.func25, Tryd.ntmps25
    go_wp2_with fail
    go_loopw [10] (fun iv wr => ∃ k : Nat, k ≤ gs.length ∧ iv = .int .i64 k ∧ Below w.heap.size w wr ∧ ∀ i (hi : i < gs.length), i < k → sgOK gs[i] = true) (fun iv _ => gs.length - (intOf iv).toNat)
    case atStart => exact ⟨0, by omega, rfl, Below.refl _ _, fun i _ hi => absurd hi (by omega)⟩
    case round =>
      obtain ⟨k, hk, rfl, hb, hall⟩ := hrel
      by_cases hlt : k < gs.length
      · obtain ⟨b, off, kk, km, ks, ku, rfl, hS, e0, e1, e2, e3, e4, e5, e6, e7, e8, i1, i2, i3, hr⟩ := (hv.up hb).at k hlt
        obtain ⟨g1, g2, g3, g4, g5, t, hgk⟩ : ∃ g1 g2 g3 g4 g5 t, gs[k] = ((g1, g2, g3, g4, g5, t) : SgT n) := ⟨_, _, _, _, _, _, rfl⟩
        rw [hgk] at e0 e1 e2 e3 e4 hr
        dsimp only at e0 e1 e2 e3 e4 hr
        obtain ⟨_, _, _, ua, ul, uc, h1, h2, h3, rfl⟩ := hr.shape
        have HC := hide (fun w => sfits_any g1 g2 g3 g4 g5 kk km ks ua ul uc w t)
        have HGK := hide hgk
        have HB := hide hb
        clear hr hb h1 h2 h3 i1 i2 i3 hgk
        go_wp2_with fail
        refine ((unhide HC) _).mono ?_
        rintro e w1 ⟨rfl, hb1⟩
        have hw1 := (unhide HB).trans ((((Below.refl wr.heap.size wr).alloc (Nat.le_refl _) _).trans (hb1.mono (by simp))).mono (unhide HB).size)
        cases hok : sgOK ((g1, g2, g3, g4, g5, t) : SgT n) with
        | true =>
          have HOK := hide hok
          have HW := hide hw1
          clear hb1 hok hw1
          go_wp2_with fail
          go_roundw
          case rel => exact ⟨k + 1, hlt, by go_num, unhide HW, fun i hi hik => by
            rcases (show i < k ∨ i = k by omega) with h | rfl
            · exact hall i hi h
            · rw [unhide HGK]; exact unhide HOK⟩
          case measure => simp [intOf]; omega
        | false =>
          have hans : fitX gs = false := allB_not (i := k) hlt (by rw [unhide HGK]; exact hok)
          have HANS := hide hans
          clear hans
          have HW := hide hw1
          clear hb1 hok hw1
          go_wp2_with fail
          go_ret
          exact ⟨ret_bool (by rw [unhide HANS]; rfl), unhide HW⟩
      · have hans : fitX gs = true := allB_of fun i hi => hall i hi (by omega)
        have HANS := hide hans
        clear hans
        go_wp2_with fail
        go_ret
        exact ⟨ret_bool (by rw [unhide HANS]; rfl), hb⟩

end

end Go.Proofs.YtgkckkaegkdioaaDoor
/- Plain facts: bits as a number, in the order in which a field has them. -/
namespace Go.Proofs.YtgkckkaegkdioaaDoor
open Go.RowKit

/-- Bit by bit, each at its place. -/
def orN (x : Nat → Bool) (size : Nat) (li : Bool) : Nat → Nat
  | 0 => 0
  | k + 1 => match x k with
    | true => orN x size li k ||| 2 ^ pw size li k
    | false => orN x size li k
/-- The highest first, each step twice the number. -/
def hN (x : Nat → Bool) : Nat → Nat
  | 0 => 0
  | k + 1 => hN x k * 2 + (x k).toNat
/-- In pieces of eight. -/
def totN (x : Nat → Bool) (size : Nat) : Nat → Nat
  | 0 => 0
  | p + 1 => totN x size p + hN (fun j => x (8 * p + j)) (min (8 * p + 8) size - 8 * p) * 2 ^ (8 * p)

theorem orN_bit (x : Nat → Bool) (size : Nat) (li : Bool) (q : Nat) : ∀ k, (orN x size li k).testBit q = true ↔ ∃ i, i < k ∧ x i = true ∧ pw size li i = q
  | 0 => by simp [orN]
  | k + 1 => by
    have ih := orN_bit x size li q k
    unfold orN
    cases h : x k
    · simp only
      rw [ih]
      constructor
      · rintro ⟨i, h1, h2, h3⟩; exact ⟨i, by omega, h2, h3⟩
      · rintro ⟨i, h1, h2, h3⟩
        have : i ≠ k := by rintro rfl; rw [h] at h2; cases h2
        exact ⟨i, by omega, h2, h3⟩
    · simp only [Nat.testBit_or, Bool.or_eq_true, Nat.testBit_two_pow, decide_eq_true_eq]
      rw [ih]
      constructor
      · rintro (⟨i, h1, h2, h3⟩ | h3)
        · exact ⟨i, by omega, h2, h3⟩
        · exact ⟨k, by omega, h, h3⟩
      · rintro ⟨i, h1, h2, h3⟩
        by_cases hi : i = k
        · subst hi; exact Or.inr h3
        · exact Or.inl ⟨i, by omega, h2, h3⟩
theorem hN_lt (x : Nat → Bool) : ∀ k, hN x k < 2 ^ k
  | 0 => by simp [hN]
  | k + 1 => by have := hN_lt x k; have h2 := (x k).toNat_le; unfold hN; rw [Nat.pow_succ]; omega
theorem hN_bit (x : Nat → Bool) : ∀ k q, (hN x k).testBit q = true ↔ q < k ∧ x (k - 1 - q) = true
  | 0, q => by simp [hN]
  | k + 1, 0 => by
    unfold hN
    rw [Nat.testBit_zero]
    cases h : x k <;> simp [h] <;> omega
  | k + 1, q + 1 => by
    have ih := hN_bit x k q
    unfold hN
    rw [Nat.testBit_succ]
    have e : (hN x k * 2 + (x k).toNat) / 2 = hN x k := by have := (x k).toNat_le; omega
    rw [e, ih]
    constructor
    · rintro ⟨h1, h2⟩; exact ⟨by omega, by rw [show k + 1 - 1 - (q + 1) = k - 1 - q by omega]; exact h2⟩
    · rintro ⟨h1, h2⟩; exact ⟨by omega, by rw [show k - 1 - q = k + 1 - 1 - (q + 1) by omega]; exact h2⟩
theorem totN_lt (x : Nat → Bool) (size : Nat) : ∀ p, totN x size p < 2 ^ min (8 * p) size
  | 0 => by simp [totN]
  | p + 1 => by
    have ih := totN_lt x size p
    unfold totN
    have hh := hN_lt (fun j => x (8 * p + j)) (min (8 * p + 8) size - 8 * p)
    by_cases h : 8 * p < size
    · have e1 : min (8 * p) size = 8 * p := by omega
      have e2 : min (8 * (p + 1)) size = 8 * p + (min (8 * p + 8) size - 8 * p) := by omega
      rw [e1] at ih
      rw [e2, Nat.pow_add]
      have : (hN (fun j => x (8 * p + j)) (min (8 * p + 8) size - 8 * p) + 1) * 2 ^ (8 * p) ≤ 2 ^ (min (8 * p + 8) size - 8 * p) * 2 ^ (8 * p) := Nat.mul_le_mul_right _ hh
      rw [Nat.add_mul, Nat.one_mul] at this
      rw [Nat.mul_comm (2 ^ (8 * p))]
      omega
    · have e1 : min (8 * p) size = size := by omega
      have e2 : min (8 * (p + 1)) size = size := by omega
      have e3 : min (8 * p + 8) size - 8 * p = 0 := by omega
      rw [e1] at ih
      rw [e2, e3]
      simpa [hN] using ih
theorem totN_bit (x : Nat → Bool) (size q : Nat) : ∀ p, (totN x size p).testBit q = true ↔ q < min (8 * p) size ∧ x (8 * (q / 8) + (min (8 * (q / 8) + 8) size - 1 - q)) = true
  | 0 => by simp [totN]
  | p + 1 => by
    have ih := totN_bit x size q p
    have hl := totN_lt x size p
    have hl' : totN x size p < 2 ^ (8 * p) := Nat.lt_of_lt_of_le hl (Nat.pow_le_pow_right (by decide) (by omega))
    unfold totN
    rw [Nat.add_comm, Nat.mul_comm, Nat.testBit_two_pow_mul_add _ hl']
    by_cases h : q < 8 * p
    · rw [if_pos h, ih]
      constructor
      · rintro ⟨h1, h2⟩; exact ⟨by omega, h2⟩
      · rintro ⟨h1, h2⟩; exact ⟨by omega, h2⟩
    · rw [if_neg h, hN_bit]
      constructor
      · rintro ⟨h1, h2⟩
        have e : q / 8 = p := by omega
        refine ⟨by omega, ?_⟩
        rw [e, show 8 * p + (min (8 * p + 8) size - 1 - q) = 8 * p + (min (8 * p + 8) size - 8 * p - 1 - (q - 8 * p)) by omega]
        exact h2
      · rintro ⟨h1, h2⟩
        have e : q / 8 = p := by omega
        refine ⟨by omega, ?_⟩
        rw [e, show 8 * p + (min (8 * p + 8) size - 1 - q) = 8 * p + (min (8 * p + 8) size - 8 * p - 1 - (q - 8 * p)) by omega] at h2
        exact h2

theorem big_eq (x : Nat → Bool) (size : Nat) : hN x size = orN x size false size := by
  apply Nat.eq_of_testBit_eq
  intro q
  rw [Bool.eq_iff_iff, hN_bit, orN_bit]
  constructor
  · rintro ⟨h1, h2⟩; exact ⟨size - 1 - q, by omega, h2, by unfold pw; simp only; omega⟩
  · rintro ⟨i, h1, h2, h3⟩
    unfold pw at h3; simp only at h3
    exact ⟨by omega, by rw [show size - 1 - q = i by omega]; exact h2⟩
theorem little_eq (x : Nat → Bool) (size p : Nat) (hp : size ≤ 8 * p) : totN x size p = orN x size true size := by
  apply Nat.eq_of_testBit_eq
  intro q
  rw [Bool.eq_iff_iff, totN_bit, orN_bit]
  constructor
  · rintro ⟨h1, h2⟩
    refine ⟨8 * (q / 8) + (min (8 * (q / 8) + 8) size - 1 - q), by omega, h2, ?_⟩
    unfold pw; simp only; omega
  · rintro ⟨i, h1, h2, h3⟩
    unfold pw at h3; simp only at h3
    have e : q / 8 = i / 8 := by omega
    refine ⟨by omega, ?_⟩
    rw [e, show 8 * (i / 8) + (min (8 * (i / 8) + 8) size - 1 - q) = i by omega]
    exact h2
theorem orN_lt (x : Nat → Bool) (size : Nat) (li : Bool) : ∀ k, k ≤ size → orN x size li k < 2 ^ size
  | 0, _ => by simp [orN]; exact Nat.two_pow_pos _
  | k + 1, h => by
    have ih := orN_lt x size li k (by omega)
    unfold orN
    cases x k
    · exact ih
    · exact Nat.or_lt_two_pow ih (Nat.pow_lt_pow_right (by decide) (pw_lt size li k (by omega)))

/-- The bits of a list. -/
def xbit (xs : List Int) (i : Nat) : Bool := decide (xs.getD i 0 = 1)
theorem xbit_val {xs : List Int} (hx : ∀ x ∈ xs, x = 0 ∨ x = 1) (i : Nat) : xs.getD i 0 = ((xbit xs i).toNat : Int) := by
  have := getD_01 hx i
  unfold xbit
  rcases this with h | h <;> rw [h] <;> rfl
theorem hN_step {xs : List Int} (hx : ∀ x ∈ xs, x = 0 ∨ x = 1) (k : Nat) : (hN (xbit xs) k : Int) * 2 + xs.getD k 0 = (hN (xbit xs) (k + 1) : Nat) := by
  rw [xbit_val hx]; simp [hN]
theorem hN_le (x : Nat → Bool) (k : Nat) (hk : k ≤ 49) : hN x k ≤ 562949953421312 :=
  Nat.le_of_lt (Nat.lt_of_lt_of_le (hN_lt x k) (Nat.le_trans (Nat.pow_le_pow_right (by decide) hk) (by decide)))

theorem hN_congr {x y : Nat → Bool} : ∀ k, (∀ j, j < k → x j = y j) → hN x k = hN y k
  | 0, _ => rfl
  | k + 1, h => by unfold hN; rw [hN_congr k fun j hj => h j (by omega), h k (by omega)]
/-- Some numbers of a list. -/
def piece (xs : List Int) (f k : Nat) : List Int := (List.range k).map fun i => xs.getD (f + i) 0
theorem piece_length (xs : List Int) (f k : Nat) : (piece xs f k).length = k := by simp [piece]
theorem piece_getD (xs : List Int) (f k i : Nat) (h : i < k) : (piece xs f k).getD i 0 = xs.getD (f + i) 0 := by
  rw [List.getD_eq_getElem?_getD]; simp [piece, h]
theorem piece_01 {xs : List Int} (hx : ∀ x ∈ xs, x = 0 ∨ x = 1) (f k : Nat) : ∀ x ∈ piece xs f k, x = 0 ∨ x = 1 := by
  intro x hx'
  obtain ⟨i, _, rfl⟩ := List.mem_map.1 hx'
  exact getD_01 hx _
theorem hN_piece (xs : List Int) (f k : Nat) : hN (xbit (piece xs f k)) k = hN (fun j => xbit xs (f + j)) k :=
  hN_congr k fun j hj => by unfold xbit; rw [piece_getD xs f k j hj]
theorem tot_bounds (x : Nat → Bool) (size p : Nat) (hs : size ≤ 49) : (totN x size p : Int) ≤ 562949953421312 := by
  have := Nat.le_of_lt (Nat.lt_of_lt_of_le (totN_lt x size p) (Nat.le_trans (Nat.pow_le_pow_right (by decide) (show min (8 * p) size ≤ 49 by omega)) (by decide : 2 ^ 49 ≤ 562949953421312)))
  omega
theorem tot_step (x : Nat → Bool) (size p : Nat) : (totN x size (p + 1) : Int) = totN x size p + (hN (fun j => x (8 * p + j)) (min (8 * p + 8) size - 8 * p) : Int) * 2 ^ (8 * p) := by
  simp [totN]

/-- With its sign. -/
def signed (sg : Bool) (size : Nat) (v : Nat) : Int := match sg && decide (0 < size) && decide ((2 : Int) ^ (size - 1) ≤ v) with
  | true => v - 2 ^ size
  | false => v

theorem i64_or (a P : Nat) (ha : a < 2 ^ 49) (hP : P < 49) : bits .or .i64 (a : Int) ((2 : Int) ^ P) = ((a ||| 2 ^ P : Nat) : Int) := by
  have hp : (2 : Nat) ^ P < 2 ^ 49 := Nat.pow_lt_pow_right (by decide) hP
  have hx : a ||| 2 ^ P < 2 ^ 49 := Nat.or_lt_two_pow ha hp
  have e : (2 : Int) ^ P = ((2 ^ P : Nat) : Int) := by simp
  have h49 : (2 : Nat) ^ 49 = 562949953421312 := by decide
  rw [h49] at ha hp hx
  have hn : ∀ b : Nat, b < 562949953421312 → (BitVec.ofInt 64 (b : Int)).toNat = b := fun b hb => by
    rw [BitVec.ofInt_natCast, BitVec.toNat_ofNat]; exact Nat.mod_eq_of_lt (by omega)
  rw [e]
  show IntKind.i64.wrap ((BitVec.ofInt 64 (a : Int) ||| BitVec.ofInt 64 ((2 ^ P : Nat) : Int)).toNat : Int) = _
  rw [BitVec.toNat_or, hn a ha, hn _ hp, IntKind.wrap_i64]
  omega
theorem orN_set (x : Nat → Bool) (size : Nat) (li : Bool) (k : Nat) (h : x k = true) : orN x size li (k + 1) = orN x size li k ||| 2 ^ pw size li k := by
  simp [orN, h]
theorem orN_skip (x : Nat → Bool) (size : Nat) (li : Bool) (k : Nat) (h : x k = false) : orN x size li (k + 1) = orN x size li k := by
  simp [orN, h]
theorem top_bit (n k : Nat) (hk : 0 < k) (h : n < 2 ^ k) : (n : Int) / 2 ^ (k - 1) = 1 ↔ (2 : Int) ^ (k - 1) ≤ n := by
  obtain ⟨j, rfl⟩ : ∃ j, k = j + 1 := ⟨k - 1, by omega⟩
  have e : ((2 ^ (j + 1) : Nat) : Int) = 2 * 2 ^ j := by rw [Nat.pow_succ]; simp; omega
  have h' : (n : Int) < 2 * 2 ^ j := by rw [← e]; exact Int.ofNat_lt.2 h
  have hp : (0 : Int) < 2 ^ j := Int.pow_pos (by decide)
  simp only [Nat.add_sub_cancel]
  constructor
  · intro h1
    have := Int.mul_ediv_self_le (x := (n : Int)) (k := 2 ^ j) (by omega)
    rw [h1] at this; omega
  · intro h1
    have h2 : 1 ≤ (n : Int) / 2 ^ j := (Int.le_ediv_iff_mul_le hp).2 (by omega)
    have h3 : (n : Int) / 2 ^ j < 2 := (Int.ediv_lt_iff_lt_mul hp).2 (by omega)
    omega

theorem signed_neg {sg : Bool} {k n : Nat} (h1 : sg = true) (h2 : 0 < k) (h3 : (2 : Int) ^ (k - 1) ≤ n) : signed sg k n = n - 2 ^ k := by
  unfold signed; rw [h1, decide_eq_true h2, decide_eq_true h3]; rfl
theorem signed_lt {sg : Bool} {k n : Nat} (h3 : (n : Int) < 2 ^ (k - 1)) : signed sg k n = n := by
  unfold signed; rw [decide_eq_false (show ¬ (2 : Int) ^ (k - 1) ≤ n by omega), Bool.and_false]
theorem signed_zero {sg : Bool} {k n : Nat} (h : ¬ 0 < k) : signed sg k n = n := by
  unfold signed; rw [decide_eq_false h, Bool.and_false, Bool.false_and]
theorem signed_no {sg : Bool} {k n : Nat} (h : sg = false) : signed sg k n = n := by
  unfold signed; rw [h, Bool.false_and, Bool.false_and]
theorem two_pow_lo (k : Nat) : (0 : Int) < 2 ^ k := Int.pow_pos (by decide)
theorem two_pow_hi (k : Nat) (h : k ≤ 49) : (2 : Int) ^ k ≤ 562949953421312 := by
  have h1 : ((2 ^ k : Nat) : Int) ≤ ((2 ^ 49 : Nat) : Int) := Int.ofNat_le.2 (Nat.pow_le_pow_right (by decide) h)
  have h2 : ((2 ^ k : Nat) : Int) = 2 ^ k := by simp
  rw [h2] at h1
  exact h1

theorem signed_top {sg : Bool} {k n : Nat} (hl : n < 2 ^ k) (h1 : sg = true) (h2 : 0 < k) (h3 : ((n : Int) / 2 ^ (k - 1) == 1) = true) : signed sg k n = n - 2 ^ k :=
  signed_neg h1 h2 ((top_bit n k h2 hl).1 (by simpa using h3))
theorem signed_low {sg : Bool} {k n : Nat} (hl : n < 2 ^ k) (h2 : 0 < k) (h3 : ((n : Int) / 2 ^ (k - 1) == 1) = false) : signed sg k n = n :=
  signed_lt (by
    have h := fun g => (top_bit n k h2 hl).2 g
    have h4 : ¬ (n : Int) / 2 ^ (k - 1) = 1 := by simpa using h3
    by_cases g : (2 : Int) ^ (k - 1) ≤ n
    · exact absurd (h g) h4
    · omega)

theorem orN_congr {x y : Nat → Bool} (size : Nat) (li : Bool) : ∀ k, (∀ j, j < k → x j = y j) → orN x size li k = orN y size li k
  | 0, _ => rfl
  | k + 1, h => by unfold orN; rw [orN_congr size li k fun j hj => h j (by omega), h k (by omega)]

end Go.Proofs.YtgkckkaegkdioaaDoor
/- impl's get: bits as a number. -/
namespace Go.Proofs.YtgkckkaegkdioaaDoor
open Go.RowKit Go.Deep

/-- Bit i from bit f on. -/
abbrev gbit (s : ByteArray) (f i : Nat) : Bool := decide (bit s (f + i) = 1)

set_option maxRecDepth 100000 in
set_option maxHeartbeats 1000000 in
theorem iget_any (n : Int) (s : ByteArray) (f size : Nat) (sg li : Bool) (w : World) (hm : Masks 0 w) (hs : size ≤ 49) (hf : f + size ≤ 8 * s.size) (hss : s.size ≤ 1048576) :
    Calls Tryd.prog 40 #[.agg #[.int .i64 size, .bool sg, .bool li], .agg #[.int .i64 n, .string s], .int .i64 f] w fun e w' => e = .returned (.int .i64 (signed sg size (orN (gbit s f) size li size))) ∧ Below w.heap.size w w' := by
  have Hm := hide hm
  obtain ⟨W0, hW0⟩ : ∃ W0, W0 = (w.alloc (.cells #[.int .i64 size, .bool sg, .bool li] 73)).alloc (.cells #[.int .i64 n, .string s] 30) := ⟨_, rfl⟩
  have hs0 : W0.heap.size = w.heap.size + 2 := by rw [hW0]; simp
  have hb0 : Below w.heap.size w W0 := by rw [hW0]; exact ((Below.refl w.heap.size w).alloc (Nat.le_refl _) _).alloc (by simp) _
  have F : ∀ w', Below W0.heap.size W0 w' → w'.cell? ⟨w.heap.size, 0, none⟩ = some (.int .i64 size) ∧ w'.cell? ⟨w.heap.size, 1, none⟩ = some (.bool sg) ∧ w'.cell? ⟨w.heap.size, 2, none⟩ = some (.bool li) := fun w' hb => by
    rw [hW0] at hb
    exact box3 w _ _ _ _ (Nat.lt_succ_self _) ((((Below.refl (w.heap.size + 1) (w.alloc (.cells #[.int .i64 size, .bool sg, .bool li] 73))).alloc (by simp) _)).trans (hb.mono (by simp)))
  have G : ∀ w', Below W0.heap.size W0 w' → w'.cell? ⟨w.heap.size + 1, 0, none⟩ = some (.int .i64 n) ∧ w'.cell? ⟨w.heap.size + 1, 1, none⟩ = some (.string s) := fun w' hb => by
    have h := box2 (w.alloc (.cells #[.int .i64 size, .bool sg, .bool li] 73)) (.int .i64 n) (.string s) 30 (w' := w') (by rw [hW0] at hb; simpa using hb)
    simp only [World.size_alloc] at h
    exact h
  obtain ⟨f0, f1, f2⟩ := F W0 (Below.refl _ _)
  have HF := hide F
  have HG := hide G
  have Hb0 := hide hb0
  have HW := hide hW0
  clear hm F G hb0
  go_enter Tryd.func40, Tryd.ntmps40
  go_wp2_with fail
  rw [← unhide HW]
  clear hW0 f0 f1 f2
  go_loopw [7, 8, 11] (fun vv jv iv wr => ∃ k : Nat, k ≤ size ∧ iv = .int .i64 k ∧ vv = .int .i64 (orN (gbit s f) size li k) ∧ Below W0.heap.size W0 wr) (fun _ _ iv _ => size - (intOf iv).toNat)
  case atStart => exact ⟨0, Nat.zero_le _, rfl, rfl, Below.refl _ _⟩
  case round =>
    obtain ⟨k, hk, rfl, rfl, hb⟩ := hrel
    have hlo := Nat.lt_of_lt_of_le (orN_lt (gbit s f) size li k hk) (Nat.pow_le_pow_right (by decide) hs)
    obtain ⟨f0, f1, f2⟩ := unhide HF wr hb
    obtain ⟨g0, g1⟩ := unhide HG wr hb
    have Hb := hide hb
    by_cases hlt : k < size
    · have hS := hide (orN_set (gbit s f) size li k)
      have hK := hide (orN_skip (gbit s f) size li k)
      have hP := pw_lt size li k hlt
      obtain ⟨P, hPe⟩ : ∃ P, P = pw size li k := ⟨_, rfl⟩
      have hpow := hide (power_any size sg li k)
      rw [← hPe] at hP hpow hS
      obtain ⟨v, hv⟩ : ∃ v, v = orN (gbit s f) size li k := ⟨_, rfl⟩
      rw [← hv] at hlo hS hK ⊢
      have HV := hide hv
      have hor := hide (i64_or v P hlo (by omega))
      have hp1 := two_pow_lo P
      have hp2 := two_pow_hi P (by omega)
      have hset := hide (isSet_any n s (f + k) wr ((unhide Hm).keep ((unhide Hb0).trans ((unhide Hb).mono (unhide Hb0).size))) (by omega) (by omega))
      clear hb hv hPe
      go_wp2_with fail
      refine (unhide hset).mono ?_
      rintro e w1 ⟨rfl, hb1⟩
      have hB1 := (unhide Hb).trans (hb1.mono (unhide Hb).size)
      obtain ⟨f0, f1, f2⟩ := unhide HF w1 hB1
      obtain ⟨g0, g1⟩ := unhide HG w1 hB1
      have HB1 := hide hB1
      clear hb1 hB1
      go_wp2_with (go_at_call 45; refine (unhide hpow w1 hlt hs).mono ?_; rintro e w2 ⟨rfl, hb2⟩; have HB2 := hide hb2; clear hb2)
      · have h1 : bit s (f + k) = 1 := by assumption
        have hx : gbit s f k = true := decide_eq_true h1
        clear h1
        go_roundw
        case rel => exact ⟨k + 1, by omega, by go_num, by rw [unhide hS hx, unhide hor], (unhide HB1).trans ((unhide HB2).mono (unhide HB1).size)⟩
        case measure => simp [intOf]; omega
      · have h1 : ¬ bit s (f + k) = 1 := by assumption
        have hx : gbit s f k = false := decide_eq_false h1
        clear h1
        go_roundw
        case rel => exact ⟨k + 1, by omega, by go_num, by rw [unhide hK hx], unhide HB1⟩
        case measure => simp [intOf]; omega
    · have hkn : k = size := by omega
      subst hkn
      have hlk := orN_lt (gbit s f) k li k (Nat.le_refl _)
      obtain ⟨v, hv⟩ : ∃ v, v = orN (gbit s f) k li k := ⟨_, rfl⟩
      rw [← hv] at hlo hlk ⊢
      have HV := hide hv
      have hlo' : v ≤ 562949953421312 := by have h49 : (2 : Nat) ^ 49 = 562949953421312 := by decide
                                            omega
      have htop := hide (fun h => top_bit v k h hlk)
      have hp1 := two_pow_lo (k - 1)
      have hp2 := two_pow_hi (k - 1) (by omega)
      have hq1 := two_pow_lo k
      have hq2 := two_pow_hi k hs
      have Hlk := hide hlk
      clear hv hlk hlo hb
      go_wp2_with fail
      all_goals
        go_ret
        refine ⟨?_, (unhide Hb0).trans ((unhide Hb).mono (unhide Hb0).size)⟩
        rw [← unhide HV]
        first
          | rw [signed_top (unhide Hlk) ‹_› ‹_› ‹_›]; rfl
          | rw [signed_low (unhide Hlk) ‹_› ‹_›]; rfl
          | rw [signed_zero ‹_›]; rfl
          | rw [signed_no (by simpa using ‹¬ sg = true›)]; rfl
          | rw [signed_no ‹_›]; rfl

end Go.Proofs.YtgkckkaegkdioaaDoor
/- spec.BitsOK and impl.BitsOK. -/
namespace Go.Proofs.YtgkckkaegkdioaaDoor
open Go.RowKit Go.Deep

set_option maxRecDepth 100000 in
set_option maxHeartbeats 1000000 in
theorem sBOK_any (n : Int) (s : ByteArray) (w : World) :
    Calls Tryd.prog 16 #[.agg #[.int .i64 n, .string s]] w fun e w' => e = .returned (.bool (okS n s)) ∧ Below w.heap.size w w' := by
  by_cases h1 : n < 0
  · have hr := hide (okS_false (n := n) (s := s) (by unfold okLen; omega))
    go_enter Tryd.func16, Tryd.ntmps16
    go_wp2_with fail
    go_ret
    exact ⟨by rw [unhide hr]; rfl, (Below.refl w.heap.size w).alloc (Nat.le_refl _) _⟩
  by_cases h2 : 32000 < n
  · have hr := hide (okS_false (n := n) (s := s) (by unfold okLen; omega))
    go_enter Tryd.func16, Tryd.ntmps16
    go_wp2_with fail
    go_ret
    exact ⟨by rw [unhide hr]; rfl, (Below.refl w.heap.size w).alloc (Nat.le_refl _) _⟩
  by_cases h3 : (s.size : Int) = (n + 7) / 8
  · obtain ⟨N, rfl⟩ := Int.eq_ofNat_of_zero_le (show 0 ≤ n by omega)
    have hbx := fun x : Obj => (Below.refl w.heap.size w).alloc (Nat.le_refl _) x
    have hr := hide (okS_true (n := N) (s := s) ⟨by omega, by omega, h3⟩)
    have hbd : Below (w.heap.size + 1) (w.alloc (.cells #[.int .i64 N, .string s] 30)) (w.alloc (.cells #[.int .i64 N, .string s] 30)).drew := (Below.refl _ _).drew
    have Hbd := hide hbd
    clear hbd
    have hfd := field1
    obtain ⟨S, hS⟩ : ∃ S, strB (bitsOf s N) = S := ⟨_, rfl⟩
    have HS := hide hS
    clear hS
    go_enter Tryd.func16, Tryd.ntmps16
    go_wp2_with fail
    go_region_with (first
      | (go_at_call 18; refine (row_any N s _ (by omega) (by omega)).mono ?_; rintro e w1 ⟨v, rfl, hv, hb1⟩; have hB1 := (unhide Hbd).trans (hb1.mono (by simp)); obtain ⟨g0, g1⟩ := box2 w _ _ _ hB1; have HV := hide (RowAt.of_own (xs := bitsOf s N) (by rw [bitsOf_length]; exact hv)); have HB1 := hide hB1; clear hv hb1 hB1)
      | (go_at_call 22; refine (pack_as _ (bitsOf s N) N S _ (unhide HV) (bits_01 s N) (bitsOf_length s N) (by omega) (unhide HS)).mono ?_; rintro e w2 ⟨rfl, hb2⟩; have hB2 := (unhide HB1).trans (hb2.mono (by have := (unhide HB1).size; simpa using this)); obtain ⟨g2, g3⟩ := box2 w _ _ _ hB2; have HB2 := hide hB2; clear hb2 hB2))
    all_goals
      go_wp2_with fail
      go_ret
      refine ⟨?_, (hbx _).trans ((unhide HB2).mono (by omega))⟩
      rw [unhide hr, Int.toNat_natCast, unhide HS]
      rfl
  · have hr := hide (okS_false (n := n) (s := s) (by unfold okLen; omega))
    go_enter Tryd.func16, Tryd.ntmps16
    go_wp2_with fail
    go_ret
    exact ⟨by rw [unhide hr]; rfl, (Below.refl w.heap.size w).alloc (Nat.le_refl _) _⟩

end Go.Proofs.YtgkckkaegkdioaaDoor
/- The draws' cursor: what it is, what becomes of it, its bytes, its picks, its sizes. -/
namespace Go.Proofs.YtgkckkaegkdioaaDoor
open Go.RowKit Go.Deep

/-- All blocks that were there are as they were, but block g. -/
structure Kept (g : Nat) (w w' : World) : Prop where
  os : w'.os = w.os
  tape : w'.tape = w.tape
  output : w'.output = w.output
  size : w.heap.size ≤ w'.heap.size
  block : ∀ k, k < w.heap.size → k ≠ g → w'.heap[k]? = w.heap[k]?

theorem Kept.refl (g : Nat) (w : World) : Kept g w w := ⟨rfl, rfl, rfl, Nat.le_refl _, fun _ _ _ => rfl⟩
theorem Kept.trans {g : Nat} {a b c : World} (h : Kept g a b) (k : Kept g b c) : Kept g a c :=
  ⟨k.os.trans h.os, k.tape.trans h.tape, k.output.trans h.output, Nat.le_trans h.size k.size, fun i hi hg => (k.block i (Nat.lt_of_lt_of_le hi h.size) hg).trans (h.block i hi hg)⟩
theorem Kept.below {g : Nat} {w w' : World} (h : Below w.heap.size w w') : Kept g w w' := ⟨h.os, h.tape, h.output, h.size, fun k hk _ => h.block k hk⟩
theorem Kept.alloc {g : Nat} {a w : World} (h : Kept g a w) (o : Obj) : Kept g a (w.alloc o) := h.trans (Kept.below ((Below.refl _ _).alloc (Nat.le_refl _) _))
theorem Kept.drew {g : Nat} {a w : World} (h : Kept g a w) : Kept g a w.drew := ⟨h.os, h.tape, h.output, h.size, h.block⟩
theorem Kept.set {g : Nat} {a w : World} (h : Kept g a w) (o : Nat) (v : Value) : Kept g a (w.setCell ⟨g, o, none⟩ v) :=
  h.trans ⟨rfl, rfl, rfl, by simp, fun k _ hg => Below.heap_setCell _ _ _ _ hg⟩
theorem Kept.grown {g : Nat} {a w w' : World} {r : Option Nat} (h : Kept g a w) (hg : w.grownBy w' r) (hR : ∀ R, r = some R → a.heap.size ≤ R) : Kept g a w' :=
  ⟨hg.os.trans h.os, hg.tape.trans h.tape, hg.output.trans h.output, Nat.le_trans h.size hg.size, fun k hk hn => (hg.block k (Nat.lt_of_lt_of_le hk h.size) (by intro e; have := hR k e.symm; omega)).trans (h.block k hk hn)⟩
theorem Kept.cell {g : Nat} {w w' : World} (h : Kept g w w') {b o : Nat} (hb : b < w.heap.size) (hg : b ≠ g) : w'.cell? ⟨b, o, none⟩ = w.cell? ⟨b, o, none⟩ := World.cell?_of_block (w := w) (h.block b hb hg)

/-- A code's bytes, L of them, in blocks below g. -/
def CodeAt (g L : Nat) (v : Value) (w : World) : Prop :=
  ∃ a cap, v = .slice a L cap ∧ L ≤ cap ∧ cap ≤ 2 ^ 47 ∧ L ≤ 1048576 ∧ ∀ i, i < L → ∃ b off x, a = some ⟨b, off, none⟩ ∧ b < g ∧ w.cell? ⟨b, off + i, none⟩ = some (.int .u8 x) ∧ 0 ≤ x ∧ x < 256
theorem CodeAt.low {g L : Nat} {v : Value} {w w' : World} (h : CodeAt g L v w) (hk : ∀ b, b < g → w'.heap[b]? = w.heap[b]?) : CodeAt g L v w' := by
  obtain ⟨a, cap, h1, h2, h3, h4, h5⟩ := h
  refine ⟨a, cap, h1, h2, h3, h4, fun i hi => ?_⟩
  obtain ⟨b, off, x, g1, g2, g4, g5⟩ := h5 i hi
  exact ⟨b, off, x, g1, g2, (World.cell?_of_block (w := w) (hk b g2)).trans g4, g5⟩

end Go.Proofs.YtgkckkaegkdioaaDoor
/- The makers of terms; an atom's name drawn; a cursor made. -/
namespace Go.Proofs.YtgkckkaegkdioaaDoor
open Go.RowKit Go.Deep

theorem mk_int (n : Int) (w : World) : Calls Tryd.prog 19 #[.int .i64 n] w fun e w' => e = .returned (.agg #[.int .i64 1, .int .i64 n, .string ⟨#[]⟩, .slice none 0 0]) ∧ Below w.heap.size w w' := by
  go_enter Tryd.func19, Tryd.ntmps19
  go_wp2_with fail
  exact bodyPost_ret (v := .agg #[.int .i64 1, .int .i64 n, .string ⟨#[]⟩, .slice none 0 0]) (by simp [results, Tryd.results19, go_sem]) rfl ⟨rfl, (Below.refl _ _).alloc (Nat.le_refl _) _⟩
theorem mk_bin (s : ByteArray) (w : World) : Calls Tryd.prog 21 #[.string s] w fun e w' => e = .returned (.agg #[.int .i64 9, .int .i64 0, .string s, .slice none 0 0]) ∧ Below w.heap.size w w' := by
  go_enter Tryd.func21, Tryd.ntmps21
  go_wp2_with fail
  exact bodyPost_ret (v := .agg #[.int .i64 9, .int .i64 0, .string s, .slice none 0 0]) (by simp [results, Tryd.results21, go_sem]) rfl ⟨rfl, (Below.refl _ _).alloc (Nat.le_refl _) _⟩
end Go.Proofs.YtgkckkaegkdioaaDoor
