/- Segments that are built: what comes of them, as a function. -/
import Derived.Test.YthikciimaegphaaGreatDoorQ24
import Derived.Test.YthikciimaegphaaGreatDoorQ13
import Derived.Test.YthikciimaegphaaGreatDoorQ3
import Derived.Test.YthikciimaegphaaGreatDoorQ2
import Derived.Deep.RegionWith
namespace Go.Proofs.YthikciimaegphaaGreatDoor
open Go.RowKit

def tK : (n : Nat) → Tm n → Int
  | 0, t => t.elim
  | _ + 1, (k, _, _, _) => k
def tN : (n : Nat) → Tm n → Int
  | 0, t => t.elim
  | _ + 1, (_, m, _, _) => m
def tS : (n : Nat) → Tm n → ByteArray
  | 0, t => t.elim
  | _ + 1, (_, _, s, _) => s
theorem TAt.head {S : Nat → Prop} {w : World} : ∀ {n : Nat} {t : Tm n} {k m : Int} {s : ByteArray} {c : Value}, TAt S w n t (.int .i64 k) (.int .i64 m) (.string s) c → k = tK n t ∧ m = tN n t ∧ s = tS n t
  | 0, t, _, _, _, _, _ => t.elim
  | n + 1, (k', m', s', ks), k, m, s, c, h => by
    obtain ⟨h1, h2, h3, _⟩ := h
    cases h1; cases h2; cases h3
    exact ⟨rfl, rfl, rfl⟩

/-- Whether a part is one, its V aside. -/
def sgOK {n : Nat} (g : SgT n) : Bool :=
  decide (1 ≤ g.2.2.1) && decide (g.2.2.1 ≤ 256) && decide (-1 ≤ g.2.1) && decide (g.2.1 ≤ 32000) &&
    (if g.1 = 1 then decide (0 ≤ g.2.1) && decide (g.2.1 * g.2.2.1 ≤ 49) else decide (g.1 = 2) && !g.2.2.2.1 && !g.2.2.2.2.1)
/-- How many bits a part of kind Bin takes of so many. -/
def sgW {n : Nat} (g : SgT n) (most : Int) : Int := if g.2.1 = -1 then most else g.2.1 * g.2.2.1
/-- The bits that a part makes of its V. -/
def segX {n : Nat} (g : SgT n) : Option (List Int) :=
  if g.1 = 1 then (if tK n g.2.2.2.2.2 = 1 then some (putBits (tN n g.2.2.2.2.2) (g.2.1 * g.2.2.1).toNat g.2.2.2.2.1) else none)
  else if tK n g.2.2.2.2.2 = 9 then
    (if sgW g (8 * (tS n g.2.2.2.2.2).size) ≤ 8 * (tS n g.2.2.2.2.2).size ∧ sgW g (8 * (tS n g.2.2.2.2.2).size) % g.2.2.1 = 0 then some (bitsOf (tS n g.2.2.2.2.2) (sgW g (8 * (tS n g.2.2.2.2.2).size)).toNat) else none)
  else none
/-- What comes of parts behind those that are there: a code, and the bits. -/
def buildX {n : Nat} : List Int → List (SgT n) → Int × List Int
  | acc, [] => (0, acc)
  | acc, g :: gs => match segX g with
    | none => (5, [])
    | some xs => if 32000 < acc.length + xs.length then (3, []) else buildX (acc ++ xs) gs
def allX {n : Nat} (gs : List (SgT n)) : Bool := decide (gs.length ≤ 200) && gs.all fun g => sgOK g && okB n g.2.2.2.2.2
/-- What BitBuild answers. -/
def builtX {n : Nat} (gs : List (SgT n)) : Int × List Int := if allX gs = true then buildX [] gs else (1, [])

section
variable {n : Nat} {g : SgT n} {gs : List (SgT n)} {acc xs : List Int}
theorem buildX_none (h : segX g = none) : buildX acc (g :: gs) = (5, []) := by simp [buildX, h]
theorem buildX_full (h : segX g = some xs) (hl : 32000 < acc.length + xs.length) : buildX acc (g :: gs) = (3, []) := by simp [buildX, h, hl]
theorem buildX_on (h : segX g = some xs) (hl : ¬ 32000 < acc.length + xs.length) : buildX acc (g :: gs) = buildX (acc ++ xs) gs := by simp [buildX, h, hl]
theorem segX_01 (h : segX g = some xs) : ∀ x ∈ xs, x = 0 ∨ x = 1 := by
  unfold segX at h
  split at h
  · split at h
    · cases h; exact putBits_01 _ _ _
    · cases h
  · split at h
    · split at h
      · cases h
        intro x hx
        obtain ⟨i, _, rfl⟩ := List.mem_map.1 hx
        exact bit_01 _ _
      · cases h
    · cases h
end

end Go.Proofs.YthikciimaegphaaGreatDoor
/- spec's l02SegOK; impl's fits, areSegs, haveTerms. -/
namespace Go.Proofs.YthikciimaegphaaGreatDoor
open Go.RowKit

theorem sgOK_eq {n : Nat} (g1 g2 g3 : Int) (g4 g5 : Bool) (t : Tm n) : sgOK ((g1, g2, g3, g4, g5, t) : SgT n) = (decide (1 ≤ g3) && decide (g3 ≤ 256) && decide (-1 ≤ g2) && decide (g2 ≤ 32000) && (if g1 = 1 then decide (0 ≤ g2) && decide (g2 * g3 ≤ 49) else decide (g1 = 2) && !g4 && !g5)) := rfl

theorem wide_bounds {g2 g3 : Int} (p1 : 1 ≤ g3) (p2 : g3 ≤ 256) (p3 : -1 ≤ g2) (p4 : g2 ≤ 32000) : -256 ≤ g2 * g3 ∧ g2 * g3 ≤ 8192000 := by
  constructor
  · rcases Int.le_total 0 g2 with h | h
    · have := Int.mul_nonneg h (by omega : 0 ≤ g3); omega
    · obtain rfl | rfl : g2 = 0 ∨ g2 = -1 := by omega
      · simp
      · omega
  · have a1 := Int.mul_le_mul_of_nonneg_right p4 (by omega : 0 ≤ g3)
    have a2 := Int.mul_le_mul_of_nonneg_left p2 (by omega : (0 : Int) ≤ 32000)
    omega
theorem wide_wrap {g2 g3 : Int} (p1 : 1 ≤ g3) (p2 : g3 ≤ 256) (p3 : -1 ≤ g2) (p4 : g2 ≤ 32000) : IntKind.i64.wrap (g2 * g3) = g2 * g3 := by
  have := wide_bounds p1 p2 p3 p4
  rw [IntKind.wrap_i64]; omega

set_option maxRecDepth 40000 in
set_option maxHeartbeats 4000000 in
theorem sSegOK_any {n : Nat} (g1 g2 g3 : Int) (g4 g5 : Bool) (t : Tm n) (c0 c1 c2 c3 : Value) (w : World) (hs : ∃ k m s ua ul uc, c0 = .int .i64 k ∧ c1 = .int .i64 m ∧ c2 = .string s ∧ c3 = .slice ua ul uc) :
    Calls Tryz.prog 15 #[.agg #[.int .i64 g1, .int .i64 g2, .int .i64 g3, .bool g4, .bool g5, c0, c1, c2, c3]] w fun e w' => e = .returned (.bool (sgOK ((g1, g2, g3, g4, g5, t) : SgT n))) ∧ Below w.heap.size w w' := by
  obtain ⟨k, m, s, ua, ul, uc, rfl, rfl, rfl, rfl⟩ := hs
  rw [sgOK_eq]
  have hB := hide ((Below.refl w.heap.size w).alloc (Nat.le_refl _) (.cells #[.int .i64 g1, .int .i64 g2, .int .i64 g3, .bool g4, .bool g5, .int .i64 k, .int .i64 m, .string s, .slice ua ul uc] 40))
  by_cases hok : 1 ≤ g3 ∧ g3 ≤ 256 ∧ -1 ≤ g2 ∧ g2 ≤ 32000
  · obtain ⟨p1, p2, p3, p4⟩ := hok
    have b1 : ¬ g3 < 1 := by omega
    have b2 : ¬ 256 < g3 := by omega
    have b3 : ¬ g2 < -1 := by omega
    have b4 : ¬ 32000 < g2 := by omega
    have w1 := wide_wrap p1 p2 p3 p4
    by_cases ht : g1 = 1
    · subst ht
      by_cases hz : 0 ≤ g2
      · have hans : (decide (1 ≤ g3) && decide (g3 ≤ 256) && decide (-1 ≤ g2) && decide (g2 ≤ 32000) && (if (1 : Int) = 1 then decide (0 ≤ g2) && decide (g2 * g3 ≤ 49) else decide ((1 : Int) = 2) && !g4 && !g5)) = decide (g2 * g3 ≤ 49) := by
          rw [decide_eq_true p1, decide_eq_true p2, decide_eq_true p3, decide_eq_true p4, if_pos rfl, decide_eq_true hz]; rfl
        rw [hans]
        clear hans
        go_enter Tryz.func15, Tryz.ntmps15
        go_wp2_with fail
        go_ret
        exact ⟨ret_bool rfl, unhide hB⟩
      · have hz' : ¬ g2 ≥ 0 := hz
        have hans : (decide (1 ≤ g3) && decide (g3 ≤ 256) && decide (-1 ≤ g2) && decide (g2 ≤ 32000) && (if (1 : Int) = 1 then decide (0 ≤ g2) && decide (g2 * g3 ≤ 49) else decide ((1 : Int) = 2) && !g4 && !g5)) = false := by
          rw [if_pos rfl, decide_eq_false hz]; simp
        rw [hans]
        clear hans
        go_enter Tryz.func15, Tryz.ntmps15
        go_wp2_with fail
        go_ret
        exact ⟨ret_bool rfl, unhide hB⟩
    · have ht' : (g1 == 1) = false := by simpa using ht
      have hans : (decide (1 ≤ g3) && decide (g3 ≤ 256) && decide (-1 ≤ g2) && decide (g2 ≤ 32000) && (if g1 = 1 then decide (0 ≤ g2) && decide (g2 * g3 ≤ 49) else decide (g1 = 2) && !g4 && !g5)) = (decide (g1 = 2) && !g4 && !g5) := by
        rw [decide_eq_true p1, decide_eq_true p2, decide_eq_true p3, decide_eq_true p4, if_neg ht]; rfl
      rw [hans]
      clear hans
      by_cases h2' : g1 = 2
      · subst h2'
        cases g4 <;> cases g5
        all_goals
          go_enter Tryz.func15, Tryz.ntmps15
          go_wp2_with fail
          go_ret
          exact ⟨ret_bool rfl, unhide hB⟩
      · have h2'' : (g1 == 2) = false := by simpa using h2'
        rw [decide_eq_false h2']
        go_enter Tryz.func15, Tryz.ntmps15
        go_wp2_with fail
        go_ret
        exact ⟨ret_bool rfl, unhide hB⟩
  · have hans : (decide (1 ≤ g3) && decide (g3 ≤ 256) && decide (-1 ≤ g2) && decide (g2 ≤ 32000) && (if g1 = 1 then decide (0 ≤ g2) && decide (g2 * g3 ≤ 49) else decide (g1 = 2) && !g4 && !g5)) = false := by
      cases h : (decide (1 ≤ g3) && decide (g3 ≤ 256) && decide (-1 ≤ g2) && decide (g2 ≤ 32000)) with
      | false => rfl
      | true =>
        simp only [Bool.and_eq_true, decide_eq_true_eq] at h
        exact absurd ⟨h.1.1.1, h.1.1.2, h.1.2, h.2⟩ hok
    rw [hans]
    clear hans
    by_cases p1 : g3 < 1
    · go_enter Tryz.func15, Tryz.ntmps15
      go_wp2_with fail
      go_ret
      exact ⟨ret_bool rfl, unhide hB⟩
    by_cases p2 : 256 < g3
    · go_enter Tryz.func15, Tryz.ntmps15
      go_wp2_with fail
      go_ret
      exact ⟨ret_bool rfl, unhide hB⟩
    by_cases p3 : g2 < -1
    · go_enter Tryz.func15, Tryz.ntmps15
      go_wp2_with fail
      go_ret
      exact ⟨ret_bool rfl, unhide hB⟩
    have p4 : 32000 < g2 := by
      rcases (show 32000 < g2 ∨ g2 ≤ 32000 by omega) with h | h
      · exact h
      · exact absurd ⟨by omega, by omega, by omega, h⟩ hok
    go_enter Tryz.func15, Tryz.ntmps15
    go_wp2_with fail
    go_ret
    exact ⟨ret_bool rfl, unhide hB⟩

end Go.Proofs.YthikciimaegphaaGreatDoor
/- impl's isOpen, width, asField, fits of a segment. -/
namespace Go.Proofs.YthikciimaegphaaGreatDoor
open Go.RowKit Go.Deep

section
variable (g1 g2 g3 : Int) (g4 g5 : Bool) (k m : Int) (s : ByteArray) (ua : Option Addr) (ul uc : Nat) (w : World)
/-- A segment's value. -/
abbrev sgV : Value := .agg #[.int .i64 g1, .int .i64 g2, .int .i64 g3, .bool g4, .bool g5, .int .i64 k, .int .i64 m, .string s, .slice ua ul uc]
abbrev sgO : Obj := .cells #[.int .i64 g1, .int .i64 g2, .int .i64 g3, .bool g4, .bool g5, .int .i64 k, .int .i64 m, .string s, .slice ua ul uc] 40

theorem box9 {w' : World} {B : Nat} (hB : w.heap.size < B) (h : Below B (w.alloc (sgO g1 g2 g3 g4 g5 k m s ua ul uc)) w') :
    w'.cell? ⟨w.heap.size, 0, none⟩ = some (.int .i64 g1) ∧ w'.cell? ⟨w.heap.size, 1, none⟩ = some (.int .i64 g2) ∧ w'.cell? ⟨w.heap.size, 2, none⟩ = some (.int .i64 g3) ∧ w'.cell? ⟨w.heap.size, 3, none⟩ = some (.bool g4) ∧ w'.cell? ⟨w.heap.size, 4, none⟩ = some (.bool g5) ∧
    w'.cell? ⟨w.heap.size, 5, none⟩ = some (.int .i64 k) ∧ w'.cell? ⟨w.heap.size, 6, none⟩ = some (.int .i64 m) ∧ w'.cell? ⟨w.heap.size, 7, none⟩ = some (.string s) ∧ w'.cell? ⟨w.heap.size, 8, none⟩ = some (.slice ua ul uc) := by
  have hh := (h.block w.heap.size hB).trans (heap_new _ _)
  exact ⟨cell_of_heap hh 0, cell_of_heap hh 1, cell_of_heap hh 2, cell_of_heap hh 3, cell_of_heap hh 4, cell_of_heap hh 5, cell_of_heap hh 6, cell_of_heap hh 7, cell_of_heap hh 8⟩

set_option maxRecDepth 40000 in
theorem isOpen_any : Calls Tryz.prog 50 #[sgV g1 g2 g3 g4 g5 k m s ua ul uc] w fun e w' => e = .returned (.bool (g2 == -1)) ∧ Below w.heap.size w w' := by
  unfold sgV
  go_enter Tryz.func50, Tryz.ntmps50
  go_wp2_with fail
  go_ret
  exact ⟨rfl, (Below.refl _ _).alloc (Nat.le_refl _) _⟩

set_option maxRecDepth 40000 in
theorem width_any (p1 : 1 ≤ g3) (p2 : g3 ≤ 256) (p3 : -1 ≤ g2) (p4 : g2 ≤ 32000) : Calls Tryz.prog 51 #[sgV g1 g2 g3 g4 g5 k m s ua ul uc] w fun e w' => e = .returned (.int .i64 (g2 * g3)) ∧ Below w.heap.size w w' := by
  have w1 := wide_wrap p1 p2 p3 p4
  unfold sgV
  go_enter Tryz.func51, Tryz.ntmps51
  go_wp2_with fail
  go_ret
  exact ⟨rfl, (Below.refl _ _).alloc (Nat.le_refl _) _⟩

set_option maxRecDepth 40000 in
set_option maxHeartbeats 1000000 in
theorem asField_any (p1 : 1 ≤ g3) (p2 : g3 ≤ 256) (p3 : -1 ≤ g2) (p4 : g2 ≤ 32000) : Calls Tryz.prog 39 #[sgV g1 g2 g3 g4 g5 k m s ua ul uc] w fun e w' => e = .returned (.agg #[.int .i64 (g2 * g3), .bool g4, .bool g5]) ∧ Below w.heap.size w w' := by
  have HW := hide (fun w => width_any g1 g2 g3 g4 g5 k m s ua ul uc w p1 p2 p3 p4)
  clear p1 p2 p3 p4
  unfold sgV
  go_enter Tryz.func39, Tryz.ntmps39
  go_wp2_with fail
  obtain ⟨n0, n1, l0, l1⟩ := two_news w (sgO g1 g2 g3 g4 g5 k m s ua ul uc) (.cells #[.int .i64 0, .bool false, .bool false] 74)
  have hB := below_two w (sgO g1 g2 g3 g4 g5 k m s ua ul uc) (.cells #[.int .i64 0, .bool false, .bool false] 74)
  have HN := hide (And.intro n0 (And.intro n1 (And.intro l0 (And.intro l1 hB))))
  clear n0 n1 l0 l1 hB
  go_region_with (go_at_call 51; refine ((unhide HW) _).mono ?_; rintro e w1 ⟨rfl, hb1⟩; obtain ⟨n0, n1, l0, l1, hB⟩ := unhide HN; have q0 := (hb1.block w.heap.size l0).trans n0; have q1 := (hb1.block (w.heap.size + 1) l1).trans n1; have x0 := cell_of_heap q0 0; have x3 := cell_of_heap q0 3; have x4 := cell_of_heap q0 4; have y0 := cell_of_heap q1 0; have y1 := cell_of_heap q1 1; have y2 := cell_of_heap q1 2; have f0 := frozen_of_heap q1 0; have f1 := frozen_of_heap q1 1; have f2 := frozen_of_heap q1 2; have H1 := hide (And.intro q1 (hB.drew.trans (hb1.mono (Nat.le_of_lt l0)))); clear hb1 n0 n1 l0 l1 hB q0 q1)
  all_goals
    go_wp2_with fail
    exact bodyPost_ret (v := .agg #[.int .i64 (g2 * g3), .bool g4, .bool g5]) (by simp [results, Tryz.results39, go_sem, y0, y1, y2]) rfl ⟨rfl, (((unhide H1).2.setCell (p := ⟨w.heap.size + 1, 0, none⟩) (Nat.le_succ _) _).setCell (p := ⟨w.heap.size + 1, 1, none⟩) (Nat.le_succ _) _).setCell (p := ⟨w.heap.size + 1, 2, none⟩) (Nat.le_succ _) _⟩
end

end Go.Proofs.YthikciimaegphaaGreatDoor
