/- impl's isSet and bytesFor. -/
import Derived.Test.YtcgbonlffcpofaaGreatDoorQ8
import Derived.BigQuiet
import Derived.Test.YtcgbonlffcpofaaGreatDoorQ4
import Derived.Deep.RegionWith
namespace Go.Proofs.YtcgbonlffcpofaaGreatDoor
open Go.RowKit Go.Deep

set_option maxRecDepth 100000 in
theorem field1 (a b : Value) (w : World) : (Instr.field 27 (.agg #[a, b]) 1).run Tryz.prog w = .ok b w := by rfl
set_option maxRecDepth 100000 in
theorem bf_any (n : Int) (w : World) (h0 : 0 ≤ n) (hn : n ≤ 10000000000) : Calls Tryz.prog 36 #[.int .i64 n] w fun e w' => e = .returned (.int .i64 ((n + 7) / 8)) ∧ Below w.heap.size w w' := by
  go_enter Tryz.func36, Tryz.ntmps36
  go_wp2_with fail
  go_ret
  exact ⟨rfl, Below.refl _ _⟩

set_option maxRecDepth 100000 in
theorem isSet_any (n : Int) (s : ByteArray) (i : Nat) (w : World) (hm : Masks 0 w) (hi : i / 8 < s.size) (hi2 : i ≤ 10000000000) :
    Calls Tryz.prog 38 #[.agg #[.int .i64 n, .string s], .int .i64 i] w fun e w' => e = .returned (.bool (decide (bit s i = 1))) ∧ Below w.heap.size w w' := by
  have hmk := hm.2 (i % 8) (Nat.mod_lt _ (by decide))
  have hlt := hm.1
  have H := hide (set_walk s i hi)
  clear hm
  have hA : 0 ≤ (i : Int) / 8 := by omega
  have hB : (i : Int) / 8 < s.size := by omega
  have hC : ((i : Int) / 8).toNat = i / 8 := by omega
  have hW : IntKind.i64.wrap ((i : Int) / 8) = (i : Int) / 8 := by simp [IntKind.wrap, IntKind.bits, IntKind.signed]; omega
  go_enter Tryz.func38, Tryz.ntmps38
  go_wp2_with fail
  go_region
  go_wp2_with fail
  go_ret
  refine ⟨?_, (((Below.refl w.heap.size w).alloc (Nat.le_refl _) _).drew)⟩
  rw [← unhide H]
  rfl

end Go.Proofs.YtcgbonlffcpofaaGreatDoor
/- impl's rows of bits that are being made: newRow, set, bits; a field's power and fits. -/
namespace Go.Proofs.YtcgbonlffcpofaaGreatDoor
open Go.RowKit Go.Deep

/-- The two cells of a boxed struct are not frozen, later too. -/
theorem box2f (w : World) (a b : Value) (e : TypeId) {w' : World} (h : Below (w.heap.size + 1) (w.alloc (.cells #[a, b] e)) w') (o : Nat) : w'.frozen? ⟨w.heap.size, o, none⟩ = false := by
  rw [World.frozen?_of_block (w := w.alloc (.cells #[a, b] e)) (h.block w.heap.size (by omega))]
  simp [go_sem]

set_option maxRecDepth 100000 in
theorem ffits_any (n : Int) (sg li : Bool) (w : World) :
    Calls Tryz.prog 48 #[.agg #[.int .i64 n, .bool sg, .bool li]] w fun e w' => e = .returned (.bool (decide (0 ≤ n) && decide (n ≤ 49))) ∧ Below w.heap.size w w' := by
  cases h : decide (0 ≤ n)
  · go_enter Tryz.func48, Tryz.ntmps48
    go_wp2_with fail
    go_ret
    exact ⟨rfl, (Below.refl w.heap.size w).alloc (Nat.le_refl _) _⟩
  · go_enter Tryz.func48, Tryz.ntmps48
    go_wp2_with fail
    go_ret
    exact ⟨rfl, (Below.refl w.heap.size w).alloc (Nat.le_refl _) _⟩

set_option maxRecDepth 100000 in
theorem power_any (size : Nat) (sg li : Bool) (i : Nat) (w : World) (hi : i < size) (hs : size ≤ 49) :
    Calls Tryz.prog 51 #[.agg #[.int .i64 size, .bool sg, .bool li], .int .i64 i] w fun e w' => e = .returned (.int .i64 (pw size li i)) ∧ Below w.heap.size w w' := by
  cases li
  · have hr := hide (show ((pw size false i : Nat) : Int) = (size : Int) - 1 - i by unfold pw; simp only; omega)
    go_enter Tryz.func51, Tryz.ntmps51
    go_wp2_with fail
    go_ret
    exact ⟨by rw [unhide hr]; rfl, (Below.refl w.heap.size w).alloc (Nat.le_refl _) _⟩
  · have hr := hide (show ((pw size true i : Nat) : Int) = min ((i : Int) - (i : Int) % 8 + 8) size - 1 - (i : Int) % 8 by unfold pw; simp only; omega)
    go_enter Tryz.func51, Tryz.ntmps51
    go_wp2_with fail
    all_goals go_ret
    all_goals exact ⟨ret_back (by have := unhide hr; omega), (Below.refl w.heap.size w).alloc (Nat.le_refl _) _⟩

set_option maxRecDepth 100000 in
theorem newRow_any (n : Nat) (w : World) (hn : n ≤ 100000) :
    Calls Tryz.prog 50 #[.int .i64 n] w fun e w' => ∃ g, e = .returned (.agg #[.int .i64 n, .slice (some ⟨g, 0, none⟩) ((n + 7) / 8) ((n + 7) / 8)]) ∧
      w'.ownsRow w.heap.size 5 1 (.slice (some ⟨g, 0, none⟩) ((n + 7) / 8) ((n + 7) / 8)) ((n + 7) / 8) (u8s (List.replicate ((n + 7) / 8) 0)) ∧ Below w.heap.size w w' := by
  have hmk := fun w : World => run_make_row' (P := Tryz.prog) 22 5 (.int .u8 0) 1 Tryz.underlying22 info_u8 rfl .i64 .i64 ((n + 7) / 8) (by omega) (by omega) w
  have e8 : (((n + 7) / 8 : Nat) : Int) = ((n : Int) + 7) / 8 := by omega
  rw [e8] at hmk
  clear e8
  have hb2 := two_new w (.int .i64 0) (.slice none 0 0) 48
  have hbx := (Below.refl w.heap.size w).alloc (Nat.le_refl _) (.cells #[.int .i64 0, .slice none 0 0] 48)
  have Hbx := hide hbx
  clear hbx
  go_enter Tryz.func50, Tryz.ntmps50
  go_wp2_with fail
  refine (bf_any n _ (by omega) (by omega)).mono ?_
  rintro e w1 ⟨rfl, hb1⟩
  have hB1 := hb1.mono (show w.heap.size + 1 ≤ _ by simp)
  have hs1 : w.heap.size < w1.heap.size := by have := hB1.size; simp at this; omega
  have g0 : ∀ o, (w1.alloc o).cell? ⟨w.heap.size, 0, none⟩ = some (.int .i64 0) := fun o => (World.cell?_alloc_past _ _ _ hs1).trans (box2 w _ _ _ hB1).1
  have g1 : ∀ o, (w1.alloc o).cell? ⟨w.heap.size, 1, none⟩ = some (.slice none 0 0) := fun o => (World.cell?_alloc_past _ _ _ hs1).trans (box2 w _ _ _ hB1).2
  have g2 : ∀ o, (w1.alloc o).frozen? ⟨w.heap.size, 0, none⟩ = false := fun o => (World.frozen?_alloc_past _ _ _ hs1).trans (box2f w _ _ _ hB1 0)
  have g3 : ∀ o, (w1.alloc o).frozen? ⟨w.heap.size, 1, none⟩ = false := fun o => (World.frozen?_alloc_past _ _ _ hs1).trans (box2f w _ _ _ hB1 1)
  obtain ⟨k0, k1⟩ := box2 w _ _ _ hB1
  have k2 := box2f w _ _ _ hB1 0
  have k3 := box2f w _ _ _ hB1 1
  have HB1 := hide hB1
  clear hb1 hB1 hb2
  go_wp2_with fail
  obtain ⟨W2, hW2⟩ : ∃ W2, W2 = (w1.setCell ⟨w.heap.size, 0, none⟩ (.int .i64 n)).setCell ⟨w.heap.size, 1, none⟩ (.slice (some ⟨w1.heap.size, 0, none⟩) ((n + 7) / 8) ((n + 7) / 8)) := ⟨_, rfl⟩
  have hs2 : W2.heap.size = w1.heap.size := by rw [hW2]; simp
  have hb2 : Below w.heap.size w W2 := by rw [hW2]; exact ((((unhide Hbx).trans ((unhide HB1).mono (by omega))).setCell (Nat.le_refl _) _).setCell (Nat.le_refl _) _)
  have c0 : W2.cell? ⟨w.heap.size, 0, none⟩ = some (.int .i64 n) := by rw [hW2]; simp [go_sem, k0]
  have c1 : W2.cell? ⟨w.heap.size, 1, none⟩ = some (.slice (some ⟨w1.heap.size, 0, none⟩) ((n + 7) / 8) ((n + 7) / 8)) := by rw [hW2]; simp [go_sem, k1]
  rw [← hW2]
  have d0 := (World.cell?_alloc_past (w := W2) (.cells (madeCells #[.int .u8 0] ((n + 7) / 8)) 5) _ _ (show w.heap.size < W2.heap.size by omega)).trans c0
  have d1 := (World.cell?_alloc_past (w := W2) (.cells (madeCells #[.int .u8 0] ((n + 7) / 8)) 5) _ _ (show w.heap.size < W2.heap.size by omega)).trans c1
  refine bodyPost_ret (v := .agg #[.int .i64 n, .slice (some ⟨w1.heap.size, 0, none⟩) ((n + 7) / 8) ((n + 7) / 8)]) (by simp [results, Tryz.results50, go_sem, d0, d1]) rfl ⟨_, rfl, ?_, hb2.alloc (by omega) _⟩
  have h := World.ownsRow_lit (base := w.heap.size) (e := 5) (size := 1) W2 (madeCells #[.int .u8 0] ((n + 7) / 8)) ((n + 7) / 8) (by omega) (by unfold maxLen; omega) (by simp [size_madeCells])
  have e : u8s (List.replicate ((n + 7) / 8) 0) = (madeCells #[Value.int .u8 0] ((n + 7) / 8)).toList := by
    apply List.ext_getElem?
    intro i
    by_cases h : i < (n + 7) / 8 <;> simp [u8s, madeCells, h, Nat.mod_one]
  rw [e, ← hs2]
  exact h

set_option maxRecDepth 100000 in
theorem set_any (R g m c i : Nat) (ys : List Int) (w : World) (hm : Masks 0 w) (h1 : w.cell? ⟨R, 1, none⟩ = some (.slice (some ⟨g, 0, none⟩) m c))
    (hy : w.cell? ⟨g, i / 8, none⟩ = some (.int .u8 (ys.getD (i / 8) 0))) (hf : w.frozen? ⟨g, i / 8, none⟩ = false) (hi : i / 8 < m) (hi2 : i ≤ 10000000000) :
    Calls Tryz.prog 52 #[.pointer (some ⟨R, 0, none⟩), .int .i64 i] w fun e w' => e = .returned (.tuple #[]) ∧ w' = (w.setCell ⟨g, i / 8, none⟩ (.int .u8 (bits .or .u8 (ys.getD (i / 8) 0) (2 ^ (7 - i % 8))))).drew := by
  have hmk := hm.2 (i % 8) (Nat.mod_lt _ (by decide))
  obtain ⟨y, hye⟩ : ∃ y, y = ys.getD (i / 8) 0 := ⟨_, rfl⟩
  rw [← hye] at hy ⊢
  clear hm hye
  go_enter Tryz.func52, Tryz.ntmps52
  go_wp2_with fail
  go_region
  go_end0
  exact ⟨rfl, rfl⟩

set_option maxRecDepth 100000 in
theorem rbits_any (R g m c : Nat) (n : Int) (ys : List Int) (w : World) (h0 : w.cell? ⟨R, 0, none⟩ = some (.int .i64 n)) (h1 : w.cell? ⟨R, 1, none⟩ = some (.slice (some ⟨g, 0, none⟩) m c)) (hR : R < w.heap.size)
    (hl : ys.length = m) (hy : ∀ i, i < m → w.cell? ⟨g, i, none⟩ = some (.int .u8 (ys.getD i 0))) (hg : g < w.heap.size) :
    Calls Tryz.prog 20 #[.pointer (some ⟨R, 0, none⟩)] w fun e w' => e = .returned (.agg #[.int .i64 n, .string (strOfNums ys)]) ∧ Below w.heap.size w w' := by
  have hcv := run_convert_bytes_arg (P := Tryz.prog) ((w.alloc (.cells #[.int .i64 0, .string ⟨#[]⟩] 27)).drew) 22 5 Tryz.underlying22 Tryz.underlying5 g 0 m c ys hl (fun i hi => by
    rw [Nat.zero_add]
    exact (World.cell?_alloc_past (w := w) (.cells #[.int .i64 0, .string ⟨#[]⟩] 27) _ _ hg).trans (hy i hi)) 9 Tryz.underlying9
  obtain ⟨S, hS⟩ : ∃ S, S = strOfNums ys := ⟨_, rfl⟩
  rw [← hS] at hcv ⊢
  clear hS hy
  go_enter Tryz.func20, Tryz.ntmps20
  go_wp2_with fail
  go_region
  go_wp2_with fail
  have hc0 : ((w.alloc (.cells #[.int .i64 n, .string S] 27)).drew).cell? ⟨w.heap.size, 0, none⟩ = some (.int .i64 n) := (two_new w _ _ _).1
  have hc1 : ((w.alloc (.cells #[.int .i64 n, .string S] 27)).drew).cell? ⟨w.heap.size, 1, none⟩ = some (.string S) := (two_new w _ _ _).2
  exact bodyPost_ret (v := .agg #[.int .i64 n, .string S]) (by simp [results, Tryz.results20, go_sem, hc0, hc1]) rfl ⟨rfl, ((Below.refl w.heap.size w).alloc (Nat.le_refl _) _).drew⟩

end Go.Proofs.YtcgbonlffcpofaaGreatDoor
/- Bits that are cut out. -/
namespace Go.Proofs.YtcgbonlffcpofaaGreatDoor
open Go.RowKit Go.Deep

/-- Some bits of a row. -/
def cutBits (s : ByteArray) (f k : Nat) : List Int := (List.range k).map fun i => bit s (f + i)
theorem cutBits_length (s : ByteArray) (f k : Nat) : (cutBits s f k).length = k := by simp [cutBits]
theorem cutBits_getD (s : ByteArray) (f k i : Nat) (h : i < k) : (cutBits s f k).getD i 0 = bit s (f + i) := by
  rw [List.getD_eq_getElem?_getD]; simp [cutBits, h]
theorem okS_len {n : Int} {s : ByteArray} (h : okS n s = true) : okLen n s := by
  by_cases g : okLen n s
  · exact g
  · rw [okS_false g] at h; cases h

/-- A slice of a row of bytes. -/
theorem RowAt.slice {w : World} {a : Option Addr} {len cap : Nat} {xs ys : List Int} (h : RowAt w (.slice a len cap) xs) (f k : Nat) (hfk : f + k ≤ xs.length) (hy : ys.length = k) (he : ∀ i, i < k → ys.getD i 0 = xs.getD (f + i) 0) :
    ∀ a', (0 < k → ∀ b off, a = some ⟨b, off, none⟩ → a' = some ⟨b, off + f, none⟩) → RowAt w (.slice a' k (cap - f)) ys := by
  intro a' ha
  obtain ⟨a0, cap0, h1, h2, h3⟩ := h
  simp only [Value.slice.injEq] at h1
  obtain ⟨rfl, rfl, rfl⟩ := h1
  refine ⟨a', _, by rw [hy], by omega, fun i hi => ?_⟩
  obtain ⟨b, off, g1, g2, g3⟩ := h3 (f + i) (by omega)
  refine ⟨b, off + f, ha (by omega) b off g1, g2, ?_⟩
  rw [he i (by omega), Nat.add_assoc]; exact g3

end Go.Proofs.YtcgbonlffcpofaaGreatDoor
/- Segments that are built: what comes of them, as a function. -/
namespace Go.Proofs.YtcgbonlffcpofaaGreatDoor
open Go.RowKit

def tK : (n : Nat) → Tm n → Int
  | 0, t => t.elim
  | _ + 1, (k, _, _, _) => k
def tN : (n : Nat) → Tm n → Int
  | 0, t => t.elim
  | _ + 1, (_, m, _, _) => m
def tS : (n : Nat) → Tm n → ByteArray
  | 0, t => t.elim
  | _ + 1, (_, _, s, _) => s
theorem TAt.head {S : Nat → Prop} {w : World} : ∀ {n : Nat} {t : Tm n} {k m : Int} {s : ByteArray} {c : Value}, TAt S w n t (.int .i64 k) (.int .i64 m) (.string s) c → k = tK n t ∧ m = tN n t ∧ s = tS n t
  | 0, t, _, _, _, _, _ => t.elim
  | n + 1, (k', m', s', ks), k, m, s, c, h => by
    obtain ⟨h1, h2, h3, _⟩ := h
    cases h1; cases h2; cases h3
    exact ⟨rfl, rfl, rfl⟩

/-- Whether a part is one, its V aside. -/
def sgOK {n : Nat} (g : SgT n) : Bool :=
  decide (1 ≤ g.2.2.1) && decide (g.2.2.1 ≤ 256) && decide (-1 ≤ g.2.1) && decide (g.2.1 ≤ 32000) &&
    (if g.1 = 1 then decide (0 ≤ g.2.1) && decide (g.2.1 * g.2.2.1 ≤ 49) else decide (g.1 = 2) && !g.2.2.2.1 && !g.2.2.2.2.1)
/-- How many bits a part of kind Bin takes of so many. -/
def sgW {n : Nat} (g : SgT n) (most : Int) : Int := if g.2.1 = -1 then most else g.2.1 * g.2.2.1
/-- The bits that a part makes of its V. -/
def segX {n : Nat} (g : SgT n) : Option (List Int) :=
  if g.1 = 1 then (if tK n g.2.2.2.2.2 = 1 then some (putBits (tN n g.2.2.2.2.2) (g.2.1 * g.2.2.1).toNat g.2.2.2.2.1) else none)
  else if tK n g.2.2.2.2.2 = 9 then
    (if sgW g (8 * (tS n g.2.2.2.2.2).size) ≤ 8 * (tS n g.2.2.2.2.2).size ∧ sgW g (8 * (tS n g.2.2.2.2.2).size) % g.2.2.1 = 0 then some (bitsOf (tS n g.2.2.2.2.2) (sgW g (8 * (tS n g.2.2.2.2.2).size)).toNat) else none)
  else none
/-- What comes of parts behind those that are there: a code, and the bits. -/
def buildX {n : Nat} : List Int → List (SgT n) → Int × List Int
  | acc, [] => (0, acc)
  | acc, g :: gs => match segX g with
    | none => (5, [])
    | some xs => if 32000 < acc.length + xs.length then (3, []) else buildX (acc ++ xs) gs
def allX {n : Nat} (gs : List (SgT n)) : Bool := decide (gs.length ≤ 200) && gs.all fun g => sgOK g && okB n g.2.2.2.2.2
/-- What BitBuild answers. -/
def builtX {n : Nat} (gs : List (SgT n)) : Int × List Int := if allX gs = true then buildX [] gs else (1, [])

section
variable {n : Nat} {g : SgT n} {gs : List (SgT n)} {acc xs : List Int}
theorem buildX_none (h : segX g = none) : buildX acc (g :: gs) = (5, []) := by simp [buildX, h]
theorem buildX_full (h : segX g = some xs) (hl : 32000 < acc.length + xs.length) : buildX acc (g :: gs) = (3, []) := by simp [buildX, h, hl]
theorem buildX_on (h : segX g = some xs) (hl : ¬ 32000 < acc.length + xs.length) : buildX acc (g :: gs) = buildX (acc ++ xs) gs := by simp [buildX, h, hl]
theorem segX_01 (h : segX g = some xs) : ∀ x ∈ xs, x = 0 ∨ x = 1 := by
  unfold segX at h
  split at h
  · split at h
    · cases h; exact putBits_01 _ _ _
    · cases h
  · split at h
    · split at h
      · cases h
        intro x hx
        obtain ⟨i, _, rfl⟩ := List.mem_map.1 hx
        exact bit_01 _ _
      · cases h
    · cases h
end

end Go.Proofs.YtcgbonlffcpofaaGreatDoor
/- spec's l02SegOK; impl's fits, areSegs, haveTerms. -/
namespace Go.Proofs.YtcgbonlffcpofaaGreatDoor
open Go.RowKit

theorem sgOK_eq {n : Nat} (g1 g2 g3 : Int) (g4 g5 : Bool) (t : Tm n) : sgOK ((g1, g2, g3, g4, g5, t) : SgT n) = (decide (1 ≤ g3) && decide (g3 ≤ 256) && decide (-1 ≤ g2) && decide (g2 ≤ 32000) && (if g1 = 1 then decide (0 ≤ g2) && decide (g2 * g3 ≤ 49) else decide (g1 = 2) && !g4 && !g5)) := rfl

theorem wide_bounds {g2 g3 : Int} (p1 : 1 ≤ g3) (p2 : g3 ≤ 256) (p3 : -1 ≤ g2) (p4 : g2 ≤ 32000) : -256 ≤ g2 * g3 ∧ g2 * g3 ≤ 8192000 := by
  constructor
  · rcases Int.le_total 0 g2 with h | h
    · have := Int.mul_nonneg h (by omega : 0 ≤ g3); omega
    · obtain rfl | rfl : g2 = 0 ∨ g2 = -1 := by omega
      · simp
      · omega
  · have a1 := Int.mul_le_mul_of_nonneg_right p4 (by omega : 0 ≤ g3)
    have a2 := Int.mul_le_mul_of_nonneg_left p2 (by omega : (0 : Int) ≤ 32000)
    omega
theorem wide_wrap {g2 g3 : Int} (p1 : 1 ≤ g3) (p2 : g3 ≤ 256) (p3 : -1 ≤ g2) (p4 : g2 ≤ 32000) : IntKind.i64.wrap (g2 * g3) = g2 * g3 := by
  have := wide_bounds p1 p2 p3 p4
  rw [IntKind.wrap_i64]; omega

set_option maxRecDepth 40000 in
set_option maxHeartbeats 4000000 in
theorem sSegOK_any {n : Nat} (g1 g2 g3 : Int) (g4 g5 : Bool) (t : Tm n) (c0 c1 c2 c3 : Value) (w : World) (hs : ∃ k m s ua ul uc, c0 = .int .i64 k ∧ c1 = .int .i64 m ∧ c2 = .string s ∧ c3 = .slice ua ul uc) :
    Calls Tryz.prog 11 #[.agg #[.int .i64 g1, .int .i64 g2, .int .i64 g3, .bool g4, .bool g5, c0, c1, c2, c3]] w fun e w' => e = .returned (.bool (sgOK ((g1, g2, g3, g4, g5, t) : SgT n))) ∧ Below w.heap.size w w' := by
  obtain ⟨k, m, s, ua, ul, uc, rfl, rfl, rfl, rfl⟩ := hs
  rw [sgOK_eq]
  have hB := hide ((Below.refl w.heap.size w).alloc (Nat.le_refl _) (.cells #[.int .i64 g1, .int .i64 g2, .int .i64 g3, .bool g4, .bool g5, .int .i64 k, .int .i64 m, .string s, .slice ua ul uc] 34))
  by_cases hok : 1 ≤ g3 ∧ g3 ≤ 256 ∧ -1 ≤ g2 ∧ g2 ≤ 32000
  · obtain ⟨p1, p2, p3, p4⟩ := hok
    have b1 : ¬ g3 < 1 := by omega
    have b2 : ¬ 256 < g3 := by omega
    have b3 : ¬ g2 < -1 := by omega
    have b4 : ¬ 32000 < g2 := by omega
    have w1 := wide_wrap p1 p2 p3 p4
    by_cases ht : g1 = 1
    · subst ht
      by_cases hz : 0 ≤ g2
      · have hans : (decide (1 ≤ g3) && decide (g3 ≤ 256) && decide (-1 ≤ g2) && decide (g2 ≤ 32000) && (if (1 : Int) = 1 then decide (0 ≤ g2) && decide (g2 * g3 ≤ 49) else decide ((1 : Int) = 2) && !g4 && !g5)) = decide (g2 * g3 ≤ 49) := by
          rw [decide_eq_true p1, decide_eq_true p2, decide_eq_true p3, decide_eq_true p4, if_pos rfl, decide_eq_true hz]; rfl
        rw [hans]
        clear hans
        go_enter Tryz.func11, Tryz.ntmps11
        go_wp2_with fail
        go_ret
        exact ⟨ret_bool rfl, unhide hB⟩
      · have hz' : ¬ g2 ≥ 0 := hz
        have hans : (decide (1 ≤ g3) && decide (g3 ≤ 256) && decide (-1 ≤ g2) && decide (g2 ≤ 32000) && (if (1 : Int) = 1 then decide (0 ≤ g2) && decide (g2 * g3 ≤ 49) else decide ((1 : Int) = 2) && !g4 && !g5)) = false := by
          rw [if_pos rfl, decide_eq_false hz]; simp
        rw [hans]
        clear hans
        go_enter Tryz.func11, Tryz.ntmps11
        go_wp2_with fail
        go_ret
        exact ⟨ret_bool rfl, unhide hB⟩
    · have ht' : (g1 == 1) = false := by simpa using ht
      have hans : (decide (1 ≤ g3) && decide (g3 ≤ 256) && decide (-1 ≤ g2) && decide (g2 ≤ 32000) && (if g1 = 1 then decide (0 ≤ g2) && decide (g2 * g3 ≤ 49) else decide (g1 = 2) && !g4 && !g5)) = (decide (g1 = 2) && !g4 && !g5) := by
        rw [decide_eq_true p1, decide_eq_true p2, decide_eq_true p3, decide_eq_true p4, if_neg ht]; rfl
      rw [hans]
      clear hans
      by_cases h2' : g1 = 2
      · subst h2'
        cases g4 <;> cases g5
        all_goals
          go_enter Tryz.func11, Tryz.ntmps11
          go_wp2_with fail
          go_ret
          exact ⟨ret_bool rfl, unhide hB⟩
      · have h2'' : (g1 == 2) = false := by simpa using h2'
        rw [decide_eq_false h2']
        go_enter Tryz.func11, Tryz.ntmps11
        go_wp2_with fail
        go_ret
        exact ⟨ret_bool rfl, unhide hB⟩
  · have hans : (decide (1 ≤ g3) && decide (g3 ≤ 256) && decide (-1 ≤ g2) && decide (g2 ≤ 32000) && (if g1 = 1 then decide (0 ≤ g2) && decide (g2 * g3 ≤ 49) else decide (g1 = 2) && !g4 && !g5)) = false := by
      cases h : (decide (1 ≤ g3) && decide (g3 ≤ 256) && decide (-1 ≤ g2) && decide (g2 ≤ 32000)) with
      | false => rfl
      | true =>
        simp only [Bool.and_eq_true, decide_eq_true_eq] at h
        exact absurd ⟨h.1.1.1, h.1.1.2, h.1.2, h.2⟩ hok
    rw [hans]
    clear hans
    by_cases p1 : g3 < 1
    · go_enter Tryz.func11, Tryz.ntmps11
      go_wp2_with fail
      go_ret
      exact ⟨ret_bool rfl, unhide hB⟩
    by_cases p2 : 256 < g3
    · go_enter Tryz.func11, Tryz.ntmps11
      go_wp2_with fail
      go_ret
      exact ⟨ret_bool rfl, unhide hB⟩
    by_cases p3 : g2 < -1
    · go_enter Tryz.func11, Tryz.ntmps11
      go_wp2_with fail
      go_ret
      exact ⟨ret_bool rfl, unhide hB⟩
    have p4 : 32000 < g2 := by
      rcases (show 32000 < g2 ∨ g2 ≤ 32000 by omega) with h | h
      · exact h
      · exact absurd ⟨by omega, by omega, by omega, h⟩ hok
    go_enter Tryz.func11, Tryz.ntmps11
    go_wp2_with fail
    go_ret
    exact ⟨ret_bool rfl, unhide hB⟩

end Go.Proofs.YtcgbonlffcpofaaGreatDoor
/- impl's isOpen, width, asField, fits of a segment. -/
namespace Go.Proofs.YtcgbonlffcpofaaGreatDoor
open Go.RowKit Go.Deep

section
variable (g1 g2 g3 : Int) (g4 g5 : Bool) (k m : Int) (s : ByteArray) (ua : Option Addr) (ul uc : Nat) (w : World)
/-- A segment's value. -/
abbrev sgV : Value := .agg #[.int .i64 g1, .int .i64 g2, .int .i64 g3, .bool g4, .bool g5, .int .i64 k, .int .i64 m, .string s, .slice ua ul uc]
abbrev sgO : Obj := .cells #[.int .i64 g1, .int .i64 g2, .int .i64 g3, .bool g4, .bool g5, .int .i64 k, .int .i64 m, .string s, .slice ua ul uc] 34

theorem box9 {w' : World} {B : Nat} (hB : w.heap.size < B) (h : Below B (w.alloc (sgO g1 g2 g3 g4 g5 k m s ua ul uc)) w') :
    w'.cell? ⟨w.heap.size, 0, none⟩ = some (.int .i64 g1) ∧ w'.cell? ⟨w.heap.size, 1, none⟩ = some (.int .i64 g2) ∧ w'.cell? ⟨w.heap.size, 2, none⟩ = some (.int .i64 g3) ∧ w'.cell? ⟨w.heap.size, 3, none⟩ = some (.bool g4) ∧ w'.cell? ⟨w.heap.size, 4, none⟩ = some (.bool g5) ∧
    w'.cell? ⟨w.heap.size, 5, none⟩ = some (.int .i64 k) ∧ w'.cell? ⟨w.heap.size, 6, none⟩ = some (.int .i64 m) ∧ w'.cell? ⟨w.heap.size, 7, none⟩ = some (.string s) ∧ w'.cell? ⟨w.heap.size, 8, none⟩ = some (.slice ua ul uc) := by
  have hh := (h.block w.heap.size hB).trans (heap_new _ _)
  exact ⟨cell_of_heap hh 0, cell_of_heap hh 1, cell_of_heap hh 2, cell_of_heap hh 3, cell_of_heap hh 4, cell_of_heap hh 5, cell_of_heap hh 6, cell_of_heap hh 7, cell_of_heap hh 8⟩

set_option maxRecDepth 40000 in
theorem isOpen_any : Calls Tryz.prog 39 #[sgV g1 g2 g3 g4 g5 k m s ua ul uc] w fun e w' => e = .returned (.bool (g2 == -1)) ∧ Below w.heap.size w w' := by
  unfold sgV
  go_enter Tryz.func39, Tryz.ntmps39
  go_wp2_with fail
  go_ret
  exact ⟨rfl, (Below.refl _ _).alloc (Nat.le_refl _) _⟩

set_option maxRecDepth 40000 in
theorem width_any (p1 : 1 ≤ g3) (p2 : g3 ≤ 256) (p3 : -1 ≤ g2) (p4 : g2 ≤ 32000) : Calls Tryz.prog 40 #[sgV g1 g2 g3 g4 g5 k m s ua ul uc] w fun e w' => e = .returned (.int .i64 (g2 * g3)) ∧ Below w.heap.size w w' := by
  have w1 := wide_wrap p1 p2 p3 p4
  unfold sgV
  go_enter Tryz.func40, Tryz.ntmps40
  go_wp2_with fail
  go_ret
  exact ⟨rfl, (Below.refl _ _).alloc (Nat.le_refl _) _⟩

set_option maxRecDepth 40000 in
set_option maxHeartbeats 1000000 in
theorem asField_any (p1 : 1 ≤ g3) (p2 : g3 ≤ 256) (p3 : -1 ≤ g2) (p4 : g2 ≤ 32000) : Calls Tryz.prog 33 #[sgV g1 g2 g3 g4 g5 k m s ua ul uc] w fun e w' => e = .returned (.agg #[.int .i64 (g2 * g3), .bool g4, .bool g5]) ∧ Below w.heap.size w w' := by
  have HW := hide (fun w => width_any g1 g2 g3 g4 g5 k m s ua ul uc w p1 p2 p3 p4)
  clear p1 p2 p3 p4
  unfold sgV
  go_enter Tryz.func33, Tryz.ntmps33
  go_wp2_with fail
  obtain ⟨n0, n1, l0, l1⟩ := two_news w (sgO g1 g2 g3 g4 g5 k m s ua ul uc) (.cells #[.int .i64 0, .bool false, .bool false] 64)
  have hB := below_two w (sgO g1 g2 g3 g4 g5 k m s ua ul uc) (.cells #[.int .i64 0, .bool false, .bool false] 64)
  have HN := hide (And.intro n0 (And.intro n1 (And.intro l0 (And.intro l1 hB))))
  clear n0 n1 l0 l1 hB
  go_region_with (go_at_call 40; refine ((unhide HW) _).mono ?_; rintro e w1 ⟨rfl, hb1⟩; obtain ⟨n0, n1, l0, l1, hB⟩ := unhide HN; have q0 := (hb1.block w.heap.size l0).trans n0; have q1 := (hb1.block (w.heap.size + 1) l1).trans n1; have x0 := cell_of_heap q0 0; have x3 := cell_of_heap q0 3; have x4 := cell_of_heap q0 4; have y0 := cell_of_heap q1 0; have y1 := cell_of_heap q1 1; have y2 := cell_of_heap q1 2; have f0 := frozen_of_heap q1 0; have f1 := frozen_of_heap q1 1; have f2 := frozen_of_heap q1 2; have H1 := hide (And.intro q1 (hB.drew.trans (hb1.mono (Nat.le_of_lt l0)))); clear hb1 n0 n1 l0 l1 hB q0 q1)
  all_goals
    go_wp2_with fail
    exact bodyPost_ret (v := .agg #[.int .i64 (g2 * g3), .bool g4, .bool g5]) (by simp [results, Tryz.results33, go_sem, y0, y1, y2]) rfl ⟨rfl, (((unhide H1).2.setCell (p := ⟨w.heap.size + 1, 0, none⟩) (Nat.le_succ _) _).setCell (p := ⟨w.heap.size + 1, 1, none⟩) (Nat.le_succ _) _).setCell (p := ⟨w.heap.size + 1, 2, none⟩) (Nat.le_succ _) _⟩
end

end Go.Proofs.YtcgbonlffcpofaaGreatDoor
