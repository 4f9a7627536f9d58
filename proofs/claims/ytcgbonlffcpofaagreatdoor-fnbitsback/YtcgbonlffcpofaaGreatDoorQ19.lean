/- Plain facts: bits as a number, in the order in which a field has them. -/
import Derived.Test.YtcgbonlffcpofaaGreatDoorQ8
import Derived.Test.YtcgbonlffcpofaaGreatDoorQ9
namespace Go.Proofs.YtcgbonlffcpofaaGreatDoor
open Go.RowKit

/-- Bit by bit, each at its place. -/
def orN (x : Nat → Bool) (size : Nat) (li : Bool) : Nat → Nat
  | 0 => 0
  | k + 1 => match x k with
    | true => orN x size li k ||| 2 ^ pw size li k
    | false => orN x size li k
/-- The highest first, each step twice the number. -/
def hN (x : Nat → Bool) : Nat → Nat
  | 0 => 0
  | k + 1 => hN x k * 2 + (x k).toNat
theorem orN_bit (x : Nat → Bool) (size : Nat) (li : Bool) (q : Nat) : ∀ k, (orN x size li k).testBit q = true ↔ ∃ i, i < k ∧ x i = true ∧ pw size li i = q
  | 0 => by simp [orN]
  | k + 1 => by
    have ih := orN_bit x size li q k
    unfold orN
    cases h : x k
    · simp only
      rw [ih]
      constructor
      · rintro ⟨i, h1, h2, h3⟩; exact ⟨i, by omega, h2, h3⟩
      · rintro ⟨i, h1, h2, h3⟩
        have : i ≠ k := by rintro rfl; rw [h] at h2; cases h2
        exact ⟨i, by omega, h2, h3⟩
    · simp only [Nat.testBit_or, Bool.or_eq_true, Nat.testBit_two_pow, decide_eq_true_eq]
      rw [ih]
      constructor
      · rintro (⟨i, h1, h2, h3⟩ | h3)
        · exact ⟨i, by omega, h2, h3⟩
        · exact ⟨k, by omega, h, h3⟩
      · rintro ⟨i, h1, h2, h3⟩
        by_cases hi : i = k
        · subst hi; exact Or.inr h3
        · exact Or.inl ⟨i, by omega, h2, h3⟩
theorem orN_lt (x : Nat → Bool) (size : Nat) (li : Bool) : ∀ k, k ≤ size → orN x size li k < 2 ^ size
  | 0, _ => by simp [orN]; exact Nat.two_pow_pos _
  | k + 1, h => by
    have ih := orN_lt x size li k (by omega)
    unfold orN
    cases x k
    · exact ih
    · exact Nat.or_lt_two_pow ih (Nat.pow_lt_pow_right (by decide) (pw_lt size li k (by omega)))

/-- The bits of a list. -/
def xbit (xs : List Int) (i : Nat) : Bool := decide (xs.getD i 0 = 1)
/-- With its sign. -/
def signed (sg : Bool) (size : Nat) (v : Nat) : Int := match sg && decide (0 < size) && decide ((2 : Int) ^ (size - 1) ≤ v) with
  | true => v - 2 ^ size
  | false => v

theorem i64_or (a P : Nat) (ha : a < 2 ^ 49) (hP : P < 49) : bits .or .i64 (a : Int) ((2 : Int) ^ P) = ((a ||| 2 ^ P : Nat) : Int) := by
  have hp : (2 : Nat) ^ P < 2 ^ 49 := Nat.pow_lt_pow_right (by decide) hP
  have hx : a ||| 2 ^ P < 2 ^ 49 := Nat.or_lt_two_pow ha hp
  have e : (2 : Int) ^ P = ((2 ^ P : Nat) : Int) := by simp
  have h49 : (2 : Nat) ^ 49 = 562949953421312 := by decide
  rw [h49] at ha hp hx
  have hn : ∀ b : Nat, b < 562949953421312 → (BitVec.ofInt 64 (b : Int)).toNat = b := fun b hb => by
    rw [BitVec.ofInt_natCast, BitVec.toNat_ofNat]; exact Nat.mod_eq_of_lt (by omega)
  rw [e]
  show IntKind.i64.wrap ((BitVec.ofInt 64 (a : Int) ||| BitVec.ofInt 64 ((2 ^ P : Nat) : Int)).toNat : Int) = _
  rw [BitVec.toNat_or, hn a ha, hn _ hp, IntKind.wrap_i64]
  omega
theorem orN_set (x : Nat → Bool) (size : Nat) (li : Bool) (k : Nat) (h : x k = true) : orN x size li (k + 1) = orN x size li k ||| 2 ^ pw size li k := by
  simp [orN, h]
theorem orN_skip (x : Nat → Bool) (size : Nat) (li : Bool) (k : Nat) (h : x k = false) : orN x size li (k + 1) = orN x size li k := by
  simp [orN, h]
theorem top_bit (n k : Nat) (hk : 0 < k) (h : n < 2 ^ k) : (n : Int) / 2 ^ (k - 1) = 1 ↔ (2 : Int) ^ (k - 1) ≤ n := by
  obtain ⟨j, rfl⟩ : ∃ j, k = j + 1 := ⟨k - 1, by omega⟩
  have e : ((2 ^ (j + 1) : Nat) : Int) = 2 * 2 ^ j := by rw [Nat.pow_succ]; simp; omega
  have h' : (n : Int) < 2 * 2 ^ j := by rw [← e]; exact Int.ofNat_lt.2 h
  have hp : (0 : Int) < 2 ^ j := Int.pow_pos (by decide)
  simp only [Nat.add_sub_cancel]
  constructor
  · intro h1
    have := Int.mul_ediv_self_le (x := (n : Int)) (k := 2 ^ j) (by omega)
    rw [h1] at this; omega
  · intro h1
    have h2 : 1 ≤ (n : Int) / 2 ^ j := (Int.le_ediv_iff_mul_le hp).2 (by omega)
    have h3 : (n : Int) / 2 ^ j < 2 := (Int.ediv_lt_iff_lt_mul hp).2 (by omega)
    omega

theorem signed_neg {sg : Bool} {k n : Nat} (h1 : sg = true) (h2 : 0 < k) (h3 : (2 : Int) ^ (k - 1) ≤ n) : signed sg k n = n - 2 ^ k := by
  unfold signed; rw [h1, decide_eq_true h2, decide_eq_true h3]; rfl
theorem signed_lt {sg : Bool} {k n : Nat} (h3 : (n : Int) < 2 ^ (k - 1)) : signed sg k n = n := by
  unfold signed; rw [decide_eq_false (show ¬ (2 : Int) ^ (k - 1) ≤ n by omega), Bool.and_false]
theorem signed_zero {sg : Bool} {k n : Nat} (h : ¬ 0 < k) : signed sg k n = n := by
  unfold signed; rw [decide_eq_false h, Bool.and_false, Bool.false_and]
theorem signed_no {sg : Bool} {k n : Nat} (h : sg = false) : signed sg k n = n := by
  unfold signed; rw [h, Bool.false_and, Bool.false_and]
theorem two_pow_lo (k : Nat) : (0 : Int) < 2 ^ k := Int.pow_pos (by decide)
theorem two_pow_hi (k : Nat) (h : k ≤ 49) : (2 : Int) ^ k ≤ 562949953421312 := by
  have h1 : ((2 ^ k : Nat) : Int) ≤ ((2 ^ 49 : Nat) : Int) := Int.ofNat_le.2 (Nat.pow_le_pow_right (by decide) h)
  have h2 : ((2 ^ k : Nat) : Int) = 2 ^ k := by simp
  rw [h2] at h1
  exact h1

theorem signed_top {sg : Bool} {k n : Nat} (hl : n < 2 ^ k) (h1 : sg = true) (h2 : 0 < k) (h3 : ((n : Int) / 2 ^ (k - 1) == 1) = true) : signed sg k n = n - 2 ^ k :=
  signed_neg h1 h2 ((top_bit n k h2 hl).1 (by simpa using h3))
theorem signed_low {sg : Bool} {k n : Nat} (hl : n < 2 ^ k) (h2 : 0 < k) (h3 : ((n : Int) / 2 ^ (k - 1) == 1) = false) : signed sg k n = n :=
  signed_lt (by
    have h := fun g => (top_bit n k h2 hl).2 g
    have h4 : ¬ (n : Int) / 2 ^ (k - 1) = 1 := by simpa using h3
    by_cases g : (2 : Int) ^ (k - 1) ≤ n
    · exact absurd (h g) h4
    · omega)

theorem orN_congr {x y : Nat → Bool} (size : Nat) (li : Bool) : ∀ k, (∀ j, j < k → x j = y j) → orN x size li k = orN y size li k
  | 0, _ => rfl
  | k + 1, h => by unfold orN; rw [orN_congr size li k fun j hj => h j (by omega), h k (by omega)]

/-- Bit k of a packed byte. -/
theorem pk_get (f : Nat → Int) (hf : ∀ i, f i = 0 ∨ f i = 1) (j : Nat) : ∀ c, c ≤ 8 → ∀ k, k < c → pk f j c / 2 ^ (7 - k) % 2 = f (8 * j + k)
  | 0, _, k, hk => by omega
  | c + 1, hc, k, hk => by
    obtain ⟨h1, h2, h3⟩ := pk_bounds f hf j c (by omega)
    have h4 := hf (8 * j + c)
    have ih := pk_get f hf j c (by omega) k
    simp only [pk]
    by_cases hkc : k = c
    · subst hkc
      have hc : k = 0 ∨ k = 1 ∨ k = 2 ∨ k = 3 ∨ k = 4 ∨ k = 5 ∨ k = 6 ∨ k = 7 := by omega
      rcases hc with rfl | rfl | rfl | rfl | rfl | rfl | rfl | rfl <;> rcases h4 with h4 | h4 <;> rw [h4] <;> simp at h1 h2 h3 ⊢ <;> omega
    · have ih := ih (by omega)
      rw [← ih]
      have hc : c = 1 ∨ c = 2 ∨ c = 3 ∨ c = 4 ∨ c = 5 ∨ c = 6 ∨ c = 7 := by omega
      have hk' : k = 0 ∨ k = 1 ∨ k = 2 ∨ k = 3 ∨ k = 4 ∨ k = 5 ∨ k = 6 := by omega
      generalize pk f j c = P at h1 h2 h3
      generalize f (8 * j + c) = b at h4
      clear ih hf
      rcases hc with rfl | rfl | rfl | rfl | rfl | rfl | rfl <;> rcases hk' with rfl | rfl | rfl | rfl | rfl | rfl | rfl <;> first | omega | (rcases h4 with rfl | rfl <;> simp at h1 h2 h3 ⊢ <;> omega)
theorem bit_strB (xs : List Int) (hx : ∀ x ∈ xs, x = 0 ∨ x = 1) (i : Nat) (hi : i < xs.length) : bit (strB xs) i = xs.getD i 0 := by
  unfold bit
  rw [byt_strB xs hx (i / 8) (by omega)]
  unfold packed
  rw [pk_get _ (getD_01 hx) (i / 8) _ (by omega) (i % 8) (by omega), show 8 * (i / 8) + i % 8 = i by omega]
theorem bitsOf_strB (xs : List Int) (hx : ∀ x ∈ xs, x = 0 ∨ x = 1) : bitsOf (strB xs) xs.length = xs := by
  apply List.ext_getElem?
  intro i
  by_cases h : i < xs.length
  · rw [bitsOf_get _ _ _ h, bit_strB xs hx i h, List.getD_eq_getElem?_getD, List.getElem?_eq_getElem h]; rfl
  · rw [List.getElem?_eq_none (by rw [bitsOf_length]; omega), List.getElem?_eq_none (by omega)]

end Go.Proofs.YtcgbonlffcpofaaGreatDoor
/- impl's get: bits as a number. -/
namespace Go.Proofs.YtcgbonlffcpofaaGreatDoor
open Go.RowKit Go.Deep

/-- Bit i from bit f on. -/
abbrev gbit (s : ByteArray) (f i : Nat) : Bool := decide (bit s (f + i) = 1)

set_option maxRecDepth 100000 in
set_option maxHeartbeats 1000000 in
theorem iget_any (n : Int) (s : ByteArray) (f size : Nat) (sg li : Bool) (w : World) (hm : Masks 0 w) (hs : size ≤ 49) (hf : f + size ≤ 8 * s.size) (hss : s.size ≤ 1048576) :
    Calls Tryz.prog 41 #[.agg #[.int .i64 size, .bool sg, .bool li], .agg #[.int .i64 n, .string s], .int .i64 f] w fun e w' => e = .returned (.int .i64 (signed sg size (orN (gbit s f) size li size))) ∧ Below w.heap.size w w' := by
  have Hm := hide hm
  obtain ⟨W0, hW0⟩ : ∃ W0, W0 = (w.alloc (.cells #[.int .i64 size, .bool sg, .bool li] 64)).alloc (.cells #[.int .i64 n, .string s] 27) := ⟨_, rfl⟩
  have hs0 : W0.heap.size = w.heap.size + 2 := by rw [hW0]; simp
  have hb0 : Below w.heap.size w W0 := by rw [hW0]; exact ((Below.refl w.heap.size w).alloc (Nat.le_refl _) _).alloc (by simp) _
  have F : ∀ w', Below W0.heap.size W0 w' → w'.cell? ⟨w.heap.size, 0, none⟩ = some (.int .i64 size) ∧ w'.cell? ⟨w.heap.size, 1, none⟩ = some (.bool sg) ∧ w'.cell? ⟨w.heap.size, 2, none⟩ = some (.bool li) := fun w' hb => by
    rw [hW0] at hb
    exact box3 w _ _ _ _ (Nat.lt_succ_self _) ((((Below.refl (w.heap.size + 1) (w.alloc (.cells #[.int .i64 size, .bool sg, .bool li] 64))).alloc (by simp) _)).trans (hb.mono (by simp)))
  have G : ∀ w', Below W0.heap.size W0 w' → w'.cell? ⟨w.heap.size + 1, 0, none⟩ = some (.int .i64 n) ∧ w'.cell? ⟨w.heap.size + 1, 1, none⟩ = some (.string s) := fun w' hb => by
    have h := box2 (w.alloc (.cells #[.int .i64 size, .bool sg, .bool li] 64)) (.int .i64 n) (.string s) 27 (w' := w') (by rw [hW0] at hb; simpa using hb)
    simp only [World.size_alloc] at h
    exact h
  obtain ⟨f0, f1, f2⟩ := F W0 (Below.refl _ _)
  have HF := hide F
  have HG := hide G
  have Hb0 := hide hb0
  have HW := hide hW0
  clear hm F G hb0
  go_enter Tryz.func41, Tryz.ntmps41
  go_wp2_with fail
  rw [← unhide HW]
  clear hW0 f0 f1 f2
  go_loopw [7, 8, 11] (fun vv jv iv wr => ∃ k : Nat, k ≤ size ∧ iv = .int .i64 k ∧ vv = .int .i64 (orN (gbit s f) size li k) ∧ Below W0.heap.size W0 wr) (fun _ _ iv _ => size - (intOf iv).toNat)
  case atStart => exact ⟨0, Nat.zero_le _, rfl, rfl, Below.refl _ _⟩
  case round =>
    obtain ⟨k, hk, rfl, rfl, hb⟩ := hrel
    have hlo := Nat.lt_of_lt_of_le (orN_lt (gbit s f) size li k hk) (Nat.pow_le_pow_right (by decide) hs)
    obtain ⟨f0, f1, f2⟩ := unhide HF wr hb
    obtain ⟨g0, g1⟩ := unhide HG wr hb
    have Hb := hide hb
    by_cases hlt : k < size
    · have hS := hide (orN_set (gbit s f) size li k)
      have hK := hide (orN_skip (gbit s f) size li k)
      have hP := pw_lt size li k hlt
      obtain ⟨P, hPe⟩ : ∃ P, P = pw size li k := ⟨_, rfl⟩
      have hpow := hide (power_any size sg li k)
      rw [← hPe] at hP hpow hS
      obtain ⟨v, hv⟩ : ∃ v, v = orN (gbit s f) size li k := ⟨_, rfl⟩
      rw [← hv] at hlo hS hK ⊢
      have HV := hide hv
      have hor := hide (i64_or v P hlo (by omega))
      have hp1 := two_pow_lo P
      have hp2 := two_pow_hi P (by omega)
      have hset := hide (isSet_any n s (f + k) wr ((unhide Hm).keep ((unhide Hb0).trans ((unhide Hb).mono (unhide Hb0).size))) (by omega) (by omega))
      clear hb hv hPe
      go_wp2_with fail
      refine (unhide hset).mono ?_
      rintro e w1 ⟨rfl, hb1⟩
      have hB1 := (unhide Hb).trans (hb1.mono (unhide Hb).size)
      obtain ⟨f0, f1, f2⟩ := unhide HF w1 hB1
      obtain ⟨g0, g1⟩ := unhide HG w1 hB1
      have HB1 := hide hB1
      clear hb1 hB1
      go_wp2_with (go_at_call 51; refine (unhide hpow w1 hlt hs).mono ?_; rintro e w2 ⟨rfl, hb2⟩; have HB2 := hide hb2; clear hb2)
      · have h1 : bit s (f + k) = 1 := by assumption
        have hx : gbit s f k = true := decide_eq_true h1
        clear h1
        go_roundw
        case rel => exact ⟨k + 1, by omega, by go_num, by rw [unhide hS hx, unhide hor], (unhide HB1).trans ((unhide HB2).mono (unhide HB1).size)⟩
        case measure => simp [intOf]; omega
      · have h1 : ¬ bit s (f + k) = 1 := by assumption
        have hx : gbit s f k = false := decide_eq_false h1
        clear h1
        go_roundw
        case rel => exact ⟨k + 1, by omega, by go_num, by rw [unhide hK hx], unhide HB1⟩
        case measure => simp [intOf]; omega
    · have hkn : k = size := by omega
      subst hkn
      have hlk := orN_lt (gbit s f) k li k (Nat.le_refl _)
      obtain ⟨v, hv⟩ : ∃ v, v = orN (gbit s f) k li k := ⟨_, rfl⟩
      rw [← hv] at hlo hlk ⊢
      have HV := hide hv
      have hlo' : v ≤ 562949953421312 := by have h49 : (2 : Nat) ^ 49 = 562949953421312 := by decide
                                            omega
      have htop := hide (fun h => top_bit v k h hlk)
      have hp1 := two_pow_lo (k - 1)
      have hp2 := two_pow_hi (k - 1) (by omega)
      have hq1 := two_pow_lo k
      have hq2 := two_pow_hi k hs
      have Hlk := hide hlk
      clear hv hlk hlo hb
      go_wp2_with fail
      all_goals
        go_ret
        refine ⟨?_, (unhide Hb0).trans ((unhide Hb).mono (unhide Hb0).size)⟩
        rw [← unhide HV]
        first
          | rw [signed_top (unhide Hlk) ‹_› ‹_› ‹_›]; rfl
          | rw [signed_low (unhide Hlk) ‹_› ‹_›]; rfl
          | rw [signed_zero ‹_›]; rfl
          | rw [signed_no (by simpa using ‹¬ sg = true›)]; rfl
          | rw [signed_no ‹_›]; rfl

end Go.Proofs.YtcgbonlffcpofaaGreatDoor
/- Plain facts: bits cut out of a row, byte by byte. -/
namespace Go.Proofs.YtcgbonlffcpofaaGreatDoor
open Go.RowKit

/-- The eight bits from bit f + 8 j on. -/
def full (s : ByteArray) (f j : Nat) : Int := pk (fun i => bit s (f + i)) j 8
def fullBytes (s : ByteArray) (f m : Nat) : List Int := (List.range m).map (full s f)
theorem fullBytes_length (s : ByteArray) (f m : Nat) : (fullBytes s f m).length = m := by simp [fullBytes]
theorem fullBytes_get (s : ByteArray) (f m j : Nat) (h : j < m) : (fullBytes s f m)[j]? = some (full s f j) := by simp [fullBytes, h]

theorem pk_shift (f : Nat → Int) (j : Nat) : ∀ c, pk f j c = pk (fun t => f (8 * j + t)) 0 c
  | 0 => rfl
  | c + 1 => by simp only [pk]; rw [pk_shift f j c]; simp
theorem full_shift (s : ByteArray) (f j : Nat) : full s f j = full s (f + 8 * j) 0 := by
  unfold full; rw [pk_shift]; simp only [Nat.add_assoc]
theorem full_01 (s : ByteArray) (f : Nat) : ∀ i, bit s (f + i) = 0 ∨ bit s (f + i) = 1 := fun _ => bit_01 s _
theorem full_bounds (s : ByteArray) (f j : Nat) : 0 ≤ full s f j ∧ full s f j < 256 := by
  obtain ⟨h1, h2, _⟩ := pk_bounds _ (full_01 s f) j 8 (by omega)
  unfold full
  simp at h2
  omega
/-- On whole bytes. -/
theorem full_whole (s : ByteArray) (q j : Nat) : full s (8 * q) j = byt s (q + j) := by
  have h := pk_bit s (q + j) 8 (by omega)
  have h2 := byt_lo s (q + j)
  rw [full_shift]
  unfold full
  rw [pk_shift] at h
  simp only [Nat.sub_self, Int.pow_zero, Int.ediv_one, Int.mul_one] at h ⊢
  rw [← h]
  apply pk_congr
  intro k _
  rw [show 8 * q + 8 * j + (8 * 0 + k) = 8 * (q + j) + (8 * 0 + k) by omega]

/-- The high part and the low part of a shifted byte. -/
theorem or_parts (x y : Int) (h : Nat) (hh : h < 8) (hx0 : 0 ≤ x) (hx : x < 256) (hy0 : 0 ≤ y) (hy : y < 256) : bits .or .u8 (x * 2 ^ h % 256) (y / 2 ^ (8 - h)) = x * 2 ^ h % 256 + y / 2 ^ (8 - h) := by
  have all : ∀ X : Nat, X * 2 ^ h % 256 = 2 ^ h * (X % 2 ^ (8 - h)) := fun X => by
    have e : 2 ^ h * 2 ^ (8 - h) = 256 := by rw [← Nat.pow_add, show h + (8 - h) = 8 by omega]
    have g : X * 2 ^ h % (2 ^ h * 2 ^ (8 - h)) = 2 ^ h * (X % 2 ^ (8 - h)) := by rw [Nat.mul_comm X, Nat.mul_mod_mul_left]
    rw [e] at g; exact g
  obtain ⟨X, rfl⟩ := Int.eq_ofNat_of_zero_le hx0
  obtain ⟨Y, rfl⟩ := Int.eq_ofNat_of_zero_le hy0
  have e1 : (X : Int) * 2 ^ h % 256 = ((X * 2 ^ h % 256 : Nat) : Int) := by simp
  have e2 : (Y : Int) / 2 ^ (8 - h) = ((Y / 2 ^ (8 - h) : Nat) : Int) := by simp
  have hY : Y / 2 ^ (8 - h) < 2 ^ h := by
    rw [Nat.div_lt_iff_lt_mul (Nat.two_pow_pos _), ← Nat.pow_add, show h + (8 - h) = 8 by omega]
    omega
  have h256 : Y / 2 ^ (8 - h) < 256 := Nat.lt_of_le_of_lt (Nat.div_le_self _ _) (by omega)
  rw [e1, e2, u8_or_nat _ _ (Nat.mod_lt _ (by decide)) h256]
  rw [all X, ← Nat.two_pow_add_eq_or_of_lt hY]
  simp

theorem full_parts (s : ByteArray) (i : Nat) (hi : i % 8 ≠ 0) : full s i 0 = byt s (i / 8) * 2 ^ (i % 8) % 256 + byt s (i / 8 + 1) / 2 ^ (8 - i % 8) := by
  unfold full
  simp only [pk]
  have hx0 := byt_lo s (i / 8)
  have hx := byt_hi s (i / 8)
  have hy0 := byt_lo s (i / 8 + 1)
  have hy := byt_hi s (i / 8 + 1)
  have hb : ∀ k, k < 8 → bit s (i + (8 * 0 + k)) = if i % 8 + k < 8 then byt s (i / 8) / 2 ^ (7 - (i % 8 + k)) % 2 else byt s (i / 8 + 1) / 2 ^ (7 - (i % 8 + k - 8)) % 2 := by
    intro k hk
    unfold bit
    split
    · rw [show (i + (8 * 0 + k)) / 8 = i / 8 by omega, show (i + (8 * 0 + k)) % 8 = i % 8 + k by omega]
    · rw [show (i + (8 * 0 + k)) / 8 = i / 8 + 1 by omega, show (i + (8 * 0 + k)) % 8 = i % 8 + k - 8 by omega]
  rw [hb 0 (by omega), hb 1 (by omega), hb 2 (by omega), hb 3 (by omega), hb 4 (by omega), hb 5 (by omega), hb 6 (by omega), hb 7 (by omega)]
  clear hb
  generalize byt s (i / 8) = x at hx0 hx
  generalize byt s (i / 8 + 1) = y at hy0 hy
  have hc : i % 8 = 1 ∨ i % 8 = 2 ∨ i % 8 = 3 ∨ i % 8 = 4 ∨ i % 8 = 5 ∨ i % 8 = 6 ∨ i % 8 = 7 := by omega
  generalize i % 8 = h at hc
  clear hi
  rcases hc with rfl | rfl | rfl | rfl | rfl | rfl | rfl <;> simp <;> omega

/-- The first c bits of eight. -/
theorem pk_trunc (f : Nat → Int) (hf : ∀ i, f i = 0 ∨ f i = 1) (j c : Nat) : ∀ d, c ≤ d → d ≤ 8 → pk f j d / 2 ^ (8 - c) * 2 ^ (8 - c) = pk f j c
  | 0, h1, _ => by
    have : c = 0 := by omega
    subst this; simp [pk]
  | d + 1, h1, h2 => by
    by_cases hcd : c = d + 1
    · subst hcd
      obtain ⟨_, _, h3⟩ := pk_bounds f hf j (d + 1) h2
      have hp : (0 : Int) < 2 ^ (8 - (d + 1)) := Int.pow_pos (by decide)
      exact Int.ediv_mul_cancel_of_emod_eq_zero h3
    · have ih := pk_trunc f hf j c d (by omega) (by omega)
      obtain ⟨g1, g2, g3⟩ := pk_bounds f hf j d (by omega)
      have h4 := hf (8 * j + d)
      rw [← ih]
      simp only [pk]
      generalize pk f j d = P at g1 g2 g3
      generalize f (8 * j + d) = b at h4
      clear ih hf
      have hd : d = 0 ∨ d = 1 ∨ d = 2 ∨ d = 3 ∨ d = 4 ∨ d = 5 ∨ d = 6 ∨ d = 7 := by omega
      have hc : c = 0 ∨ c = 1 ∨ c = 2 ∨ c = 3 ∨ c = 4 ∨ c = 5 ∨ c = 6 ∨ c = 7 := by omega
      rcases hd with rfl | rfl | rfl | rfl | rfl | rfl | rfl | rfl <;> rcases hc with rfl | rfl | rfl | rfl | rfl | rfl | rfl | rfl <;> first | omega | (rcases h4 with rfl | rfl <;> simp at g1 g2 g3 ⊢ <;> omega)

/-- The bits that do not count, put to 0 one by one, from the last one on. -/
def cl (Z : List Int) (r : Nat) : List Int := Z.set (Z.length - 1) (Z.getD (Z.length - 1) 0 / 2 ^ r * 2 ^ r)
theorem cl_length (Z : List Int) (r : Nat) : (cl Z r).length = Z.length := by simp [cl]
theorem cl_zero (Z : List Int) : cl Z 0 = Z := by
  unfold cl
  by_cases h : Z.length - 1 < Z.length
  · rw [List.getD_eq_getElem?_getD, List.getElem?_eq_getElem h]; simp
  · have : Z = [] := by apply List.eq_nil_of_length_eq_zero; omega
    subst this; rfl
theorem clear_one (x : Int) (r : Nat) (hr : r < 8) (hx0 : 0 ≤ x) (hx : x < 256) : bits .andNot .u8 (x / 2 ^ r * 2 ^ r) (2 ^ r) = x / 2 ^ (r + 1) * 2 ^ (r + 1) := by
  have all : ∀ r : Fin 8, ∀ x : Fin 256, (x.val / 2 ^ r.val * 2 ^ r.val) &&& (255 - 2 ^ r.val) = x.val / 2 ^ (r.val + 1) * 2 ^ (r.val + 1) := by decide +kernel
  obtain ⟨X, rfl⟩ := Int.eq_ofNat_of_zero_le hx0
  have h := all ⟨r, hr⟩ ⟨X, by omega⟩
  simp only at h
  have e1 : (X : Int) / 2 ^ r * 2 ^ r = ((X / 2 ^ r * 2 ^ r : Nat) : Int) := by simp
  have e2 : (2 : Int) ^ r = ((2 ^ r : Nat) : Int) := by simp
  have e3 : (X : Int) / 2 ^ (r + 1) * 2 ^ (r + 1) = ((X / 2 ^ (r + 1) * 2 ^ (r + 1) : Nat) : Int) := by simp
  have hp : (2 : Nat) ^ r ≤ 2 ^ 7 := Nat.pow_le_pow_right (by decide) (by omega)
  have hle := Nat.div_mul_le_self X (2 ^ r)
  rw [e1, e3, e2, u8_andNot_nat _ _ (by omega) (by omega), h]
theorem cl_getD (Z : List Int) (r : Nat) (h : 0 < Z.length) : (cl Z r).getD (Z.length - 1) 0 = Z.getD (Z.length - 1) 0 / 2 ^ r * 2 ^ r := by
  unfold cl; rw [set_getD _ _ _ (by omega)]
theorem cl_step (Z : List Int) (r : Nat) (hr : r < 8) (hZ : ∀ x ∈ Z, 0 ≤ x ∧ x < 256) (h : 0 < Z.length) :
    (cl Z r).set (Z.length - 1) (bits .andNot .u8 ((cl Z r).getD (Z.length - 1) 0) (2 ^ r)) = cl Z (r + 1) := by
  rw [cl_getD Z r h]
  have hb : 0 ≤ Z.getD (Z.length - 1) 0 ∧ Z.getD (Z.length - 1) 0 < 256 := by
    have hl : Z.length - 1 < Z.length := by omega
    rw [List.getD_eq_getElem?_getD, List.getElem?_eq_getElem hl]
    exact hZ _ (List.getElem_mem hl)
  rw [clear_one _ r hr hb.1 hb.2]
  unfold cl
  rw [List.set_set]
theorem full_mem (s : ByteArray) (f m : Nat) : ∀ x ∈ fullBytes s f m, 0 ≤ x ∧ x < 256 := by
  intro x hx
  obtain ⟨j, _, rfl⟩ := List.mem_map.1 hx
  exact full_bounds s f j

/-- The bytes of the bits that are cut out. -/
theorem cut_bytes (s : ByteArray) (f n : Nat) : cl (fullBytes s f ((n + 7) / 8)) (8 * ((n + 7) / 8) - n) = bytesAt (cutBits s f n) n := by
  apply List.ext_getElem?
  intro i
  by_cases hi : i < (n + 7) / 8
  · have hb : (bytesAt (cutBits s f n) n)[i]? = some (packed (cutBits s f n) i (min 8 (n - 8 * i))) := bytesAt_get _ _ _ (by rw [cutBits_length]; exact hi)
    rw [hb]
    have hp : packed (cutBits s f n) i (min 8 (n - 8 * i)) = pk (fun t => bit s (f + t)) i (min 8 (n - 8 * i)) := by
      unfold packed
      apply pk_congr
      intro k hk
      rw [cutBits_getD s f n _ (by omega)]
    rw [hp]
    unfold cl
    rw [fullBytes_length, List.getElem?_set, fullBytes_length]
    by_cases hl : (n + 7) / 8 - 1 = i
    · rw [if_pos hl, if_pos (by omega)]
      congr 1
      rw [hl, List.getD_eq_getElem?_getD, fullBytes_get _ _ _ _ hi, Option.getD_some]
      unfold full
      have e : 8 * ((n + 7) / 8) - n = 8 - min 8 (n - 8 * i) := by omega
      rw [e]
      exact pk_trunc _ (full_01 s f) i _ 8 (by omega) (by omega)
    · rw [if_neg hl, fullBytes_get _ _ _ _ hi]
      have e : min 8 (n - 8 * i) = 8 := by omega
      rw [e]; rfl
  · rw [List.getElem?_eq_none (by rw [cl_length, fullBytes_length]; omega), List.getElem?_eq_none (by rw [bytesAt_length, cutBits_length]; omega)]

/-- The first k of the bytes, 0 behind them. -/
def part (s : ByteArray) (f m k : Nat) : List Int := (List.range m).map fun j => match decide (j < k) with | true => full s f j | false => 0
theorem part_length (s : ByteArray) (f m k : Nat) : (part s f m k).length = m := by simp [part]
theorem part_get (s : ByteArray) (f m k j : Nat) (h : j < m) : (part s f m k)[j]? = some (match decide (j < k) with | true => full s f j | false => 0) := by simp [part, h]
theorem part_zero (s : ByteArray) (f m : Nat) : part s f m 0 = List.replicate m 0 := by
  apply List.ext_getElem?
  intro i
  by_cases h : i < m
  · rw [part_get _ _ _ _ _ h]; simp [h]
  · rw [List.getElem?_eq_none (by rw [part_length]; omega), List.getElem?_eq_none (by simp; omega)]
theorem part_all (s : ByteArray) (f m : Nat) : part s f m m = fullBytes s f m := by
  apply List.ext_getElem?
  intro i
  by_cases h : i < m
  · rw [part_get _ _ _ _ _ h, fullBytes_get _ _ _ _ h, decide_eq_true h]
  · rw [List.getElem?_eq_none (by rw [part_length]; omega), List.getElem?_eq_none (by rw [fullBytes_length]; omega)]
theorem part_succ (s : ByteArray) (f m k : Nat) (hk : k < m) : part s f m (k + 1) = (part s f m k).set k (full s (f + 8 * k) 0) := by
  apply List.ext_getElem?
  intro i
  by_cases h : i < m
  · rw [part_get _ _ _ _ _ h, List.getElem?_set, part_length]
    by_cases hik : k = i
    · subst hik
      rw [if_pos rfl, if_pos hk, decide_eq_true (Nat.lt_succ_self k), full_shift]
    · rw [if_neg hik, part_get _ _ _ _ _ h]
      have : decide (i < k + 1) = decide (i < k) := by simp; omega
      rw [this]
  · rw [List.getElem?_eq_none (by rw [part_length]; omega), List.getElem?_eq_none (by simp [part_length]; omega)]

end Go.Proofs.YtcgbonlffcpofaaGreatDoor
