/- Plain facts: a row of bits put behind another, byte by byte. -/
import Derived.Test.YtbljelopgalkgaaDoorBj2
import Derived.Test.YtbljelopgalkgaaDoorBcp
namespace Go.Proofs.YtbljelopgalkgaaDoor
open Go.RowKit

theorem pk_lt {f : Nat → Int} (hf : ∀ i, f i = 0 ∨ f i = 1) (j c : Nat) (h : c ≤ 8) : 0 ≤ pk f j c ∧ pk f j c < 256 := by
  obtain ⟨h1, h2, _⟩ := pk_bounds f hf j c h
  have hp : (0 : Int) < 2 ^ (8 - c) := Int.pow_pos (by decide)
  omega

/-- Behind the first h bits of a byte the first 8 - h bits of the next text's byte. -/
theorem join_hi (f : Nat → Int) (hf : ∀ i, f i = 0 ∨ f i = 1) (c : Int) (p h : Nat) (hh : h < 8) (h0 : h ≠ 0) (hc0 : 0 ≤ c) (hc : c < 256)
    (hb : ∀ r, r < 8 → f (8 * p + h + r) = c / 2 ^ (7 - r) % 2) : bits .or .u8 (pk f p h) (c / 2 ^ h) = pk f p 8 := by
  obtain ⟨b1, b2, b3⟩ := pk_bounds f hf p h (by omega)
  obtain ⟨l1, l2⟩ := pk_lt hf p h (by omega)
  have e : pk f p h / 2 ^ (8 - h) * 2 ^ (8 - h) % 256 = pk f p h := by rw [Int.ediv_mul_cancel_of_emod_eq_zero b3]; omega
  have hx0 : 0 ≤ pk f p h / 2 ^ (8 - h) := Int.ediv_nonneg l1 (Int.le_of_lt (Int.pow_pos (by decide)))
  have hx : pk f p h / 2 ^ (8 - h) < 256 := Int.lt_of_le_of_lt (Int.ediv_le_self _ l1) l2
  have ho := or_parts (pk f p h / 2 ^ (8 - h)) c (8 - h) (by omega) hx0 hx hc0 hc
  rw [e, show 8 - (8 - h) = h by omega] at ho
  rw [ho]
  clear ho e hx0 hx b1 b2 b3 l1 l2
  have key : ∀ r, r ≤ 8 - h → pk f p (h + r) = pk f p h + c / 2 ^ (8 - r) * 2 ^ (8 - r - h) := by
    intro r
    induction r with
    | zero =>
      intro _
      have : c / 2 ^ (8 - 0) = 0 := by show c / 256 = 0; omega
      rw [this]; simp
    | succ r ih =>
      intro hr
      have e1 : pk f p (h + (r + 1)) = pk f p (h + r) + f (8 * p + (h + r)) * 2 ^ (7 - (h + r)) := rfl
      rw [e1, ih (by omega), ← Nat.add_assoc, hb r (by omega), Int.add_assoc]
      congr 1
      have e2 : c / 2 ^ (8 - r) = c / 2 ^ (7 - r) / 2 := by
        rw [Int.ediv_ediv_of_nonneg (Int.le_of_lt (Int.pow_pos (by decide))), ← Int.pow_succ, show (7 - r).succ = 8 - r by omega]
      have e3 : (2 : Int) ^ (8 - r - h) = 2 * 2 ^ (7 - (h + r)) := by
        rw [show 8 - r - h = 7 - (h + r) + 1 by omega, Int.pow_succ, Int.mul_comm]
      have e4 : 8 - (r + 1) = 7 - r := by omega
      have e5 : 8 - (r + 1) - h = 7 - (h + r) := by omega
      rw [e2, e3, e5, e4, ← Int.mul_assoc, Int.mul_comm (c / 2 ^ (7 - r) / 2) 2, ← Int.add_mul, Int.mul_ediv_add_emod]
  have hk := key (8 - h) (Nat.le_refl _)
  rw [show h + (8 - h) = 8 by omega, show 8 - (8 - h) = h by omega, Nat.sub_self, Int.pow_zero, Int.mul_one] at hk
  exact hk.symm

/-- The rest of it in the byte behind. -/
theorem join_lo (f : Nat → Int) (c : Int) (p h : Nat) (hh : h < 8) (h0 : h ≠ 0)
    (hb : ∀ r, r < 8 → f (8 * p + h + r) = c / 2 ^ (7 - r) % 2) : c * 2 ^ (8 - h) % 256 = pk f (p + 1) h := by
  have hcs : h = 1 ∨ h = 2 ∨ h = 3 ∨ h = 4 ∨ h = 5 ∨ h = 6 ∨ h = 7 := by omega
  have hb2 : ∀ k, k < h → f (8 * (p + 1) + k) = c / 2 ^ (h - 1 - k) % 2 := fun k hk => by
    have := hb (8 - h + k) (by omega)
    rw [show 8 * p + h + (8 - h + k) = 8 * (p + 1) + k by omega, show 7 - (8 - h + k) = h - 1 - k by omega] at this
    exact this
  clear hb
  rcases hcs with rfl | rfl | rfl | rfl | rfl | rfl | rfl
  · simp only [pk, hb2 0 (by omega)]; simp; omega
  · simp only [pk, hb2 0 (by omega), hb2 1 (by omega)]; simp; omega
  · simp only [pk, hb2 0 (by omega), hb2 1 (by omega), hb2 2 (by omega)]; simp; omega
  · simp only [pk, hb2 0 (by omega), hb2 1 (by omega), hb2 2 (by omega), hb2 3 (by omega)]; simp; omega
  · simp only [pk, hb2 0 (by omega), hb2 1 (by omega), hb2 2 (by omega), hb2 3 (by omega), hb2 4 (by omega)]; simp; omega
  · simp only [pk, hb2 0 (by omega), hb2 1 (by omega), hb2 2 (by omega), hb2 3 (by omega), hb2 4 (by omega), hb2 5 (by omega)]; simp; omega
  · simp only [pk, hb2 0 (by omega), hb2 1 (by omega), hb2 2 (by omega), hb2 3 (by omega), hb2 4 (by omega), hb2 5 (by omega), hb2 6 (by omega)]; simp; omega

theorem or_zero_u8 (x : Int) (h0 : 0 ≤ x) (h : x < 256) : bits .or .u8 0 x = x := by
  obtain ⟨X, rfl⟩ := Int.eq_ofNat_of_zero_le h0
  have := u8_or_nat 0 X (by decide) (by omega)
  simpa using this

theorem pk_cut (f : Nat → Int) (j : Nat) : ∀ c d, c ≤ d → (∀ k, c ≤ k → k < d → f (8 * j + k) = 0) → pk f j d = pk f j c
  | c, 0, h, _ => by have : c = 0 := by omega
                     subst this; rfl
  | c, d + 1, h, hz => by
    by_cases hcd : c = d + 1
    · subst hcd; rfl
    · simp only [pk]
      rw [pk_cut f j c d (by omega) (fun k h1 h2 => hz k h1 (by omega)), hz d (by omega) (by omega)]
      simp

/-- One byte more. -/
theorem spread_step (X : List Int) (hX : ∀ x ∈ X, x = 0 ∨ x = 1) (i : Nat) (c : Int) (h8 : i % 8 ≠ 0) (hi : i / 8 < (X.length + 7) / 8) (hc0 : 0 ≤ c) (hc : c < 256)
    (hb : ∀ r, r < 8 → X.getD (i + r) 0 = c / 2 ^ (7 - r) % 2) : spreadL (bytesAt X i) i c = bytesAt X (i + 8) := by
  have hf : ∀ q, X.getD q 0 = 0 ∨ X.getD q 0 = 1 := getD_01 hX
  have hb' : ∀ r, r < 8 → (fun q => X.getD q 0) (8 * (i / 8) + i % 8 + r) = c / 2 ^ (7 - r) % 2 := fun r hr => by
    show X.getD (8 * (i / 8) + i % 8 + r) 0 = _
    rw [show 8 * (i / 8) + i % 8 + r = i + r by omega]; exact hb r hr
  have hh := Nat.mod_lt i (show 0 < 8 by decide)
  have hhi := join_hi (fun q => X.getD q 0) hf c (i / 8) (i % 8) hh h8 hc0 hc hb'
  have hlo := join_lo (fun q => X.getD q 0) c (i / 8) (i % 8) hh h8 hb'
  have hlen : (bytesAt X i).length = (X.length + 7) / 8 := bytesAt_length X i
  have g0 : (bytesAt X i).getD (i / 8) 0 = pk (fun q => X.getD q 0) (i / 8) (i % 8) := by
    rw [List.getD_eq_getElem?_getD, bytesAt_get X i (i / 8) hi, Option.getD_some, show min 8 (i - 8 * (i / 8)) = i % 8 by omega]; rfl
  have x0 : bits .or .u8 ((bytesAt X i).getD (i / 8) 0) (c / 2 ^ (i % 8)) = packed X (i / 8) 8 := by rw [g0]; exact hhi
  have main : ∀ q, q < (X.length + 7) / 8 → ∀ v, (v = packed X q (min 8 (i + 8 - 8 * q))) → (bytesAt X (i + 8))[q]? = some v := fun q hq v hv => by rw [bytesAt_get X (i + 8) q hq, hv]
  apply List.ext_getElem?
  intro q
  by_cases hq : q < (X.length + 7) / 8
  · unfold spreadL
    rw [hlen]
    by_cases hn : i / 8 + 1 < (X.length + 7) / 8
    · rw [decide_eq_true hn]
      simp only
      unfold orAt
      rw [x0]
      have g1 : ((bytesAt X i).set (i / 8) (packed X (i / 8) 8)).getD (i / 8 + 1) 0 = 0 := by
        rw [List.getD_eq_getElem?_getD, List.getElem?_set_ne (by omega), bytesAt_get X i _ hn, Option.getD_some, show min 8 (i - 8 * (i / 8 + 1)) = 0 by omega]; rfl
      have l1 := pk_lt hf (i / 8 + 1) (i % 8) (by omega)
      rw [g1, or_zero_u8 _ (by rw [hlo]; exact l1.1) (by rw [hlo]; exact l1.2), hlo]
      rw [List.getElem?_set, List.length_set, hlen]
      by_cases e1 : i / 8 + 1 = q
      · rw [if_pos e1, if_pos hn]
        refine (main q hq _ ?_).symm
        rw [← e1, show min 8 (i + 8 - 8 * (i / 8 + 1)) = i % 8 by omega]; rfl
      · rw [if_neg e1, List.getElem?_set, hlen]
        by_cases e2 : i / 8 = q
        · rw [if_pos e2, if_pos hi]
          refine (main q hq _ ?_).symm
          rw [← e2, show min 8 (i + 8 - 8 * (i / 8)) = 8 by omega]
        · rw [if_neg e2, bytesAt_get X i q hq]
          refine (main q hq _ ?_).symm
          rw [show min 8 (i - 8 * q) = min 8 (i + 8 - 8 * q) by omega]
    · rw [decide_eq_false hn]
      simp only
      unfold orAt
      rw [x0, List.getElem?_set, hlen]
      by_cases e2 : i / 8 = q
      · rw [if_pos e2, if_pos hi]
        refine (main q hq _ ?_).symm
        rw [← e2, show min 8 (i + 8 - 8 * (i / 8)) = 8 by omega]
      · rw [if_neg e2, bytesAt_get X i q hq]
        refine (main q hq _ ?_).symm
        rw [show min 8 (i - 8 * q) = min 8 (i + 8 - 8 * q) by omega]
  · rw [List.getElem?_eq_none (by rw [spreadL_length, hlen]; omega), List.getElem?_eq_none (by rw [bytesAt_length]; omega)]

/-- Bits behind the end don't count. -/
theorem bytesAt_over (X : List Int) (k : Nat) (hk : X.length ≤ k) : bytesAt X k = bytesAt X X.length := by
  apply List.ext_getElem?
  intro q
  by_cases hq : q < (X.length + 7) / 8
  · rw [bytesAt_get X k q hq, bytesAt_get X X.length q hq]
    congr 1
    unfold packed
    refine pk_cut _ q _ _ (by omega) fun r h1 h2 => ?_
    rw [List.getD_eq_getElem?_getD, List.getElem?_eq_none (by omega)]; rfl
  · rw [List.getElem?_eq_none (by rw [bytesAt_length]; omega), List.getElem?_eq_none (by rw [bytesAt_length]; omega)]

end Go.Proofs.YtbljelopgalkgaaDoor
