/- Plain facts: bits cut out of a row, byte by byte. -/
import Derived.Test.YtbljelopgalkgaaDoorBcs
import Derived.Test.YtbljelopgalkgaaDoorBgp
namespace Go.Proofs.YtbljelopgalkgaaDoor
open Go.RowKit

/-- The eight bits from bit f + 8 j on. -/
def full (s : ByteArray) (f j : Nat) : Int := pk (fun i => bit s (f + i)) j 8
def fullBytes (s : ByteArray) (f m : Nat) : List Int := (List.range m).map (full s f)
theorem fullBytes_length (s : ByteArray) (f m : Nat) : (fullBytes s f m).length = m := by simp [fullBytes]
theorem fullBytes_get (s : ByteArray) (f m j : Nat) (h : j < m) : (fullBytes s f m)[j]? = some (full s f j) := by simp [fullBytes, h]

theorem pk_shift (f : Nat → Int) (j : Nat) : ∀ c, pk f j c = pk (fun t => f (8 * j + t)) 0 c
  | 0 => rfl
  | c + 1 => by simp only [pk]; rw [pk_shift f j c]; simp
theorem full_shift (s : ByteArray) (f j : Nat) : full s f j = full s (f + 8 * j) 0 := by
  unfold full; rw [pk_shift]; simp only [Nat.add_assoc]
theorem full_01 (s : ByteArray) (f : Nat) : ∀ i, bit s (f + i) = 0 ∨ bit s (f + i) = 1 := fun _ => bit_01 s _
theorem full_bounds (s : ByteArray) (f j : Nat) : 0 ≤ full s f j ∧ full s f j < 256 := by
  obtain ⟨h1, h2, _⟩ := pk_bounds _ (full_01 s f) j 8 (by omega)
  unfold full
  simp at h2
  omega
/-- On whole bytes. -/
theorem full_whole (s : ByteArray) (q j : Nat) : full s (8 * q) j = byt s (q + j) := by
  have h := pk_bit s (q + j) 8 (by omega)
  have h2 := byt_lo s (q + j)
  rw [full_shift]
  unfold full
  rw [pk_shift] at h
  simp only [Nat.sub_self, Int.pow_zero, Int.ediv_one, Int.mul_one] at h ⊢
  rw [← h]
  apply pk_congr
  intro k _
  rw [show 8 * q + 8 * j + (8 * 0 + k) = 8 * (q + j) + (8 * 0 + k) by omega]

/-- The high part and the low part of a shifted byte. -/
theorem or_parts (x y : Int) (h : Nat) (hh : h < 8) (hx0 : 0 ≤ x) (hx : x < 256) (hy0 : 0 ≤ y) (hy : y < 256) : bits .or .u8 (x * 2 ^ h % 256) (y / 2 ^ (8 - h)) = x * 2 ^ h % 256 + y / 2 ^ (8 - h) := by
  have all : ∀ X : Nat, X * 2 ^ h % 256 = 2 ^ h * (X % 2 ^ (8 - h)) := fun X => by
    have e : 2 ^ h * 2 ^ (8 - h) = 256 := by rw [← Nat.pow_add, show h + (8 - h) = 8 by omega]
    have g : X * 2 ^ h % (2 ^ h * 2 ^ (8 - h)) = 2 ^ h * (X % 2 ^ (8 - h)) := by rw [Nat.mul_comm X, Nat.mul_mod_mul_left]
    rw [e] at g; exact g
  obtain ⟨X, rfl⟩ := Int.eq_ofNat_of_zero_le hx0
  obtain ⟨Y, rfl⟩ := Int.eq_ofNat_of_zero_le hy0
  have e1 : (X : Int) * 2 ^ h % 256 = ((X * 2 ^ h % 256 : Nat) : Int) := by simp
  have e2 : (Y : Int) / 2 ^ (8 - h) = ((Y / 2 ^ (8 - h) : Nat) : Int) := by simp
  have hY : Y / 2 ^ (8 - h) < 2 ^ h := by
    rw [Nat.div_lt_iff_lt_mul (Nat.two_pow_pos _), ← Nat.pow_add, show h + (8 - h) = 8 by omega]
    omega
  have h256 : Y / 2 ^ (8 - h) < 256 := Nat.lt_of_le_of_lt (Nat.div_le_self _ _) (by omega)
  rw [e1, e2, u8_or_nat _ _ (Nat.mod_lt _ (by decide)) h256]
  rw [all X, ← Nat.two_pow_add_eq_or_of_lt hY]
  simp

theorem full_parts (s : ByteArray) (i : Nat) (hi : i % 8 ≠ 0) : full s i 0 = byt s (i / 8) * 2 ^ (i % 8) % 256 + byt s (i / 8 + 1) / 2 ^ (8 - i % 8) := by
  unfold full
  simp only [pk]
  have hx0 := byt_lo s (i / 8)
  have hx := byt_hi s (i / 8)
  have hy0 := byt_lo s (i / 8 + 1)
  have hy := byt_hi s (i / 8 + 1)
  have hb : ∀ k, k < 8 → bit s (i + (8 * 0 + k)) = if i % 8 + k < 8 then byt s (i / 8) / 2 ^ (7 - (i % 8 + k)) % 2 else byt s (i / 8 + 1) / 2 ^ (7 - (i % 8 + k - 8)) % 2 := by
    intro k hk
    unfold bit
    split
    · rw [show (i + (8 * 0 + k)) / 8 = i / 8 by omega, show (i + (8 * 0 + k)) % 8 = i % 8 + k by omega]
    · rw [show (i + (8 * 0 + k)) / 8 = i / 8 + 1 by omega, show (i + (8 * 0 + k)) % 8 = i % 8 + k - 8 by omega]
  rw [hb 0 (by omega), hb 1 (by omega), hb 2 (by omega), hb 3 (by omega), hb 4 (by omega), hb 5 (by omega), hb 6 (by omega), hb 7 (by omega)]
  clear hb
  generalize byt s (i / 8) = x at hx0 hx
  generalize byt s (i / 8 + 1) = y at hy0 hy
  have hc : i % 8 = 1 ∨ i % 8 = 2 ∨ i % 8 = 3 ∨ i % 8 = 4 ∨ i % 8 = 5 ∨ i % 8 = 6 ∨ i % 8 = 7 := by omega
  generalize i % 8 = h at hc
  clear hi
  rcases hc with rfl | rfl | rfl | rfl | rfl | rfl | rfl <;> simp <;> omega

/-- The first c bits of eight. -/
theorem pk_trunc (f : Nat → Int) (hf : ∀ i, f i = 0 ∨ f i = 1) (j c : Nat) : ∀ d, c ≤ d → d ≤ 8 → pk f j d / 2 ^ (8 - c) * 2 ^ (8 - c) = pk f j c
  | 0, h1, _ => by
    have : c = 0 := by omega
    subst this; simp [pk]
  | d + 1, h1, h2 => by
    by_cases hcd : c = d + 1
    · subst hcd
      obtain ⟨_, _, h3⟩ := pk_bounds f hf j (d + 1) h2
      have hp : (0 : Int) < 2 ^ (8 - (d + 1)) := Int.pow_pos (by decide)
      exact Int.ediv_mul_cancel_of_emod_eq_zero h3
    · have ih := pk_trunc f hf j c d (by omega) (by omega)
      obtain ⟨g1, g2, g3⟩ := pk_bounds f hf j d (by omega)
      have h4 := hf (8 * j + d)
      rw [← ih]
      simp only [pk]
      generalize pk f j d = P at g1 g2 g3
      generalize f (8 * j + d) = b at h4
      clear ih hf
      have hd : d = 0 ∨ d = 1 ∨ d = 2 ∨ d = 3 ∨ d = 4 ∨ d = 5 ∨ d = 6 ∨ d = 7 := by omega
      have hc : c = 0 ∨ c = 1 ∨ c = 2 ∨ c = 3 ∨ c = 4 ∨ c = 5 ∨ c = 6 ∨ c = 7 := by omega
      rcases hd with rfl | rfl | rfl | rfl | rfl | rfl | rfl | rfl <;> rcases hc with rfl | rfl | rfl | rfl | rfl | rfl | rfl | rfl <;> first | omega | (rcases h4 with rfl | rfl <;> simp at g1 g2 g3 ⊢ <;> omega)

/-- The bits that do not count, put to 0 one by one, from the last one on. -/
def cl (Z : List Int) (r : Nat) : List Int := Z.set (Z.length - 1) (Z.getD (Z.length - 1) 0 / 2 ^ r * 2 ^ r)
theorem cl_length (Z : List Int) (r : Nat) : (cl Z r).length = Z.length := by simp [cl]
theorem cl_zero (Z : List Int) : cl Z 0 = Z := by
  unfold cl
  by_cases h : Z.length - 1 < Z.length
  · rw [List.getD_eq_getElem?_getD, List.getElem?_eq_getElem h]; simp
  · have : Z = [] := by apply List.eq_nil_of_length_eq_zero; omega
    subst this; rfl
theorem clear_one (x : Int) (r : Nat) (hr : r < 8) (hx0 : 0 ≤ x) (hx : x < 256) : bits .andNot .u8 (x / 2 ^ r * 2 ^ r) (2 ^ r) = x / 2 ^ (r + 1) * 2 ^ (r + 1) := by
  have all : ∀ r : Fin 8, ∀ x : Fin 256, (x.val / 2 ^ r.val * 2 ^ r.val) &&& (255 - 2 ^ r.val) = x.val / 2 ^ (r.val + 1) * 2 ^ (r.val + 1) := by decide +kernel
  obtain ⟨X, rfl⟩ := Int.eq_ofNat_of_zero_le hx0
  have h := all ⟨r, hr⟩ ⟨X, by omega⟩
  simp only at h
  have e1 : (X : Int) / 2 ^ r * 2 ^ r = ((X / 2 ^ r * 2 ^ r : Nat) : Int) := by simp
  have e2 : (2 : Int) ^ r = ((2 ^ r : Nat) : Int) := by simp
  have e3 : (X : Int) / 2 ^ (r + 1) * 2 ^ (r + 1) = ((X / 2 ^ (r + 1) * 2 ^ (r + 1) : Nat) : Int) := by simp
  have hp : (2 : Nat) ^ r ≤ 2 ^ 7 := Nat.pow_le_pow_right (by decide) (by omega)
  have hle := Nat.div_mul_le_self X (2 ^ r)
  rw [e1, e3, e2, u8_andNot_nat _ _ (by omega) (by omega), h]
theorem cl_getD (Z : List Int) (r : Nat) (h : 0 < Z.length) : (cl Z r).getD (Z.length - 1) 0 = Z.getD (Z.length - 1) 0 / 2 ^ r * 2 ^ r := by
  unfold cl; rw [set_getD _ _ _ (by omega)]
theorem cl_step (Z : List Int) (r : Nat) (hr : r < 8) (hZ : ∀ x ∈ Z, 0 ≤ x ∧ x < 256) (h : 0 < Z.length) :
    (cl Z r).set (Z.length - 1) (bits .andNot .u8 ((cl Z r).getD (Z.length - 1) 0) (2 ^ r)) = cl Z (r + 1) := by
  rw [cl_getD Z r h]
  have hb : 0 ≤ Z.getD (Z.length - 1) 0 ∧ Z.getD (Z.length - 1) 0 < 256 := by
    have hl : Z.length - 1 < Z.length := by omega
    rw [List.getD_eq_getElem?_getD, List.getElem?_eq_getElem hl]
    exact hZ _ (List.getElem_mem hl)
  rw [clear_one _ r hr hb.1 hb.2]
  unfold cl
  rw [List.set_set]
theorem full_mem (s : ByteArray) (f m : Nat) : ∀ x ∈ fullBytes s f m, 0 ≤ x ∧ x < 256 := by
  intro x hx
  obtain ⟨j, _, rfl⟩ := List.mem_map.1 hx
  exact full_bounds s f j

/-- The bytes of the bits that are cut out. -/
theorem cut_bytes (s : ByteArray) (f n : Nat) : cl (fullBytes s f ((n + 7) / 8)) (8 * ((n + 7) / 8) - n) = bytesAt (cutBits s f n) n := by
  apply List.ext_getElem?
  intro i
  by_cases hi : i < (n + 7) / 8
  · have hb : (bytesAt (cutBits s f n) n)[i]? = some (packed (cutBits s f n) i (min 8 (n - 8 * i))) := bytesAt_get _ _ _ (by rw [cutBits_length]; exact hi)
    rw [hb]
    have hp : packed (cutBits s f n) i (min 8 (n - 8 * i)) = pk (fun t => bit s (f + t)) i (min 8 (n - 8 * i)) := by
      unfold packed
      apply pk_congr
      intro k hk
      rw [cutBits_getD s f n _ (by omega)]
    rw [hp]
    unfold cl
    rw [fullBytes_length, List.getElem?_set, fullBytes_length]
    by_cases hl : (n + 7) / 8 - 1 = i
    · rw [if_pos hl, if_pos (by omega)]
      congr 1
      rw [hl, List.getD_eq_getElem?_getD, fullBytes_get _ _ _ _ hi, Option.getD_some]
      unfold full
      have e : 8 * ((n + 7) / 8) - n = 8 - min 8 (n - 8 * i) := by omega
      rw [e]
      exact pk_trunc _ (full_01 s f) i _ 8 (by omega) (by omega)
    · rw [if_neg hl, fullBytes_get _ _ _ _ hi]
      have e : min 8 (n - 8 * i) = 8 := by omega
      rw [e]; rfl
  · rw [List.getElem?_eq_none (by rw [cl_length, fullBytes_length]; omega), List.getElem?_eq_none (by rw [bytesAt_length, cutBits_length]; omega)]

/-- The first k of the bytes, 0 behind them. -/
def part (s : ByteArray) (f m k : Nat) : List Int := (List.range m).map fun j => match decide (j < k) with | true => full s f j | false => 0
theorem part_length (s : ByteArray) (f m k : Nat) : (part s f m k).length = m := by simp [part]
theorem part_get (s : ByteArray) (f m k j : Nat) (h : j < m) : (part s f m k)[j]? = some (match decide (j < k) with | true => full s f j | false => 0) := by simp [part, h]
theorem part_zero (s : ByteArray) (f m : Nat) : part s f m 0 = List.replicate m 0 := by
  apply List.ext_getElem?
  intro i
  by_cases h : i < m
  · rw [part_get _ _ _ _ _ h]; simp [h]
  · rw [List.getElem?_eq_none (by rw [part_length]; omega), List.getElem?_eq_none (by simp; omega)]
theorem part_all (s : ByteArray) (f m : Nat) : part s f m m = fullBytes s f m := by
  apply List.ext_getElem?
  intro i
  by_cases h : i < m
  · rw [part_get _ _ _ _ _ h, fullBytes_get _ _ _ _ h, decide_eq_true h]
  · rw [List.getElem?_eq_none (by rw [part_length]; omega), List.getElem?_eq_none (by rw [fullBytes_length]; omega)]
theorem part_succ (s : ByteArray) (f m k : Nat) (hk : k < m) : part s f m (k + 1) = (part s f m k).set k (full s (f + 8 * k) 0) := by
  apply List.ext_getElem?
  intro i
  by_cases h : i < m
  · rw [part_get _ _ _ _ _ h, List.getElem?_set, part_length]
    by_cases hik : k = i
    · subst hik
      rw [if_pos rfl, if_pos hk, decide_eq_true (Nat.lt_succ_self k), full_shift]
    · rw [if_neg hik, part_get _ _ _ _ _ h]
      have : decide (i < k + 1) = decide (i < k) := by simp; omega
      rw [this]
  · rw [List.getElem?_eq_none (by rw [part_length]; omega), List.getElem?_eq_none (by simp [part_length]; omega)]

end Go.Proofs.YtbljelopgalkgaaDoor
