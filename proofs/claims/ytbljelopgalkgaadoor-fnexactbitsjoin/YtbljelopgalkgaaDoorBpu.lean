/- Plain facts: which texts are rows of bits. -/
import Derived.Test.YtbljelopgalkgaaDoorBt
namespace Go.Proofs.YtbljelopgalkgaaDoor
open Go.RowKit

/-- The first tests. -/
abbrev okLen (n : Int) (s : ByteArray) : Prop := 0 ≤ n ∧ n ≤ 32000 ∧ (s.size : Int) = (n + 7) / 8
def okS (n : Int) (s : ByteArray) : Bool := decide (okLen n s) && ((strB (bitsOf s n.toNat)).toList == s.toList)

theorem okS_false {n : Int} {s : ByteArray} (h : ¬ okLen n s) : okS n s = false := by unfold okS; simp [h]
theorem okS_true {n : Int} {s : ByteArray} (h : okLen n s) : okS n s = ((strB (bitsOf s n.toNat)).toList == s.toList) := by unfold okS; simp [h]
theorem bits_01 (s : ByteArray) (n : Nat) : ∀ x ∈ bitsOf s n, x = 0 ∨ x = 1 := by
  intro x hx
  obtain ⟨i, _, rfl⟩ := List.mem_map.1 hx
  exact bit_01 s i

theorem ext_byt {a b : ByteArray} (hs : a.size = b.size) (h : ∀ j, j < a.size → byt a j = byt b j) : a = b := by
  apply ByteArray.ext
  apply Array.ext
  · exact hs
  · intro i h1 h2
    have := h i h1
    rw [byt_get a i h1, byt_get b i h2] at this
    have h3 : (a[i]'h1).toNat = (b[i]'h2).toNat := by omega
    exact UInt8.toNat_inj.1 h3

theorem strB_size (xs : List Int) : (strB xs).size = (xs.length + 7) / 8 := by unfold strB; rw [strOfNums_size, bytesAt_length]
theorem byt_strB (xs : List Int) (hx : ∀ x ∈ xs, x = 0 ∨ x = 1) (j : Nat) (hj : j < (xs.length + 7) / 8) : byt (strB xs) j = packed xs j (min 8 (xs.length - 8 * j)) := by
  have hb := bytesAt_bounds xs hx xs.length j
  rw [List.getD_eq_getElem?_getD, bytesAt_get _ _ _ hj, Option.getD_some] at hb
  unfold byt strB strOfNums
  simp only [List.getElem?_toArray, List.getElem?_map]
  rw [bytesAt_get _ _ _ hj]
  simp only [Option.map_some, Option.getD_some, UInt8.toNat_ofNat']
  omega

theorem low_zero (x : Int) (c : Nat) (hx0 : 0 ≤ x) (hx : x < 256) (hc : c ≤ 8) : x / 2 ^ (8 - c) * 2 ^ (8 - c) = x ↔ ∀ k, c ≤ k → k < 8 → x / 2 ^ (7 - k) % 2 = 0 := by
  have all : ∀ c : Fin 9, ∀ x : Fin 256, (x.val / 2 ^ (8 - c.val) * 2 ^ (8 - c.val) = x.val ↔ ∀ k : Fin 8, c.val ≤ k.val → x.val / 2 ^ (7 - k.val) % 2 = 0) := by decide +kernel
  obtain ⟨X, rfl⟩ := Int.eq_ofNat_of_zero_le hx0
  have h := all ⟨c, by omega⟩ ⟨X, by omega⟩
  have e1 : ((X : Int) / 2 ^ (8 - c) * 2 ^ (8 - c) = X) ↔ X / 2 ^ (8 - c) * 2 ^ (8 - c) = X := by
    rw [← Int.ofNat_inj]; simp
  have e2 : ∀ k, ((X : Int) / 2 ^ (7 - k) % 2 = 0) ↔ X / 2 ^ (7 - k) % 2 = 0 := fun k => by
    rw [← Int.ofNat_inj]; simp
  rw [e1, h]
  exact ⟨fun H k h1 h2 => (e2 k).2 (H ⟨k, h2⟩ h1), fun H k h1 => (e2 k).1 (H k h1 k.2)⟩

theorem toList_beq (a b : ByteArray) : (a.toList == b.toList) = true ↔ a = b := by
  constructor
  · intro h
    rw [ByteArray.toList_eq, ByteArray.toList_eq, beq_iff_eq] at h
    exact ByteArray.ext (Array.toList_inj.1 h)
  · rintro rfl; simp

theorem packed_bits (s : ByteArray) (N j c : Nat) (hc : 8 * j + c ≤ N) : packed (bitsOf s N) j c = pk (bit s) j c := by
  unfold packed
  apply pk_congr
  intro k hk
  rw [List.getD_eq_getElem?_getD, bitsOf_get s N _ (by omega)]
  rfl

/-- Which rows are rows of bits. -/
theorem okS_iff (N : Nat) (s : ByteArray) (h : okLen N s) : okS N s = true ↔ ∀ i, N ≤ i → i < 8 * s.size → bit s i = 0 := by
  rw [okS_true h, toList_beq, Int.toNat_natCast]
  have hs : s.size = (N + 7) / 8 := by have := h.2.2; omega
  have hl : (bitsOf s N).length = N := bitsOf_length s N
  constructor
  · intro he i h1 h2
    have hj : i / 8 < (N + 7) / 8 := by omega
    have hb := byt_strB (bitsOf s N) (bits_01 s N) (i / 8) (by rw [hl]; exact hj)
    rw [he, hl, packed_bits s N (i / 8) _ (by omega), pk_bit s (i / 8) _ (by omega)] at hb
    have := (low_zero (byt s (i / 8)) (min 8 (N - 8 * (i / 8))) (byt_lo _ _) (byt_hi _ _) (by omega)).1 hb.symm (i % 8) (by omega) (by omega)
    exact this
  · intro H
    apply ext_byt
    · rw [strB_size, hl, hs]
    · intro j hj
      rw [strB_size, hl] at hj
      rw [byt_strB (bitsOf s N) (bits_01 s N) j (by rw [hl]; exact hj), hl, packed_bits s N j _ (by omega), pk_bit s j _ (by omega)]
      rw [low_zero (byt s j) (min 8 (N - 8 * j)) (byt_lo _ _) (byt_hi _ _) (by omega)]
      intro k h1 h2
      have := H (8 * j + k) (by omega) (by omega)
      unfold bit at this
      rw [show (8 * j + k) / 8 = j by omega, show (8 * j + k) % 8 = k by omega] at this
      exact this

end Go.Proofs.YtbljelopgalkgaaDoor
