/- Plain facts on bits and bytes: a byte is a number from 0 to 255, its bit k has the worth 2 to the 7 - k. Nothing of the program is named here. -/
import Derived.Test.YthikciimaegphaaGreatDoorQ1
import Derived.WalkKit
namespace Go.Proofs.YthikciimaegphaaGreatDoor
open Go.RowKit

/-- Byte j of a text, 0 behind its end. -/
def byt (s : ByteArray) (j : Nat) : Int := ((s.data[j]?.getD 0).toNat : Int)
/-- Bit i of a text. -/
def bit (s : ByteArray) (i : Nat) : Int := byt s (i / 8) / 2 ^ (7 - i % 8) % 2
/-- The first n bits of a text. -/
def bitsOf (s : ByteArray) (n : Nat) : List Int := (List.range n).map (bit s)

theorem byt_lo (s : ByteArray) (j : Nat) : 0 ≤ byt s j := by unfold byt; omega
theorem byt_hi (s : ByteArray) (j : Nat) : byt s j < 256 := by unfold byt; have := (s.data[j]?.getD 0).toNat_lt; omega
theorem byt_get (s : ByteArray) (j : Nat) (h : j < s.size) : byt s j = ((s[j]'h).toNat : Int) := by
  unfold byt
  rw [Array.getElem?_eq_getElem (show j < s.data.size from h)]
  rfl
theorem bit_01 (s : ByteArray) (i : Nat) : bit s i = 0 ∨ bit s i = 1 := by unfold bit; omega
theorem bitsOf_succ (s : ByteArray) (n : Nat) : bitsOf s (n + 1) = bitsOf s n ++ [bit s n] := by simp [bitsOf, List.range_succ]
theorem bitsOf_length (s : ByteArray) (n : Nat) : (bitsOf s n).length = n := by simp [bitsOf]
theorem bitsOf_get (s : ByteArray) (n i : Nat) (h : i < n) : (bitsOf s n)[i]? = some (bit s i) := by simp [bitsOf, h]

/-- The byte that the bits f make from bit 8 j on, the first c of them. -/
def pk (f : Nat → Int) (j : Nat) : Nat → Int
  | 0 => 0
  | c + 1 => pk f j c + f (8 * j + c) * 2 ^ (7 - c)

/-- The bytes that the bits of a list make. -/
def packed (xs : List Int) (j c : Nat) : Int := pk (fun i => xs.getD i 0) j c

theorem pk_bounds (f : Nat → Int) (hf : ∀ i, f i = 0 ∨ f i = 1) (j : Nat) : ∀ c, c ≤ 8 → 0 ≤ pk f j c ∧ pk f j c ≤ 256 - 2 ^ (8 - c) ∧ pk f j c % 2 ^ (8 - c) = 0
  | 0, _ => by simp [pk]
  | c + 1, h => by
    obtain ⟨h1, h2, h3⟩ := pk_bounds f hf j c (by omega)
    have h4 := hf (8 * j + c)
    simp only [pk]
    have hc : c = 0 ∨ c = 1 ∨ c = 2 ∨ c = 3 ∨ c = 4 ∨ c = 5 ∨ c = 6 ∨ c = 7 := by omega
    rcases hc with rfl | rfl | rfl | rfl | rfl | rfl | rfl | rfl <;> rcases h4 with h4 | h4 <;> rw [h4] <;> simp at h1 h2 h3 ⊢ <;> omega

theorem pk_congr {f g : Nat → Int} (j : Nat) : ∀ c, (∀ k, k < c → f (8 * j + k) = g (8 * j + k)) → pk f j c = pk g j c
  | 0, _ => rfl
  | c + 1, h => by simp only [pk]; rw [pk_congr j c fun k hk => h k (by omega), h c (by omega)]

/-- The first c bits of byte x, with 0 behind them. -/
theorem pk_bit (s : ByteArray) (j : Nat) : ∀ c, c ≤ 8 → pk (bit s) j c = byt s j / 2 ^ (8 - c) * 2 ^ (8 - c)
  | 0, _ => by have := byt_lo s j; have := byt_hi s j; simp [pk]; omega
  | c + 1, h => by
    have ih := pk_bit s j c (by omega)
    have h1 := byt_lo s j
    have h2 := byt_hi s j
    simp only [pk]
    rw [ih]
    have e1 : (8 * j + c) / 8 = j := by omega
    have e2 : (8 * j + c) % 8 = c := by omega
    unfold bit
    rw [e1, e2]
    generalize byt s j = x at h1 h2
    have hc : c = 0 ∨ c = 1 ∨ c = 2 ∨ c = 3 ∨ c = 4 ∨ c = 5 ∨ c = 6 ∨ c = 7 := by omega
    rcases hc with rfl | rfl | rfl | rfl | rfl | rfl | rfl | rfl <;> simp <;> omega

/-- The or of a byte and a bit that is not in it. -/
theorem or_add (c : Nat) (hc : c < 8) (x y : Int) (hx0 : 0 ≤ x) (hx : x < 256) (hm : x % 2 ^ (8 - c) = 0) (hy : y = 0 ∨ y = 1) : bits .or .u8 x (y * 2 ^ (7 - c)) = x + y * 2 ^ (7 - c) := by
  have all : ∀ c : Fin 8, ∀ x : Fin 256, x.val % 2 ^ (8 - c.val) = 0 → x.val ||| 2 ^ (7 - c.val) = x.val + 2 ^ (7 - c.val) := by decide +kernel
  have hp : (2 : Int) ^ (7 - c) = ((2 ^ (7 - c) : Nat) : Int) := by simp
  have hp8 : 2 ^ (7 - c) ≤ 128 := by
    have : 2 ^ (7 - c) ≤ 2 ^ 7 := Nat.pow_le_pow_right (by omega) (by omega)
    simpa using this
  obtain ⟨X, rfl⟩ := Int.eq_ofNat_of_zero_le hx0
  rcases hy with rfl | rfl
  · rw [Int.zero_mul, show (0 : Int) = ((0 : Nat) : Int) by rfl, u8_or_nat X 0 (by omega) (by omega)]; simp
  · have h1 := all ⟨c, hc⟩ ⟨X, by omega⟩ (by
      have : ((X % 2 ^ (8 - c) : Nat) : Int) = 0 := by rw [Int.natCast_emod]; simpa using hm
      exact_mod_cast this)
    rw [Int.one_mul, hp, u8_or_nat X _ (by omega) (by omega), h1]
    simp

theorem one_bit (x : Int) (k : Nat) (hx0 : 0 ≤ x) (hx : x < 256) : bits .and .u8 (x / 2 ^ k) 1 = x / 2 ^ k % 2 := by
  have hp : 0 < (2 : Int) ^ k := Int.pow_pos (by decide)
  have h1 : 0 ≤ x / 2 ^ k := Int.ediv_nonneg hx0 (Int.le_of_lt hp)
  have h2 : x / 2 ^ k < 256 := Int.lt_of_le_of_lt (Int.ediv_le_self _ hx0) hx
  rw [u8_and _ _ h1 h2 (by decide) (by decide)]
  rw [show (1 : Int).toNat = 1 by rfl, Nat.and_one_is_mod]
  omega

theorem bit_walk (s : ByteArray) (k : Nat) (h : k / 8 < s.size) : bits .and .u8 (((s[k / 8]'h).toNat : Int) / 2 ^ (7 - k % 8)) 1 = bit s k := by
  rw [← byt_get s (k / 8) h, one_bit _ _ (byt_lo _ _) (byt_hi _ _)]
  rfl

theorem two_new (w : World) (a b : Value) (t : TypeId) : (w.alloc (.cells #[a, b] t)).cell? ⟨w.heap.size, 0, none⟩ = some a ∧ (w.alloc (.cells #[a, b] t)).cell? ⟨w.heap.size, 1, none⟩ = some b :=
  ⟨cell_of_heap (heap_new _ _) 0, cell_of_heap (heap_new _ _) 1⟩
/-- The two cells of a boxed struct later. -/
theorem box2 (w : World) (a b : Value) (e : TypeId) {w' : World} (h : Below (w.heap.size + 1) (w.alloc (.cells #[a, b] e)) w') : w'.cell? ⟨w.heap.size, 0, none⟩ = some a ∧ w'.cell? ⟨w.heap.size, 1, none⟩ = some b := by
  have hh := (h.block w.heap.size (by omega)).trans (heap_new _ _)
  exact ⟨cell_of_heap hh 0, cell_of_heap hh 1⟩

/-- The masks of a byte's bits lie in block G. -/
def Masks (G : Nat) (w : World) : Prop := G < w.heap.size ∧ ∀ k, k < 8 → w.cell? ⟨G, k, none⟩ = some (.int .u8 (2 ^ (7 - k)))
theorem Masks.keep {G : Nat} {w w' : World} (h : Masks G w) (hb : Below w.heap.size w w') : Masks G w' :=
  ⟨Nat.lt_of_lt_of_le h.1 hb.size, fun k hk => (hb.cell (p := ⟨G, k, none⟩) h.1).trans (h.2 k hk)⟩

theorem mask_lo (k : Nat) : (0 : Int) < 2 ^ (7 - k) := Int.pow_pos (by decide)
theorem mask_hi (k : Nat) : (2 : Int) ^ (7 - k) < 256 := by
  have h : ((2 ^ (7 - k) : Nat) : Int) ≤ ((2 ^ 7 : Nat) : Int) := Int.ofNat_le.2 (Nat.pow_le_pow_right (by decide) (by omega))
  have h1 : ((2 ^ (7 - k) : Nat) : Int) = 2 ^ (7 - k) := by simp
  rw [h1] at h
  omega
theorem and_mask (x : Int) (k : Nat) (hx0 : 0 ≤ x) (hx : x < 256) : bits .and .u8 x (2 ^ (7 - k)) = x / 2 ^ (7 - k) % 2 * 2 ^ (7 - k) := by
  rw [u8_and _ _ hx0 hx (Int.le_of_lt (mask_lo k)) (mask_hi k)]
  obtain ⟨X, rfl⟩ := Int.eq_ofNat_of_zero_le hx0
  rw [Int.toNat_natCast, toNat_two_pow, nat_bit]
  simp
theorem and_mask_ne (x : Int) (k : Nat) (hx0 : 0 ≤ x) (hx : x < 256) : (bits .and .u8 x (2 ^ (7 - k)) != 0) = decide (x / 2 ^ (7 - k) % 2 = 1) := by
  rw [and_mask x k hx0 hx]
  have h0 := mask_lo k
  have h2 : x / 2 ^ (7 - k) % 2 = 0 ∨ x / 2 ^ (7 - k) % 2 = 1 := by omega
  rcases h2 with h2 | h2
  · rw [h2]; simp
  · rw [h2]; simp; omega
/-- The test of a bit by its mask. -/
theorem set_walk (s : ByteArray) (k : Nat) (h : k / 8 < s.size) : (bits .and .u8 ((s[k / 8]'h).toNat : Int) (2 ^ (7 - k % 8)) != 0) = decide (bit s k = 1) := by
  rw [← byt_get s (k / 8) h, and_mask_ne _ _ (byt_lo _ _) (byt_hi _ _)]
  rfl

/-- What a row owns above a base it owns above a lower one. -/
theorem ownsRow_base {w : World} {b b' : Nat} {e : TypeId} {size : Nat} {v : Value} {n : Nat} {xs : List Value} (h : w.ownsRow b e size v n xs) (hb : b' ≤ b) : w.ownsRow b' e size v n xs := by
  rcases h with ⟨h1, h2 | ⟨g, cap, cur, h2, h3, h4⟩⟩
  · exact ⟨h1, .inl h2⟩
  · exact ⟨h1, .inr ⟨g, cap, cur, h2, by omega, h4⟩⟩

/-- A slice of bytes: the numbers xs lie in a row. -/
def RowAt (w : World) (v : Value) (xs : List Int) : Prop := ∃ a cap, v = .slice a xs.length cap ∧ xs.length ≤ cap ∧
  ∀ i, i < xs.length → ∃ b off, a = some ⟨b, off, none⟩ ∧ b < w.heap.size ∧ w.cell? ⟨b, off + i, none⟩ = some (.int .u8 (xs.getD i 0))

theorem RowAt.keep {w w' : World} {v : Value} {xs : List Int} (h : RowAt w v xs) (hb : Below w.heap.size w w') : RowAt w' v xs := by
  obtain ⟨a, cap, h1, h2, h3⟩ := h
  refine ⟨a, cap, h1, h2, fun i hi => ?_⟩
  obtain ⟨b, off, h4, h5, h6⟩ := h3 i hi
  exact ⟨b, off, h4, Nat.lt_of_lt_of_le h5 hb.size, (hb.cell (p := ⟨b, off + i, none⟩) h5).trans h6⟩

theorem RowAt.of_own {w : World} {base : Nat} {e : TypeId} {v : Value} {xs : List Int} (h : w.ownsRow base e 1 v xs.length (xs.map (Value.int .u8))) : RowAt w v xs := by
  have hc := fun g => h.cells (g := g)
  have hlt := h.lt
  rcases h with ⟨h1, ⟨rfl, h2⟩ | ⟨g, cap, cur, rfl, h3, h4, h5, h6, h7, h8⟩⟩
  · exact ⟨none, 0, by rw [h2], by omega, fun i hi => by omega⟩
  · refine ⟨_, _, rfl, h5, fun i hi => ⟨g, 0, rfl, (hlt g rfl).2, ?_⟩⟩
    have := hc g rfl i (.int .u8 (xs.getD i 0)) (by rw [List.getElem?_map, List.getElem?_eq_getElem hi]; simp [hi])
    have hp : (⟨g, 0, none⟩ : Addr).add i = ⟨g, 0 + i, none⟩ := by unfold Addr.add; split <;> simp_all
    rw [hp] at this
    exact this

/-- The bytes that the first k bits of xs make, as many bytes as all bits want. -/
def bytesAt (xs : List Int) (k : Nat) : List Int := (List.range ((xs.length + 7) / 8)).map fun j => packed xs j (min 8 (k - 8 * j))
/-- The text that bits make. -/
def strB (xs : List Int) : ByteArray := strOfNums (bytesAt xs xs.length)

theorem bytesAt_length (xs : List Int) (k : Nat) : (bytesAt xs k).length = (xs.length + 7) / 8 := by simp [bytesAt]
theorem bytesAt_get (xs : List Int) (k j : Nat) (h : j < (xs.length + 7) / 8) : (bytesAt xs k)[j]? = some (packed xs j (min 8 (k - 8 * j))) := by simp [bytesAt, h]
theorem bytesAt_zero (xs : List Int) : bytesAt xs 0 = List.replicate ((xs.length + 7) / 8) 0 := by
  apply List.ext_getElem?
  intro i
  by_cases h : i < (xs.length + 7) / 8
  · rw [bytesAt_get _ _ _ h]; simp [h, packed, pk]
  · rw [List.getElem?_eq_none (by rw [bytesAt_length]; omega), List.getElem?_eq_none (by simp; omega)]

theorem getD_01 {xs : List Int} (hx : ∀ x ∈ xs, x = 0 ∨ x = 1) (i : Nat) : xs.getD i 0 = 0 ∨ xs.getD i 0 = 1 := by
  by_cases h : i < xs.length
  · have := hx _ (List.getElem_mem h); simpa [h] using this
  · simp [List.getElem?_eq_none (by omega : xs.length ≤ i)]

/-- What a round does: the byte that bit k belongs to gets it. -/
theorem bytesAt_succ (xs : List Int) (hx : ∀ x ∈ xs, x = 0 ∨ x = 1) (k : Nat) (hk : k < xs.length) :
    bytesAt xs (k + 1) = (bytesAt xs k).set (k / 8) (bits .or .u8 ((bytesAt xs k).getD (k / 8) 0) (xs.getD k 0 * 2 ^ (7 - k % 8))) := by
  have hj : k / 8 < (xs.length + 7) / 8 := by omega
  have hb := getD_01 hx
  apply List.ext_getElem?
  intro i
  by_cases h : i < (xs.length + 7) / 8
  · rw [bytesAt_get _ _ _ h, List.getElem?_set]
    by_cases hi : k / 8 = i
    · subst hi
      rw [if_pos rfl, if_pos (by rw [bytesAt_length]; omega), List.getD_eq_getElem?_getD, bytesAt_get _ _ _ h, Option.getD_some]
      have e1 : min 8 (k + 1 - 8 * (k / 8)) = k % 8 + 1 := by omega
      have e2 : min 8 (k - 8 * (k / 8)) = k % 8 := by omega
      have e3 : 8 * (k / 8) + k % 8 = k := by omega
      rw [e1, e2]
      have hp := pk_bounds (fun i => xs.getD i 0) hb (k / 8) (k % 8) (by omega)
      have h2 : (1 : Int) ≤ 2 ^ (8 - k % 8) := Int.pow_pos (by decide)
      unfold packed
      rw [or_add (k % 8) (by omega) _ _ hp.1 (by omega) hp.2.2 (hb k)]
      simp only [pk, e3]
    · rw [if_neg hi, bytesAt_get _ _ _ h]
      have : min 8 (k + 1 - 8 * i) = min 8 (k - 8 * i) := by omega
      rw [this]
  · rw [List.getElem?_eq_none (by rw [bytesAt_length]; omega), List.getElem?_eq_none (by simp [bytesAt_length]; omega)]

theorem bit_mod (x : Int) (hx : x = 0 ∨ x = 1) (m : Nat) : x * 2 ^ (7 - m) % 256 = x * 2 ^ (7 - m) := by
  have h : ((2 ^ (7 - m) : Nat) : Int) ≤ ((2 ^ 7 : Nat) : Int) := Int.ofNat_le.2 (Nat.pow_le_pow_right (by decide) (by omega))
  have h0 : (0 : Int) < 2 ^ (7 - m) := Int.pow_pos (by decide)
  have h1 : ((2 ^ (7 - m) : Nat) : Int) = 2 ^ (7 - m) := by simp
  rw [h1] at h
  rcases hx with rfl | rfl
  · simp
  · rw [Int.one_mul]; exact Int.emod_eq_of_lt (by omega) (by omega)

theorem set_getD (xs : List Int) (j : Nat) (u : Int) (h : j < xs.length) : (xs.set j u).getD j 0 = u := by simp [h]

theorem bytesAt_bounds (xs : List Int) (hx : ∀ x ∈ xs, x = 0 ∨ x = 1) (k j : Nat) : 0 ≤ (bytesAt xs k).getD j 0 ∧ (bytesAt xs k).getD j 0 < 256 := by
  by_cases h : j < (xs.length + 7) / 8
  · rw [List.getD_eq_getElem?_getD, bytesAt_get _ _ _ h, Option.getD_some]
    have hp := pk_bounds (fun i => xs.getD i 0) (getD_01 hx) j (min 8 (k - 8 * j)) (by omega)
    have h2 : (1 : Int) ≤ 2 ^ (8 - min 8 (k - 8 * j)) := Int.pow_pos (by decide)
    unfold packed
    exact ⟨hp.1, by omega⟩
  · rw [List.getD_eq_getElem?_getD, List.getElem?_eq_none (by rw [bytesAt_length]; omega)]; simp

end Go.Proofs.YthikciimaegphaaGreatDoor
/- Plain facts: which texts are rows of bits. -/
namespace Go.Proofs.YthikciimaegphaaGreatDoor
open Go.RowKit

/-- The first tests. -/
abbrev okLen (n : Int) (s : ByteArray) : Prop := 0 ≤ n ∧ n ≤ 32000 ∧ (s.size : Int) = (n + 7) / 8
def okS (n : Int) (s : ByteArray) : Bool := decide (okLen n s) && ((strB (bitsOf s n.toNat)).toList == s.toList)

theorem okS_false {n : Int} {s : ByteArray} (h : ¬ okLen n s) : okS n s = false := by unfold okS; simp [h]
theorem okS_true {n : Int} {s : ByteArray} (h : okLen n s) : okS n s = ((strB (bitsOf s n.toNat)).toList == s.toList) := by unfold okS; simp [h]
theorem bits_01 (s : ByteArray) (n : Nat) : ∀ x ∈ bitsOf s n, x = 0 ∨ x = 1 := by
  intro x hx
  obtain ⟨i, _, rfl⟩ := List.mem_map.1 hx
  exact bit_01 s i

theorem ext_byt {a b : ByteArray} (hs : a.size = b.size) (h : ∀ j, j < a.size → byt a j = byt b j) : a = b := by
  apply ByteArray.ext
  apply Array.ext
  · exact hs
  · intro i h1 h2
    have := h i h1
    rw [byt_get a i h1, byt_get b i h2] at this
    have h3 : (a[i]'h1).toNat = (b[i]'h2).toNat := by omega
    exact UInt8.toNat_inj.1 h3

theorem strB_size (xs : List Int) : (strB xs).size = (xs.length + 7) / 8 := by unfold strB; rw [strOfNums_size, bytesAt_length]
theorem byt_strB (xs : List Int) (hx : ∀ x ∈ xs, x = 0 ∨ x = 1) (j : Nat) (hj : j < (xs.length + 7) / 8) : byt (strB xs) j = packed xs j (min 8 (xs.length - 8 * j)) := by
  have hb := bytesAt_bounds xs hx xs.length j
  rw [List.getD_eq_getElem?_getD, bytesAt_get _ _ _ hj, Option.getD_some] at hb
  unfold byt strB strOfNums
  simp only [List.getElem?_toArray, List.getElem?_map]
  rw [bytesAt_get _ _ _ hj]
  simp only [Option.map_some, Option.getD_some, UInt8.toNat_ofNat']
  omega

theorem low_zero (x : Int) (c : Nat) (hx0 : 0 ≤ x) (hx : x < 256) (hc : c ≤ 8) : x / 2 ^ (8 - c) * 2 ^ (8 - c) = x ↔ ∀ k, c ≤ k → k < 8 → x / 2 ^ (7 - k) % 2 = 0 := by
  have all : ∀ c : Fin 9, ∀ x : Fin 256, (x.val / 2 ^ (8 - c.val) * 2 ^ (8 - c.val) = x.val ↔ ∀ k : Fin 8, c.val ≤ k.val → x.val / 2 ^ (7 - k.val) % 2 = 0) := by decide +kernel
  obtain ⟨X, rfl⟩ := Int.eq_ofNat_of_zero_le hx0
  have h := all ⟨c, by omega⟩ ⟨X, by omega⟩
  have e1 : ((X : Int) / 2 ^ (8 - c) * 2 ^ (8 - c) = X) ↔ X / 2 ^ (8 - c) * 2 ^ (8 - c) = X := by
    rw [← Int.ofNat_inj]; simp
  have e2 : ∀ k, ((X : Int) / 2 ^ (7 - k) % 2 = 0) ↔ X / 2 ^ (7 - k) % 2 = 0 := fun k => by
    rw [← Int.ofNat_inj]; simp
  rw [e1, h]
  exact ⟨fun H k h1 h2 => (e2 k).2 (H ⟨k, h2⟩ h1), fun H k h1 => (e2 k).1 (H k h1 k.2)⟩

theorem toList_beq (a b : ByteArray) : (a.toList == b.toList) = true ↔ a = b := by
  constructor
  · intro h
    rw [ByteArray.toList_eq, ByteArray.toList_eq, beq_iff_eq] at h
    exact ByteArray.ext (Array.toList_inj.1 h)
  · rintro rfl; simp

theorem packed_bits (s : ByteArray) (N j c : Nat) (hc : 8 * j + c ≤ N) : packed (bitsOf s N) j c = pk (bit s) j c := by
  unfold packed
  apply pk_congr
  intro k hk
  rw [List.getD_eq_getElem?_getD, bitsOf_get s N _ (by omega)]
  rfl

/-- Which rows are rows of bits. -/
theorem okS_iff (N : Nat) (s : ByteArray) (h : okLen N s) : okS N s = true ↔ ∀ i, N ≤ i → i < 8 * s.size → bit s i = 0 := by
  rw [okS_true h, toList_beq, Int.toNat_natCast]
  have hs : s.size = (N + 7) / 8 := by have := h.2.2; omega
  have hl : (bitsOf s N).length = N := bitsOf_length s N
  constructor
  · intro he i h1 h2
    have hj : i / 8 < (N + 7) / 8 := by omega
    have hb := byt_strB (bitsOf s N) (bits_01 s N) (i / 8) (by rw [hl]; exact hj)
    rw [he, hl, packed_bits s N (i / 8) _ (by omega), pk_bit s (i / 8) _ (by omega)] at hb
    have := (low_zero (byt s (i / 8)) (min 8 (N - 8 * (i / 8))) (byt_lo _ _) (byt_hi _ _) (by omega)).1 hb.symm (i % 8) (by omega) (by omega)
    exact this
  · intro H
    apply ext_byt
    · rw [strB_size, hl, hs]
    · intro j hj
      rw [strB_size, hl] at hj
      rw [byt_strB (bitsOf s N) (bits_01 s N) j (by rw [hl]; exact hj), hl, packed_bits s N j _ (by omega), pk_bit s j _ (by omega)]
      rw [low_zero (byt s j) (min 8 (N - 8 * j)) (byt_lo _ _) (byt_hi _ _) (by omega)]
      intro k h1 h2
      have := H (8 * j + k) (by omega) (by omega)
      unfold bit at this
      rw [show (8 * j + k) / 8 = j by omega, show (8 * j + k) % 8 = k by omega] at this
      exact this

end Go.Proofs.YthikciimaegphaaGreatDoor
/- Plain facts: a number's bits, in the order in which a field has them. -/
namespace Go.Proofs.YthikciimaegphaaGreatDoor
open Go.RowKit

/-- Which power of 2 bit i of a field stands for. -/
def pw (size : Nat) (little : Bool) (i : Nat) : Nat := match little with
  | true => min (i - i % 8 + 8) size - 1 - i % 8
  | false => size - 1 - i
def lowBits (v : Int) (n : Nat) : List Int := (List.range n).map fun i => v / 2 ^ i % 2
def putBits (v : Int) (size : Nat) (little : Bool) : List Int := (List.range size).map fun i => v / 2 ^ pw size little i % 2

theorem lowBits_succ (v : Int) (n : Nat) : lowBits v (n + 1) = lowBits v n ++ [v / 2 ^ n % 2] := by simp [lowBits, List.range_succ]
theorem lowBits_length (v : Int) (n : Nat) : (lowBits v n).length = n := by simp [lowBits]
theorem lowBits_get (v : Int) (n i : Nat) (h : i < n) : (lowBits v n)[i]? = some (v / 2 ^ i % 2) := by simp [lowBits, h]
theorem putBits_length (v : Int) (n : Nat) (l : Bool) : (putBits v n l).length = n := by simp [putBits]
theorem putBits_get (v : Int) (n : Nat) (l : Bool) (i : Nat) (h : i < n) : (putBits v n l)[i]? = some (v / 2 ^ pw n l i % 2) := by simp [putBits, h]
theorem putBits_01 (v : Int) (n : Nat) (l : Bool) : ∀ x ∈ putBits v n l, x = 0 ∨ x = 1 := by
  intro x hx
  obtain ⟨i, _, rfl⟩ := List.mem_map.1 hx
  omega
theorem putBits_take (v : Int) (n : Nat) (l : Bool) (k : Nat) (h : k < n) : (putBits v n l).take (k + 1) = (putBits v n l).take k ++ [v / 2 ^ pw n l k % 2] := by
  have hl : k < (putBits v n l).length := by rw [putBits_length]; exact h
  rw [List.take_succ_eq_append_getElem hl]
  have := putBits_get v n l k h
  rw [List.getElem?_eq_getElem hl] at this
  rw [Option.some.inj this]
theorem half (v : Int) (k : Nat) : v / 2 ^ k / 2 = v / 2 ^ (k + 1) := by
  have h : (0 : Int) ≤ 2 ^ k := Int.le_of_lt (Int.pow_pos (by decide))
  rw [Int.ediv_ediv_of_nonneg h, Int.pow_succ]


theorem and_one (x : Int) : bits .and .i64 x 1 = x % 2 := by
  show IntKind.i64.wrap ((BitVec.ofInt 64 x &&& BitVec.ofInt 64 1).toNat : Int) = _
  rw [BitVec.toNat_and, show (BitVec.ofInt 64 1).toNat = 1 by rfl, Nat.and_one_is_mod, BitVec.toNat_ofInt, IntKind.wrap_i64]
  omega
theorem low_elem (x : Int) : bits .and .i64 x 1 % 256 = x % 2 := by rw [and_one]; omega

theorem lowBits_getD (v : Int) (n i : Nat) (h : i < n) : (lowBits v n).getD i 0 = v / 2 ^ i % 2 := by
  rw [List.getD_eq_getElem?_getD, lowBits_get v n i h]; rfl

theorem pw_big (size q : Nat) (h : q < size) : pw size false (size - (q + 1)) = q := by unfold pw; simp only; omega
theorem pw_little (size p q : Nat) (h0 : 8 * p ≤ q) (h1 : q < 8 * p + 8) (h2 : q < size) : pw size true (8 * p + (min (8 * p + 8) size - (q + 1))) = q := by
  unfold pw; simp only
  have : (8 * p + (min (8 * p + 8) size - (q + 1))) % 8 = min (8 * p + 8) size - (q + 1) := by omega
  rw [this]
  omega

theorem bytesAt_one (xs : List Int) (hx : ∀ x ∈ xs, x = 0 ∨ x = 1) (k : Nat) (hk : k < xs.length) (h1 : xs.getD k 0 = 1) :
    bytesAt xs (k + 1) = (bytesAt xs k).set (k / 8) (bits .or .u8 ((bytesAt xs k).getD (k / 8) 0) (2 ^ (7 - k % 8))) := by
  rw [bytesAt_succ xs hx k hk, h1, Int.one_mul]
theorem bytesAt_skip (xs : List Int) (hx : ∀ x ∈ xs, x = 0 ∨ x = 1) (k : Nat) (hk : k < xs.length) (h0 : xs.getD k 0 = 0) : bytesAt xs (k + 1) = bytesAt xs k := by
  have hb := bytesAt_bounds xs hx k (k / 8)
  have hl : k / 8 < (bytesAt xs k).length := by rw [bytesAt_length]; omega
  rw [bytesAt_succ xs hx k hk, h0, Int.zero_mul]
  obtain ⟨Y, hY⟩ := Int.eq_ofNat_of_zero_le hb.1
  have e : bits .or .u8 ((bytesAt xs k).getD (k / 8) 0) 0 = (bytesAt xs k).getD (k / 8) 0 := by
    rw [hY, show (0 : Int) = ((0 : Nat) : Int) by rfl, u8_or_nat Y 0 (by omega) (by omega), Nat.or_zero]
  rw [e, List.getD_eq_getElem?_getD, List.getElem?_eq_getElem hl, Option.getD_some, List.set_getElem_self]
theorem putBits_getD (v : Int) (n : Nat) (l : Bool) (i : Nat) (h : i < n) : (putBits v n l).getD i 0 = v / 2 ^ pw n l i % 2 := by
  rw [List.getD_eq_getElem?_getD, putBits_get v n l i h]; rfl
theorem pw_lt (size : Nat) (l : Bool) (i : Nat) (h : i < size) : pw size l i < size := by
  unfold pw; cases l <;> simp only <;> omega

/-- What a row owns it owns where no old block has turned. -/
theorem ownsRow_below {w w' : World} {b : Nat} {e : TypeId} {size : Nat} {v : Value} {n : Nat} {xs : List Value} (h : w.ownsRow b e size v n xs) (hb : Below w.heap.size w w') : w'.ownsRow b e size v n xs := by
  have hlt := h.lt
  rcases h with ⟨h1, h2 | ⟨g, cap, cur, rfl, h3, h4, h5⟩⟩
  · exact ⟨h1, .inl h2⟩
  · exact ⟨h1, .inr ⟨g, cap, cur, rfl, h3, (hb.block g (hlt g rfl).2).trans h4, h5⟩⟩

theorem own_cell {w : World} {b : Nat} {e : TypeId} {g n c : Nat} {ys : List Int} (h : w.ownsRow b e 1 (.slice (some ⟨g, 0, none⟩) n c) n (ys.map (Value.int .u8))) (j : Nat) (hj : j < n) : w.cell? ⟨g, j, none⟩ = some (.int .u8 (ys.getD j 0)) := by
  have h1 := h.1
  rcases h.2 with ⟨h', _⟩ | ⟨g', cap', cur, h', _⟩
  · simp at h'
  · simp only [Value.slice.injEq] at h'
    have hc := h'.2.2
    have hk : w.ownsRow b e 1 (.slice (some ⟨g, 0, none⟩) n c) n (ys.map (Value.int .u8)) := h
    rw [hk.cellAt j (by omega), List.getElem?_map]
    have hl : j < ys.length := by simp at h1; omega
    rw [List.getElem?_eq_getElem hl]
    simp [hl]
theorem own_set {w : World} {b : Nat} {e : TypeId} {g n c : Nat} {ys : List Int} (h : w.ownsRow b e 1 (.slice (some ⟨g, 0, none⟩) n c) n (ys.map (Value.int .u8))) (j : Nat) (u : Int) :
    (w.setCell ⟨g, j, none⟩ (.int .u8 u)).ownsRow b e 1 (.slice (some ⟨g, 0, none⟩) n c) n ((ys.set j u).map (Value.int .u8)) := by
  have := (h.stored j (.int .u8 u)).1
  rw [List.map_set]; exact this

theorem box3 (w : World) (a b c : Value) (e : TypeId) {w' : World} {B : Nat} (hB : w.heap.size < B) (h : Below B (w.alloc (.cells #[a, b, c] e)) w') :
    w'.cell? ⟨w.heap.size, 0, none⟩ = some a ∧ w'.cell? ⟨w.heap.size, 1, none⟩ = some b ∧ w'.cell? ⟨w.heap.size, 2, none⟩ = some c := by
  have hh := (h.block w.heap.size hB).trans (heap_new _ _)
  exact ⟨cell_of_heap hh 0, cell_of_heap hh 1, cell_of_heap hh 2⟩

end Go.Proofs.YthikciimaegphaaGreatDoor
