/- Plain facts: a number's bits, in the order in which a field has them. -/
import Derived.Test.YtbljelopgalkgaaDoorBpu
namespace Go.Proofs.YtbljelopgalkgaaDoor
open Go.RowKit

/-- Which power of 2 bit i of a field stands for. -/
def pw (size : Nat) (little : Bool) (i : Nat) : Nat := match little with
  | true => min (i - i % 8 + 8) size - 1 - i % 8
  | false => size - 1 - i
def lowBits (v : Int) (n : Nat) : List Int := (List.range n).map fun i => v / 2 ^ i % 2
def putBits (v : Int) (size : Nat) (little : Bool) : List Int := (List.range size).map fun i => v / 2 ^ pw size little i % 2

theorem lowBits_succ (v : Int) (n : Nat) : lowBits v (n + 1) = lowBits v n ++ [v / 2 ^ n % 2] := by simp [lowBits, List.range_succ]
theorem lowBits_length (v : Int) (n : Nat) : (lowBits v n).length = n := by simp [lowBits]
theorem lowBits_get (v : Int) (n i : Nat) (h : i < n) : (lowBits v n)[i]? = some (v / 2 ^ i % 2) := by simp [lowBits, h]
theorem putBits_length (v : Int) (n : Nat) (l : Bool) : (putBits v n l).length = n := by simp [putBits]
theorem putBits_get (v : Int) (n : Nat) (l : Bool) (i : Nat) (h : i < n) : (putBits v n l)[i]? = some (v / 2 ^ pw n l i % 2) := by simp [putBits, h]
theorem putBits_01 (v : Int) (n : Nat) (l : Bool) : ∀ x ∈ putBits v n l, x = 0 ∨ x = 1 := by
  intro x hx
  obtain ⟨i, _, rfl⟩ := List.mem_map.1 hx
  omega
theorem putBits_take (v : Int) (n : Nat) (l : Bool) (k : Nat) (h : k < n) : (putBits v n l).take (k + 1) = (putBits v n l).take k ++ [v / 2 ^ pw n l k % 2] := by
  have hl : k < (putBits v n l).length := by rw [putBits_length]; exact h
  rw [List.take_succ_eq_append_getElem hl]
  have := putBits_get v n l k h
  rw [List.getElem?_eq_getElem hl] at this
  rw [Option.some.inj this]
theorem half (v : Int) (k : Nat) : v / 2 ^ k / 2 = v / 2 ^ (k + 1) := by
  have h : (0 : Int) ≤ 2 ^ k := Int.le_of_lt (Int.pow_pos (by decide))
  rw [Int.ediv_ediv_of_nonneg h, Int.pow_succ]


theorem and_one (x : Int) : bits .and .i64 x 1 = x % 2 := by
  show IntKind.i64.wrap ((BitVec.ofInt 64 x &&& BitVec.ofInt 64 1).toNat : Int) = _
  rw [BitVec.toNat_and, show (BitVec.ofInt 64 1).toNat = 1 by rfl, Nat.and_one_is_mod, BitVec.toNat_ofInt, IntKind.wrap_i64]
  omega
theorem low_elem (x : Int) : bits .and .i64 x 1 % 256 = x % 2 := by rw [and_one]; omega

theorem lowBits_getD (v : Int) (n i : Nat) (h : i < n) : (lowBits v n).getD i 0 = v / 2 ^ i % 2 := by
  rw [List.getD_eq_getElem?_getD, lowBits_get v n i h]; rfl

theorem pw_big (size q : Nat) (h : q < size) : pw size false (size - (q + 1)) = q := by unfold pw; simp only; omega
theorem pw_little (size p q : Nat) (h0 : 8 * p ≤ q) (h1 : q < 8 * p + 8) (h2 : q < size) : pw size true (8 * p + (min (8 * p + 8) size - (q + 1))) = q := by
  unfold pw; simp only
  have : (8 * p + (min (8 * p + 8) size - (q + 1))) % 8 = min (8 * p + 8) size - (q + 1) := by omega
  rw [this]
  omega

theorem bytesAt_one (xs : List Int) (hx : ∀ x ∈ xs, x = 0 ∨ x = 1) (k : Nat) (hk : k < xs.length) (h1 : xs.getD k 0 = 1) :
    bytesAt xs (k + 1) = (bytesAt xs k).set (k / 8) (bits .or .u8 ((bytesAt xs k).getD (k / 8) 0) (2 ^ (7 - k % 8))) := by
  rw [bytesAt_succ xs hx k hk, h1, Int.one_mul]
theorem bytesAt_skip (xs : List Int) (hx : ∀ x ∈ xs, x = 0 ∨ x = 1) (k : Nat) (hk : k < xs.length) (h0 : xs.getD k 0 = 0) : bytesAt xs (k + 1) = bytesAt xs k := by
  have hb := bytesAt_bounds xs hx k (k / 8)
  have hl : k / 8 < (bytesAt xs k).length := by rw [bytesAt_length]; omega
  rw [bytesAt_succ xs hx k hk, h0, Int.zero_mul]
  obtain ⟨Y, hY⟩ := Int.eq_ofNat_of_zero_le hb.1
  have e : bits .or .u8 ((bytesAt xs k).getD (k / 8) 0) 0 = (bytesAt xs k).getD (k / 8) 0 := by
    rw [hY, show (0 : Int) = ((0 : Nat) : Int) by rfl, u8_or_nat Y 0 (by omega) (by omega), Nat.or_zero]
  rw [e, List.getD_eq_getElem?_getD, List.getElem?_eq_getElem hl, Option.getD_some, List.set_getElem_self]
theorem putBits_getD (v : Int) (n : Nat) (l : Bool) (i : Nat) (h : i < n) : (putBits v n l).getD i 0 = v / 2 ^ pw n l i % 2 := by
  rw [List.getD_eq_getElem?_getD, putBits_get v n l i h]; rfl
theorem pw_lt (size : Nat) (l : Bool) (i : Nat) (h : i < size) : pw size l i < size := by
  unfold pw; cases l <;> simp only <;> omega

/-- What a row owns it owns where no old block has turned. -/
theorem ownsRow_below {w w' : World} {b : Nat} {e : TypeId} {size : Nat} {v : Value} {n : Nat} {xs : List Value} (h : w.ownsRow b e size v n xs) (hb : Below w.heap.size w w') : w'.ownsRow b e size v n xs := by
  have hlt := h.lt
  rcases h with ⟨h1, h2 | ⟨g, cap, cur, rfl, h3, h4, h5⟩⟩
  · exact ⟨h1, .inl h2⟩
  · exact ⟨h1, .inr ⟨g, cap, cur, rfl, h3, (hb.block g (hlt g rfl).2).trans h4, h5⟩⟩

theorem own_cell {w : World} {b : Nat} {e : TypeId} {g n c : Nat} {ys : List Int} (h : w.ownsRow b e 1 (.slice (some ⟨g, 0, none⟩) n c) n (ys.map (Value.int .u8))) (j : Nat) (hj : j < n) : w.cell? ⟨g, j, none⟩ = some (.int .u8 (ys.getD j 0)) := by
  have h1 := h.1
  rcases h.2 with ⟨h', _⟩ | ⟨g', cap', cur, h', _⟩
  · simp at h'
  · simp only [Value.slice.injEq] at h'
    have hc := h'.2.2
    have hk : w.ownsRow b e 1 (.slice (some ⟨g, 0, none⟩) n c) n (ys.map (Value.int .u8)) := h
    rw [hk.cellAt j (by omega), List.getElem?_map]
    have hl : j < ys.length := by simp at h1; omega
    rw [List.getElem?_eq_getElem hl]
    simp [hl]
theorem own_set {w : World} {b : Nat} {e : TypeId} {g n c : Nat} {ys : List Int} (h : w.ownsRow b e 1 (.slice (some ⟨g, 0, none⟩) n c) n (ys.map (Value.int .u8))) (j : Nat) (u : Int) :
    (w.setCell ⟨g, j, none⟩ (.int .u8 u)).ownsRow b e 1 (.slice (some ⟨g, 0, none⟩) n c) n ((ys.set j u).map (Value.int .u8)) := by
  have := (h.stored j (.int .u8 u)).1
  rw [List.map_set]; exact this

theorem box3 (w : World) (a b c : Value) (e : TypeId) {w' : World} {B : Nat} (hB : w.heap.size < B) (h : Below B (w.alloc (.cells #[a, b, c] e)) w') :
    w'.cell? ⟨w.heap.size, 0, none⟩ = some a ∧ w'.cell? ⟨w.heap.size, 1, none⟩ = some b ∧ w'.cell? ⟨w.heap.size, 2, none⟩ = some c := by
  have hh := (h.block w.heap.size hB).trans (heap_new _ _)
  exact ⟨cell_of_heap hh 0, cell_of_heap hh 1, cell_of_heap hh 2⟩

end Go.Proofs.YtbljelopgalkgaaDoor
