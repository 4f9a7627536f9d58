/- spec's faces: TermOK, TermSize, TermCompare. -/
import Derived.Test.YtcgbonlffcpofaaGreatDoorRgt
import Derived.Test.YtcgbonlffcpofaaGreatDoorQ1
import Derived.Test.YtcgbonlffcpofaaGreatDoorRows
import Derived.WalkSpells
import Derived.WalkLawsBesides
import Derived.BigQuiet
import Derived.Deep.OwnRows
namespace Go.Proofs.YtcgbonlffcpofaaGreatDoor
open Go.RowKit

theorem right_any : ∀ n, RightSaid n
  | 0 => fun t => t.elim
  | n + 1 => right_of (right_any n)

/-- Right, and not too large or too deep. -/
def okB (n : Nat) (t : Tm n) : Bool := fitsB n t && rightB n t

set_option maxHeartbeats 1000000 in
theorem sOK_any {n : Nat} (t : Tm n) (c0 c1 c2 c3 : Value) (w : World) (ht : TAt (Under w.heap.size) w n t c0 c1 c2 c3) :
    Calls Tryz.prog 12 #[.agg #[c0, c1, c2, c3]] w fun e w' => e = .returned (.bool (okB n t)) ∧ Below w.heap.size w w' := by
  obtain ⟨k0, k1, k2, k3, k4, k5, rfl, rfl, rfl, rfl⟩ := ht.shape
  have hbx := fun x : Obj => (Below.refl w.heap.size w).alloc (Nat.le_refl _) x
  have hc := hide (fun x => fits_any t _ _ _ _ (w.alloc x) (ht.up (hbx x)))
  by_cases hf : fitsB n t = true
  · rw [hf] at hc
    go_enter Tryz.func12, Tryz.ntmps12
    go_wp2_with fail
    refine ((unhide hc) _).mono ?_
    rintro e w1 ⟨rfl, hb⟩
    have hblk := hb.block w.heap.size (by simp)
    rw [heap_new] at hblk
    have hcell := cell_of_heap hblk
    clear hblk
    have hb2 := (hbx _).trans (hb.mono (by simp))
    have hr := hide (right_any n t _ _ _ _ w1 (ht.up hb2))
    go_wp2_with (go_at_call 30; refine (unhide hr).mono ?_; rintro e w' ⟨rfl, hb3⟩)
    go_ret
    exact ⟨ret_bool (by unfold okB; rw [hf]; rfl), hb2.trans (hb3.mono hb2.size)⟩
  · have hf : fitsB n t = false := by simpa using hf
    rw [hf] at hc
    go_enter Tryz.func12, Tryz.ntmps12
    go_wp2_with (go_at_call 29; refine ((unhide hc) _).mono ?_; rintro e w1 ⟨rfl, hb⟩)
    go_ret
    exact ⟨ret_bool (by unfold okB; rw [hf]; rfl), (hbx _).trans (hb.mono (by simp))⟩

/-- What TermSize answers: the number of terms, or ErrBad. -/
def sizeAns (n : Nat) (t : Tm n) : Int := if okB n t = true then siz n t else 0
def codeAns (n : Nat) (t : Tm n) : Int := if okB n t = true then 0 else 1
end Go.Proofs.YtcgbonlffcpofaaGreatDoor
/- Plain facts: which texts are rows of bits. -/
namespace Go.Proofs.YtcgbonlffcpofaaGreatDoor
open Go.RowKit

/-- The first tests. -/
abbrev okLen (n : Int) (s : ByteArray) : Prop := 0 ≤ n ∧ n ≤ 32000 ∧ (s.size : Int) = (n + 7) / 8
def okS (n : Int) (s : ByteArray) : Bool := decide (okLen n s) && ((strB (bitsOf s n.toNat)).toList == s.toList)

theorem okS_false {n : Int} {s : ByteArray} (h : ¬ okLen n s) : okS n s = false := by unfold okS; simp [h]
theorem okS_true {n : Int} {s : ByteArray} (h : okLen n s) : okS n s = ((strB (bitsOf s n.toNat)).toList == s.toList) := by unfold okS; simp [h]
theorem bits_01 (s : ByteArray) (n : Nat) : ∀ x ∈ bitsOf s n, x = 0 ∨ x = 1 := by
  intro x hx
  obtain ⟨i, _, rfl⟩ := List.mem_map.1 hx
  exact bit_01 s i

theorem ext_byt {a b : ByteArray} (hs : a.size = b.size) (h : ∀ j, j < a.size → byt a j = byt b j) : a = b := by
  apply ByteArray.ext
  apply Array.ext
  · exact hs
  · intro i h1 h2
    have := h i h1
    rw [byt_get a i h1, byt_get b i h2] at this
    have h3 : (a[i]'h1).toNat = (b[i]'h2).toNat := by omega
    exact UInt8.toNat_inj.1 h3

theorem strB_size (xs : List Int) : (strB xs).size = (xs.length + 7) / 8 := by unfold strB; rw [strOfNums_size, bytesAt_length]
theorem byt_strB (xs : List Int) (hx : ∀ x ∈ xs, x = 0 ∨ x = 1) (j : Nat) (hj : j < (xs.length + 7) / 8) : byt (strB xs) j = packed xs j (min 8 (xs.length - 8 * j)) := by
  have hb := bytesAt_bounds xs hx xs.length j
  rw [List.getD_eq_getElem?_getD, bytesAt_get _ _ _ hj, Option.getD_some] at hb
  unfold byt strB strOfNums
  simp only [List.getElem?_toArray, List.getElem?_map]
  rw [bytesAt_get _ _ _ hj]
  simp only [Option.map_some, Option.getD_some, UInt8.toNat_ofNat']
  omega

theorem low_zero (x : Int) (c : Nat) (hx0 : 0 ≤ x) (hx : x < 256) (hc : c ≤ 8) : x / 2 ^ (8 - c) * 2 ^ (8 - c) = x ↔ ∀ k, c ≤ k → k < 8 → x / 2 ^ (7 - k) % 2 = 0 := by
  have all : ∀ c : Fin 9, ∀ x : Fin 256, (x.val / 2 ^ (8 - c.val) * 2 ^ (8 - c.val) = x.val ↔ ∀ k : Fin 8, c.val ≤ k.val → x.val / 2 ^ (7 - k.val) % 2 = 0) := by decide +kernel
  obtain ⟨X, rfl⟩ := Int.eq_ofNat_of_zero_le hx0
  have h := all ⟨c, by omega⟩ ⟨X, by omega⟩
  have e1 : ((X : Int) / 2 ^ (8 - c) * 2 ^ (8 - c) = X) ↔ X / 2 ^ (8 - c) * 2 ^ (8 - c) = X := by
    rw [← Int.ofNat_inj]; simp
  have e2 : ∀ k, ((X : Int) / 2 ^ (7 - k) % 2 = 0) ↔ X / 2 ^ (7 - k) % 2 = 0 := fun k => by
    rw [← Int.ofNat_inj]; simp
  rw [e1, h]
  exact ⟨fun H k h1 h2 => (e2 k).2 (H ⟨k, h2⟩ h1), fun H k h1 => (e2 k).1 (H k h1 k.2)⟩

theorem toList_beq (a b : ByteArray) : (a.toList == b.toList) = true ↔ a = b := by
  constructor
  · intro h
    rw [ByteArray.toList_eq, ByteArray.toList_eq, beq_iff_eq] at h
    exact ByteArray.ext (Array.toList_inj.1 h)
  · rintro rfl; simp

theorem packed_bits (s : ByteArray) (N j c : Nat) (hc : 8 * j + c ≤ N) : packed (bitsOf s N) j c = pk (bit s) j c := by
  unfold packed
  apply pk_congr
  intro k hk
  rw [List.getD_eq_getElem?_getD, bitsOf_get s N _ (by omega)]
  rfl

/-- Which rows are rows of bits. -/
theorem okS_iff (N : Nat) (s : ByteArray) (h : okLen N s) : okS N s = true ↔ ∀ i, N ≤ i → i < 8 * s.size → bit s i = 0 := by
  rw [okS_true h, toList_beq, Int.toNat_natCast]
  have hs : s.size = (N + 7) / 8 := by have := h.2.2; omega
  have hl : (bitsOf s N).length = N := bitsOf_length s N
  constructor
  · intro he i h1 h2
    have hj : i / 8 < (N + 7) / 8 := by omega
    have hb := byt_strB (bitsOf s N) (bits_01 s N) (i / 8) (by rw [hl]; exact hj)
    rw [he, hl, packed_bits s N (i / 8) _ (by omega), pk_bit s (i / 8) _ (by omega)] at hb
    have := (low_zero (byt s (i / 8)) (min 8 (N - 8 * (i / 8))) (byt_lo _ _) (byt_hi _ _) (by omega)).1 hb.symm (i % 8) (by omega) (by omega)
    exact this
  · intro H
    apply ext_byt
    · rw [strB_size, hl, hs]
    · intro j hj
      rw [strB_size, hl] at hj
      rw [byt_strB (bitsOf s N) (bits_01 s N) j (by rw [hl]; exact hj), hl, packed_bits s N j _ (by omega), pk_bit s j _ (by omega)]
      rw [low_zero (byt s j) (min 8 (N - 8 * j)) (byt_lo _ _) (byt_hi _ _) (by omega)]
      intro k h1 h2
      have := H (8 * j + k) (by omega) (by omega)
      unfold bit at this
      rw [show (8 * j + k) / 8 = j by omega, show (8 * j + k) % 8 = k by omega] at this
      exact this

end Go.Proofs.YtcgbonlffcpofaaGreatDoor
/- Plain facts: a number's bits, in the order in which a field has them. -/
namespace Go.Proofs.YtcgbonlffcpofaaGreatDoor
open Go.RowKit

/-- Which power of 2 bit i of a field stands for. -/
def pw (size : Nat) (little : Bool) (i : Nat) : Nat := match little with
  | true => min (i - i % 8 + 8) size - 1 - i % 8
  | false => size - 1 - i
def lowBits (v : Int) (n : Nat) : List Int := (List.range n).map fun i => v / 2 ^ i % 2
def putBits (v : Int) (size : Nat) (little : Bool) : List Int := (List.range size).map fun i => v / 2 ^ pw size little i % 2

theorem lowBits_succ (v : Int) (n : Nat) : lowBits v (n + 1) = lowBits v n ++ [v / 2 ^ n % 2] := by simp [lowBits, List.range_succ]
theorem lowBits_length (v : Int) (n : Nat) : (lowBits v n).length = n := by simp [lowBits]
theorem lowBits_get (v : Int) (n i : Nat) (h : i < n) : (lowBits v n)[i]? = some (v / 2 ^ i % 2) := by simp [lowBits, h]
theorem putBits_length (v : Int) (n : Nat) (l : Bool) : (putBits v n l).length = n := by simp [putBits]
theorem putBits_get (v : Int) (n : Nat) (l : Bool) (i : Nat) (h : i < n) : (putBits v n l)[i]? = some (v / 2 ^ pw n l i % 2) := by simp [putBits, h]
theorem putBits_01 (v : Int) (n : Nat) (l : Bool) : ∀ x ∈ putBits v n l, x = 0 ∨ x = 1 := by
  intro x hx
  obtain ⟨i, _, rfl⟩ := List.mem_map.1 hx
  omega
theorem putBits_take (v : Int) (n : Nat) (l : Bool) (k : Nat) (h : k < n) : (putBits v n l).take (k + 1) = (putBits v n l).take k ++ [v / 2 ^ pw n l k % 2] := by
  have hl : k < (putBits v n l).length := by rw [putBits_length]; exact h
  rw [List.take_succ_eq_append_getElem hl]
  have := putBits_get v n l k h
  rw [List.getElem?_eq_getElem hl] at this
  rw [Option.some.inj this]
theorem half (v : Int) (k : Nat) : v / 2 ^ k / 2 = v / 2 ^ (k + 1) := by
  have h : (0 : Int) ≤ 2 ^ k := Int.le_of_lt (Int.pow_pos (by decide))
  rw [Int.ediv_ediv_of_nonneg h, Int.pow_succ]


theorem and_one (x : Int) : bits .and .i64 x 1 = x % 2 := by
  show IntKind.i64.wrap ((BitVec.ofInt 64 x &&& BitVec.ofInt 64 1).toNat : Int) = _
  rw [BitVec.toNat_and, show (BitVec.ofInt 64 1).toNat = 1 by rfl, Nat.and_one_is_mod, BitVec.toNat_ofInt, IntKind.wrap_i64]
  omega
theorem low_elem (x : Int) : bits .and .i64 x 1 % 256 = x % 2 := by rw [and_one]; omega

theorem lowBits_getD (v : Int) (n i : Nat) (h : i < n) : (lowBits v n).getD i 0 = v / 2 ^ i % 2 := by
  rw [List.getD_eq_getElem?_getD, lowBits_get v n i h]; rfl

theorem pw_big (size q : Nat) (h : q < size) : pw size false (size - (q + 1)) = q := by unfold pw; simp only; omega
theorem pw_little (size p q : Nat) (h0 : 8 * p ≤ q) (h1 : q < 8 * p + 8) (h2 : q < size) : pw size true (8 * p + (min (8 * p + 8) size - (q + 1))) = q := by
  unfold pw; simp only
  have : (8 * p + (min (8 * p + 8) size - (q + 1))) % 8 = min (8 * p + 8) size - (q + 1) := by omega
  rw [this]
  omega

theorem bytesAt_one (xs : List Int) (hx : ∀ x ∈ xs, x = 0 ∨ x = 1) (k : Nat) (hk : k < xs.length) (h1 : xs.getD k 0 = 1) :
    bytesAt xs (k + 1) = (bytesAt xs k).set (k / 8) (bits .or .u8 ((bytesAt xs k).getD (k / 8) 0) (2 ^ (7 - k % 8))) := by
  rw [bytesAt_succ xs hx k hk, h1, Int.one_mul]
theorem bytesAt_skip (xs : List Int) (hx : ∀ x ∈ xs, x = 0 ∨ x = 1) (k : Nat) (hk : k < xs.length) (h0 : xs.getD k 0 = 0) : bytesAt xs (k + 1) = bytesAt xs k := by
  have hb := bytesAt_bounds xs hx k (k / 8)
  have hl : k / 8 < (bytesAt xs k).length := by rw [bytesAt_length]; omega
  rw [bytesAt_succ xs hx k hk, h0, Int.zero_mul]
  obtain ⟨Y, hY⟩ := Int.eq_ofNat_of_zero_le hb.1
  have e : bits .or .u8 ((bytesAt xs k).getD (k / 8) 0) 0 = (bytesAt xs k).getD (k / 8) 0 := by
    rw [hY, show (0 : Int) = ((0 : Nat) : Int) by rfl, u8_or_nat Y 0 (by omega) (by omega), Nat.or_zero]
  rw [e, List.getD_eq_getElem?_getD, List.getElem?_eq_getElem hl, Option.getD_some, List.set_getElem_self]
theorem putBits_getD (v : Int) (n : Nat) (l : Bool) (i : Nat) (h : i < n) : (putBits v n l).getD i 0 = v / 2 ^ pw n l i % 2 := by
  rw [List.getD_eq_getElem?_getD, putBits_get v n l i h]; rfl
theorem pw_lt (size : Nat) (l : Bool) (i : Nat) (h : i < size) : pw size l i < size := by
  unfold pw; cases l <;> simp only <;> omega

/-- What a row owns it owns where no old block has turned. -/
theorem ownsRow_below {w w' : World} {b : Nat} {e : TypeId} {size : Nat} {v : Value} {n : Nat} {xs : List Value} (h : w.ownsRow b e size v n xs) (hb : Below w.heap.size w w') : w'.ownsRow b e size v n xs := by
  have hlt := h.lt
  rcases h with ⟨h1, h2 | ⟨g, cap, cur, rfl, h3, h4, h5⟩⟩
  · exact ⟨h1, .inl h2⟩
  · exact ⟨h1, .inr ⟨g, cap, cur, rfl, h3, (hb.block g (hlt g rfl).2).trans h4, h5⟩⟩

theorem own_cell {w : World} {b : Nat} {e : TypeId} {g n c : Nat} {ys : List Int} (h : w.ownsRow b e 1 (.slice (some ⟨g, 0, none⟩) n c) n (ys.map (Value.int .u8))) (j : Nat) (hj : j < n) : w.cell? ⟨g, j, none⟩ = some (.int .u8 (ys.getD j 0)) := by
  have h1 := h.1
  rcases h.2 with ⟨h', _⟩ | ⟨g', cap', cur, h', _⟩
  · simp at h'
  · simp only [Value.slice.injEq] at h'
    have hc := h'.2.2
    have hk : w.ownsRow b e 1 (.slice (some ⟨g, 0, none⟩) n c) n (ys.map (Value.int .u8)) := h
    rw [hk.cellAt j (by omega), List.getElem?_map]
    have hl : j < ys.length := by simp at h1; omega
    rw [List.getElem?_eq_getElem hl]
    simp [hl]
theorem own_set {w : World} {b : Nat} {e : TypeId} {g n c : Nat} {ys : List Int} (h : w.ownsRow b e 1 (.slice (some ⟨g, 0, none⟩) n c) n (ys.map (Value.int .u8))) (j : Nat) (u : Int) :
    (w.setCell ⟨g, j, none⟩ (.int .u8 u)).ownsRow b e 1 (.slice (some ⟨g, 0, none⟩) n c) n ((ys.set j u).map (Value.int .u8)) := by
  have := (h.stored j (.int .u8 u)).1
  rw [List.map_set]; exact this

theorem box3 (w : World) (a b c : Value) (e : TypeId) {w' : World} {B : Nat} (hB : w.heap.size < B) (h : Below B (w.alloc (.cells #[a, b, c] e)) w') :
    w'.cell? ⟨w.heap.size, 0, none⟩ = some a ∧ w'.cell? ⟨w.heap.size, 1, none⟩ = some b ∧ w'.cell? ⟨w.heap.size, 2, none⟩ = some c := by
  have hh := (h.block w.heap.size hB).trans (heap_new _ _)
  exact ⟨cell_of_heap hh 0, cell_of_heap hh 1, cell_of_heap hh 2⟩

end Go.Proofs.YtcgbonlffcpofaaGreatDoor
/- spec.l02Row: the bits of a row, a byte each. -/
namespace Go.Proofs.YtcgbonlffcpofaaGreatDoor
open Go.RowKit

theorem info_u8 : (Tryz.prog.info? 5).map (fun i => (i.zero, i.size, i.bytes)) = some (some (.int .u8 0), 1, 1) := by kernel_rfl

/-- The bits as cells. -/
abbrev u8s (xs : List Int) : List Value := xs.map (Value.int .u8)

end Go.Proofs.YtcgbonlffcpofaaGreatDoor
/- spec.l02Bits: bits, a byte each, as a row. -/
namespace Go.Proofs.YtcgbonlffcpofaaGreatDoor
open Go.RowKit Go.Deep

set_option maxRecDepth 100000 in
theorem pack_any (v : Value) (xs : List Int) (w : World) (hv : RowAt w v xs) (hx : ∀ x ∈ xs, x = 0 ∨ x = 1) (hs : xs.length ≤ 1000000000) :
    Calls Tryz.prog 15 #[v] w fun e w' => e = .returned (.agg #[.int .i64 xs.length, .string (strB xs)]) ∧ Below w.heap.size w w' := by
  obtain ⟨a, cap, rfl, hcap, hel⟩ := hv
  have hmk := fun w : World => run_make_row' (P := Tryz.prog) 22 5 (.int .u8 0) 1 Tryz.underlying22 info_u8 rfl .i64 .i64 ((xs.length + 7) / 8) (by omega) (by omega) w
  have e8 : (((xs.length + 7) / 8 : Nat) : Int) = ((xs.length : Int) + 7) / 8 := by omega
  rw [e8] at hmk
  clear e8
  go_enter Tryz.func15, Tryz.ntmps15
  go_wp2_with fail
  go_loopw [4] (fun iv wr => ∃ k : Nat, k ≤ xs.length ∧ iv = .int .i64 k ∧ wr.ownsRow (w.heap.size + 1) 5 1 (.slice (some ⟨w.heap.size + 1, 0, none⟩) ((xs.length + 7) / 8) ((xs.length + 7) / 8)) ((xs.length + 7) / 8) (u8s (bytesAt xs k)) ∧
      wr.frozen? ⟨w.heap.size, 0, none⟩ = false ∧ wr.frozen? ⟨w.heap.size, 1, none⟩ = false ∧ (∃ x, wr.cell? ⟨w.heap.size, 0, none⟩ = some x) ∧ (∃ x, wr.cell? ⟨w.heap.size, 1, none⟩ = some x) ∧ Below w.heap.size w wr ∧ w.heap.size + 2 ≤ wr.heap.size) (fun iv _ => xs.length - (intOf iv).toNat)
  case atStart =>
    refine ⟨0, Nat.zero_le _, rfl, ?_, ?_, ?_, ⟨_, (World.cell?_alloc_past _ _ _ (by simp)).trans (two_new _ _ _ _).1⟩, ⟨_, (World.cell?_alloc_past _ _ _ (by simp)).trans (two_new _ _ _ _).2⟩, ((Below.refl w.heap.size w).alloc (Nat.le_refl _) _).alloc (by simp) _, by simp⟩
    · have h := World.ownsRow_lit (base := w.heap.size + 1) (e := 5) (size := 1) (w.alloc (.cells #[.int .i64 0, .string ⟨#[]⟩] 27)) (madeCells #[.int .u8 0] ((xs.length + 7) / 8)) ((xs.length + 7) / 8) (by simp) (by unfold maxLen; omega) (by simp [size_madeCells])
      have e : u8s (bytesAt xs 0) = (madeCells #[Value.int .u8 0] ((xs.length + 7) / 8)).toList := by
        rw [bytesAt_zero]
        apply List.ext_getElem?
        intro i
        by_cases h : i < (xs.length + 7) / 8 <;> simp [u8s, madeCells, h, Nat.mod_one]
      rw [e]
      simpa using h
    · simp [go_sem]
    · simp [go_sem]
  case round =>
    obtain ⟨k, hk, rfl, hown, hf0, hf1, ⟨y0, hc0⟩, ⟨y1, hc1⟩, hb, hsz⟩ := hrel
    by_cases hlt : k < xs.length
    · obtain ⟨b, off, rfl, hbk, hxk⟩ := hel k hlt
      have hxr := (hb.cell (p := ⟨b, off + k, none⟩) hbk).trans hxk
      have hkj : k / 8 < (xs.length + 7) / 8 := by omega
      have hx01 := getD_01 hx k
      have hcy : wr.cell? ⟨w.heap.size + 1, k / 8, none⟩ = some (.int .u8 ((bytesAt xs k).getD (k / 8) 0)) := by
        rw [hown.cellAt (k / 8) (by omega)]
        simp [u8s, bytesAt_get _ _ _ hkj]
      have hfy := hown.frozenAt (k / 8)
      have hst := hide (hown.stored (k / 8) (.int .u8 ((bytesAt xs (k + 1)).getD (k / 8) 0)))
      have HS := hide (bytesAt_succ xs hx k hlt)
      obtain ⟨y, hy⟩ : ∃ y, y = (bytesAt xs k).getD (k / 8) 0 := ⟨_, rfl⟩
      obtain ⟨x, hxe⟩ : ∃ x, x = xs.getD k 0 := ⟨_, rfl⟩
      rw [← hy] at hcy
      rw [← hxe] at hxr hx01
      have HY := hide hy
      have HX := hide hxe
      have HO := hide hown
      clear hy hxe hxk hown hx
      go_wp2_with fail
      go_region
      have hu : bits .or .u8 y (x * 2 ^ (7 - k % 8) % 256) = (bytesAt xs (k + 1)).getD (k / 8) 0 := by
        rw [unhide HS, set_getD _ _ _ (by rw [bytesAt_length]; exact hkj), ← unhide HY, ← unhide HX, bit_mod x hx01]
      have H := unhide hst
      rw [← hu] at H
      have hown2 : (wr.setCell ⟨w.heap.size + 1, k / 8, none⟩ (.int .u8 (bits .or .u8 y (x * 2 ^ (7 - k % 8) % 256)))).ownsRow (w.heap.size + 1) 5 1 (.slice (some ⟨w.heap.size + 1, 0, none⟩) ((xs.length + 7) / 8) ((xs.length + 7) / 8)) ((xs.length + 7) / 8) (u8s (bytesAt xs (k + 1))) := by
        have e : u8s (bytesAt xs (k + 1)) = (u8s (bytesAt xs k)).set (k / 8) (.int .u8 (bits .or .u8 y (x * 2 ^ (7 - k % 8) % 256))) := by
          rw [hu]
          conv => lhs; rw [unhide HS]
          rw [u8s, List.map_set, unhide HS, set_getD _ _ _ (by rw [bytesAt_length]; exact hkj)]
        rw [e]
        exact H.1
      have hbn : Below w.heap.size w (wr.setCell ⟨w.heap.size + 1, k / 8, none⟩ (.int .u8 (bits .or .u8 y (x * 2 ^ (7 - k % 8) % 256)))).drew := (hb.setCell (by show w.heap.size ≤ w.heap.size + 1; omega) _).drew
      have HU := hide hu
      clear H hu
      go_wp2_with fail
      go_roundw
      case rel => exact ⟨k + 1, by omega, by go_num, hown2.drew, by simpa [go_sem] using hf0, by simpa [go_sem] using hf1, ⟨y0, by simpa [go_sem] using hc0⟩, ⟨y1, by simpa [go_sem] using hc1⟩, hbn, by simpa using hsz⟩
      case measure => simp [intOf]; omega
    · have hkn : k = xs.length := by omega
      subst hkn
      have hcv := run_convert_bytes_arg (P := Tryz.prog) wr 22 5 Tryz.underlying22 Tryz.underlying5 (w.heap.size + 1) 0 ((xs.length + 7) / 8) ((xs.length + 7) / 8) (bytesAt xs xs.length) (bytesAt_length _ _) (fun i hi => by
        rw [Nat.zero_add, hown.cellAt i (by omega), u8s, List.getElem?_map, bytesAt_get _ _ _ hi, List.getD_eq_getElem?_getD, bytesAt_get _ _ _ hi]; rfl) 9 Tryz.underlying9
      obtain ⟨S, hS⟩ : ∃ S, S = strOfNums (bytesAt xs xs.length) := ⟨_, rfl⟩
      rw [← hS] at hcv
      have HS := hide hS
      clear hS
      go_wp2_with fail
      exact bodyPost_ret (v := .agg #[.int .i64 xs.length, .string S]) (by simp [results, Tryz.results15, go_sem, hc0, hc1]) rfl ⟨by rw [unhide HS]; rfl, (hb.setCell (Nat.le_refl _) _).setCell (Nat.le_refl _) _⟩

/-- The same, with the length and the text under names. -/
theorem pack_as (v : Value) (xs : List Int) (L : Nat) (S : ByteArray) (w : World) (hv : RowAt w v xs) (hx : ∀ x ∈ xs, x = 0 ∨ x = 1) (hl : xs.length = L) (hs : L ≤ 1000000000) (hS : strB xs = S) :
    Calls Tryz.prog 15 #[v] w fun e w' => e = .returned (.agg #[.int .i64 L, .string S]) ∧ Below w.heap.size w w' := by
  subst hl; subst hS; exact pack_any v xs w hv hx hs

end Go.Proofs.YtcgbonlffcpofaaGreatDoor
