/- Plain facts: the number that is made of bytes; a number's bytes, the highest first. -/
import Derived.Test.YtaggnncndbdmjaaTm
import Derived.WalkKit
namespace Go.Proofs.Ytaggnncndbdmjaa
open Go.RowKit

/-- The number that is made of bytes, from h on. -/
def hOn (h : Int) (l : List Int) : Int := l.foldl (fun h b => (h * 33 + b) % 4294967296) h
theorem hOn_append (h : Int) (l l' : List Int) : hOn h (l ++ l') = hOn (hOn h l) l' := by unfold hOn; rw [List.foldl_append]
theorem hOn_one (h b : Int) : hOn h [b] = (h * 33 + b) % 4294967296 := rfl
/-- In the range of 32 bits. -/
def U32 (h : Int) : Prop := 0 ≤ h ∧ h < 4294967296
theorem hOn_u32 : ∀ (l : List Int) (h : Int), U32 h → U32 (hOn h l)
  | [], h, hh => hh
  | b :: l, h, _ => by
    show U32 (hOn ((h * 33 + b) % 4294967296) l)
    exact hOn_u32 l _ ⟨by omega, by omega⟩

/-- The low bytes of a number, the highest first. -/
def beL (n : Int) : Nat → List Int
  | 0 => []
  | k + 1 => beL (n / 256) k ++ [n % 256]
theorem beL_length (n : Int) : ∀ k, (beL n k).length = k
  | 0 => rfl
  | k + 1 => by unfold beL; rw [List.length_append, beL_length (n / 256) k]; rfl
theorem two_pow8 (r : Nat) : (2 : Int) ^ (8 * (r + 1)) = 256 * 2 ^ (8 * r) := by
  rw [show 8 * (r + 1) = 8 + 8 * r by omega, Int.pow_add]; rfl
theorem div_pow8 (n : Int) (r : Nat) : n / 256 / 2 ^ (8 * r) = n / 2 ^ (8 * (r + 1)) := by
  rw [two_pow8, Int.ediv_ediv_of_nonneg (by decide)]
theorem pow8_div (n : Int) (r : Nat) : n / 2 ^ (8 * r) / 256 = n / 2 ^ (8 * (r + 1)) := by
  rw [two_pow8, Int.mul_comm, Int.ediv_ediv_of_nonneg (Int.le_of_lt (Int.pow_pos (by decide)))]
theorem beL_cons (n : Int) (k : Nat) : beL n (k + 1) = (n / 2 ^ (8 * k) % 256) :: beL n k := by
  induction k generalizing n with
  | zero => simp [beL]
  | succ k ih =>
    have h := ih (n / 256)
    rw [beL, h, List.cons_append]
    rw [div_pow8]
    rfl
theorem beL_front (n : Int) (q k : Nat) : beL (n / 2 ^ (8 * q)) (k + 1) = beL (n / 2 ^ (8 * (q + 1))) k ++ [n / 2 ^ (8 * q) % 256] := by
  rw [beL, pow8_div]
theorem beL_byte (n : Int) : ∀ k, ∀ x ∈ beL n k, 0 ≤ x ∧ x < 256
  | 0, x, h => by simp [beL] at h
  | k + 1, x, h => by
    unfold beL at h
    rcases List.mem_append.1 h with h | h
    · exact beL_byte (n / 256) k x h
    · simp at h; omega

/-- A text's letters as numbers. -/
def txtL (s : ByteArray) : List Int := s.data.toList.map fun b => (b.toNat : Int)
theorem txtL_length (s : ByteArray) : (txtL s).length = s.size := by simp [txtL]
theorem txtL_take (s : ByteArray) (i : Nat) (h : i < s.size) : (txtL s).take (i + 1) = (txtL s).take i ++ [((s[i]'h).toNat : Int)] := by
  have hl : i < (txtL s).length := by rw [txtL_length]; exact h
  rw [List.take_succ_eq_append_getElem hl]
  congr 2
  simp only [txtL, List.getElem_map]
  rfl
theorem txtL_append (a b : ByteArray) : txtL (a ++ b) = txtL a ++ txtL b := by
  simp [txtL]
theorem txtL_nums (xs : List Int) (h : ∀ x ∈ xs, 0 ≤ x ∧ x < 256) : txtL (strOfNums xs) = xs := by
  unfold txtL
  rw [strOfNums_data, List.map_map]
  conv => rhs; rw [← List.map_id xs]
  apply List.map_congr_left
  intro x hx
  have := h x hx
  simp only [Function.comp, UInt8.toNat_ofNat', id]
  omega

/-- What a term's own bytes are. -/
def nodeL (k m : Int) (s : ByteArray) (len : Nat) : List Int := [k % 256] ++ beL (m % 9223372036854775808) 8 ++ beL s.size 2 ++ txtL s ++ beL len 2
/-- The number that is made of a term, from h on. -/
def hashT : (n : Nat) → Tm n → Int → Int
  | 0, t, _ => t.elim
  | n + 1, (k, m, s, ks), h => ks.foldl (fun h t => hashT n t h) (hOn h (nodeL k m s ks.length))
def hashS {n : Nat} (ks : List (Tm n)) (h : Int) : Int := ks.foldl (fun h t => hashT n t h) h
theorem hashT_eq {n : Nat} (k m : Int) (s : ByteArray) (ks : List (Tm n)) (h : Int) : hashT (n + 1) (k, m, s, ks) h = hashS ks (hOn h (nodeL k m s ks.length)) := rfl
theorem hashT_u32 : ∀ (n : Nat) (t : Tm n) (h : Int), U32 h → U32 (hashT n t h)
  | 0, t, _, _ => t.elim
  | n + 1, (k, m, s, ks), h, hh => by
    rw [hashT_eq]
    have all : ∀ (ks : List (Tm n)) (h : Int), U32 h → U32 (hashS ks h) := fun ks => by
      induction ks with
      | nil => intro h hh; exact hh
      | cons t ks ih => intro h hh; exact ih _ (hashT_u32 n t h hh)
    exact all ks _ (hOn_u32 _ _ hh)
theorem hashS_take {n : Nat} (ks : List (Tm n)) (h : Int) (i : Nat) (hi : i < ks.length) : hashS (ks.take (i + 1)) h = hashT n ks[i] (hashS (ks.take i) h) := by
  unfold hashS; rw [List.take_succ_eq_append_getElem hi, List.foldl_append]; rfl
theorem hashS_u32 {n : Nat} (ks : List (Tm n)) : ∀ (h : Int), U32 h → U32 (hashS ks h) := by
  induction ks with
  | nil => intro h hh; exact hh
  | cons t ks ih => intro h hh; exact ih _ (hashT_u32 n t h hh)

end Go.Proofs.Ytaggnncndbdmjaa
