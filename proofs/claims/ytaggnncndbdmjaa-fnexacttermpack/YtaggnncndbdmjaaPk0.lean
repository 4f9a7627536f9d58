/- Plain facts: the bytes of a term. -/
import Derived.Test.YtaggnncndbdmjaaHs0
import Derived.Test.YtaggnncndbdmjaaOrd2
namespace Go.Proofs.Ytaggnncndbdmjaa
open Go.RowKit

/-- An Int that needs but one byte. -/
def smallB : (n : Nat) → Tm n → Bool
  | 0, t => t.elim
  | _ + 1, (k, m, _, _) => decide (k = 1) && (decide (0 ≤ m) && decide (m ≤ 255))
def numT : (n : Nat) → Tm n → Int
  | 0, t => t.elim
  | _ + 1, (_, m, _, _) => m

/-- The bytes of a term's own, ahead of its kids. -/
def headL (k m : Int) (s : ByteArray) (len : Nat) (small : Bool) : List Int :=
  if k = 1 then (if 0 ≤ m ∧ m ≤ 255 then [97, m] else if m < 0 then 98 :: 1 :: beL (-m) 7 else 98 :: 0 :: beL m 7)
  else if k = 2 then 119 :: (s.size : Int) % 256 :: txtL s
  else if k = 3 then 114 :: beL m 7
  else if k = 5 then 103 :: beL m 7
  else if k = 4 then 112 :: (beL m 7 ++ beL len 2)
  else if k = 6 then (if len ≤ 255 then [104, (len : Int)] else 105 :: beL len 2)
  else if k = 7 then 116 :: beL ((len / 2 : Nat) : Int) 2
  else if k = 9 then 109 :: (beL s.size 2 ++ txtL s)
  else if len = 0 then [106] else if small then 107 :: beL len 2 else 108 :: beL len 2

/-- The bytes of a term. -/
def packT : (n : Nat) → Tm n → List Int
  | 0, t => t.elim
  | n + 1, (k, m, s, ks) => headL k m s ks.length (ks.all (smallB n)) ++ if k = 8 ∧ ks.all (smallB n) = true then ks.map (numT n) else ks.flatMap (packT n)
def packS {n : Nat} (ks : List (Tm n)) : List Int := ks.flatMap (packT n)

theorem packS_take {n : Nat} (ks : List (Tm n)) (i : Nat) (hi : i < ks.length) : packS (ks.take (i + 1)) = packS (ks.take i) ++ packT n ks[i] := by
  unfold packS; rw [List.take_succ_eq_append_getElem hi, List.flatMap_append]; simp
theorem numS_take {n : Nat} (ks : List (Tm n)) (i : Nat) (hi : i < ks.length) : (ks.take (i + 1)).map (numT n) = (ks.take i).map (numT n) ++ [numT n ks[i]] := by
  rw [List.take_succ_eq_append_getElem hi, List.map_append]; rfl

theorem headL_length (k m : Int) (s : ByteArray) (len : Nat) (b : Bool) : (headL k m s len b).length ≤ 10 + s.size := by
  unfold headL
  repeat' split
  all_goals simp [beL_length, txtL_length]
  all_goals omega

theorem sum_le {α : Type} (f g : α → Nat) : ∀ l : List α, (∀ x ∈ l, f x ≤ g x) → (l.map f).sum ≤ (l.map g).sum
  | [], _ => Nat.le_refl _
  | x :: l, h => by
    simp only [List.map_cons, List.sum_cons]
    exact Nat.add_le_add (h x (by simp)) (sum_le f g l fun y hy => h y (by simp [hy]))
theorem sum_lin {α : Type} (f : α → Nat) : ∀ l : List α, (l.map fun x => 10 + 10 * f x).sum = 10 * l.length + 10 * (l.map f).sum
  | [] => rfl
  | x :: l => by simp only [List.map_cons, List.sum_cons, List.length_cons, sum_lin f l]; omega

theorem packT_length : ∀ (n : Nat) (t : Tm n), (packT n t).length ≤ 10 + 10 * tot n t
  | 0, t => t.elim
  | n + 1, (k, m, s, ks) => by
    have hh := headL_length k m s ks.length (ks.all (smallB n))
    have hs : (ks.flatMap (packT n)).length ≤ 10 * ks.length + 10 * (ks.map (tot n)).sum := by
      rw [List.length_flatMap, ← sum_lin]
      exact sum_le _ _ ks fun t _ => packT_length n t
    show (headL k m s ks.length (ks.all (smallB n)) ++ if k = 8 ∧ ks.all (smallB n) = true then ks.map (numT n) else ks.flatMap (packT n)).length ≤ 10 + 10 * (s.size + (ks.length + (ks.map (tot n)).sum))
    rw [List.length_append]
    split
    · rw [List.length_map]; omega
    · omega

/-- A byte's number. -/
def B8 (x : Int) : Prop := 0 ≤ x ∧ x < 256
theorem txtL_byte (s : ByteArray) : ∀ x ∈ txtL s, B8 x := by
  intro x hx
  obtain ⟨b, _, rfl⟩ := List.mem_map.1 hx
  exact ⟨by omega, by have := b.toNat_lt; omega⟩
theorem headL_byte (k m : Int) (s : ByteArray) (len : Nat) (b : Bool) : ∀ x ∈ headL k m s len b, B8 x := by
  have hb := fun n k x hx => beL_byte n k x hx
  have ht := txtL_byte s
  unfold headL B8
  unfold B8 at ht
  repeat' split
  all_goals
    intro x hx
    simp only [List.mem_cons, List.mem_append, List.not_mem_nil, or_false] at hx
  · rcases hx with rfl | rfl <;> omega
  · rcases hx with rfl | rfl | hx
    · omega
    · omega
    · exact hb _ _ _ hx
  · rcases hx with rfl | rfl | hx
    · omega
    · omega
    · exact hb _ _ _ hx
  · rcases hx with rfl | rfl | hx
    · omega
    · omega
    · exact ht _ hx
  · rcases hx with rfl | hx
    · omega
    · exact hb _ _ _ hx
  · rcases hx with rfl | hx
    · omega
    · exact hb _ _ _ hx
  · rcases hx with rfl | hx | hx
    · omega
    · exact hb _ _ _ hx
    · exact hb _ _ _ hx
  · rcases hx with rfl | rfl <;> omega
  · rcases hx with rfl | hx
    · omega
    · exact hb _ _ _ hx
  · rcases hx with rfl | hx
    · omega
    · exact hb _ _ _ hx
  · rcases hx with rfl | hx | hx
    · omega
    · exact hb _ _ _ hx
    · exact ht _ hx
  · subst hx; omega
  · rcases hx with rfl | hx
    · omega
    · exact hb _ _ _ hx
  · rcases hx with rfl | hx
    · omega
    · exact hb _ _ _ hx

theorem small_num {n : Nat} {t : Tm n} (h : smallB n t = true) : B8 (numT n t) := by
  match n, t, h with
  | n + 1, (k, m, s, ks), h =>
    have h' : (decide (k = 1) && (decide (0 ≤ m) && decide (m ≤ 255))) = true := h
    simp only [Bool.and_eq_true, decide_eq_true_eq] at h'
    show 0 ≤ m ∧ m < 256
    omega

theorem packT_byte : ∀ (n : Nat) (t : Tm n), ∀ x ∈ packT n t, B8 x
  | 0, t => t.elim
  | n + 1, (k, m, s, ks) => by
    intro x hx
    have hx' : x ∈ headL k m s ks.length (ks.all (smallB n)) ++ if k = 8 ∧ ks.all (smallB n) = true then ks.map (numT n) else ks.flatMap (packT n) := hx
    rcases List.mem_append.1 hx' with h | h
    · exact headL_byte _ _ _ _ _ x h
    · split at h
      · rename_i hc
        obtain ⟨t, ht, rfl⟩ := List.mem_map.1 h
        exact small_num (List.all_eq_true.1 hc.2 t ht)
      · obtain ⟨t, ht, hx⟩ := List.mem_flatMap.1 h
        exact packT_byte n t x hx

/-- What is packed, as the cells of a row of bytes. -/
def u8c (xs : List Int) : List Value := xs.map (Value.int .u8)
theorem u8c_append (xs ys : List Int) : u8c (xs ++ ys) = u8c xs ++ u8c ys := List.map_append
theorem u8c_length (xs : List Int) : (u8c xs).length = xs.length := List.length_map _

theorem strCells_txt (s : ByteArray) : Lib.strCells s = u8c (txtL s) := by
  unfold Lib.strCells u8c txtL; rw [List.map_map]; rfl

theorem all_take {α : Type} (f : α → Bool) (l : List α) (i : Nat) (h : i < l.length) (h1 : (l.take i).all f = true) (h2 : f l[i] = true) : (l.take (i + 1)).all f = true := by
  rw [List.take_succ_eq_append_getElem h, List.all_append, h1]; simp [h2]
theorem all_no {α : Type} (f : α → Bool) (l : List α) (i : Nat) (h : i < l.length) (h2 : f l[i] = false) : l.all f = false := by
  rw [← Bool.not_eq_true, List.all_eq_true]
  intro h1
  rw [h1 _ (List.getElem_mem h)] at h2
  cases h2

end Go.Proofs.Ytaggnncndbdmjaa
