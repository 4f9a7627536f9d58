/- Plain facts: a term taken apart from its bytes. -/
import Derived.Test.YthfjgffhncogaaaGreatQ18
import Derived.Test.YthfjgffhncogaaaGreatPkv
namespace Go.Proofs.YthfjgffhncogaaaGreat
open Go.RowKit

/-- The number that bytes are, the highest first. -/
def numL (l : List Int) : Int := l.foldl (fun n x => n * 256 + x) 0
/-- The first bytes, and what follows. -/
def takeB (n : Nat) (l : List Int) : Option (List Int × List Int) := if n ≤ l.length then some (l.take n, l.drop n) else none
/-- A number of so many bytes, and what follows. -/
def takeN (n : Nat) (l : List Int) : Option (Nat × List Int) := match takeB n l with
  | some (x, r) => some ((numL x).toNat, r)
  | none => none
/-- As many as said, one behind the other. -/
def takeR {α : Type} (f : List Int → Nat → Option (α × List Int × Nat)) : Nat → List Int → Nat → Option (List α × List Int × Nat)
  | 0, l, c => some ([], l, c)
  | k + 1, l, c => match takeR f k l c with
    | none => none
    | some (xs, l1, c1) => match f l1 c1 with
      | none => none
      | some (x, l2, c2) => some (xs ++ [x], l2, c2)

def noText : ByteArray := ⟨#[]⟩
def leafT (n : Nat) (k m : Int) (s : ByteArray) : Tm (n + 1) := (k, m, s, [])
/-- A row of so many terms, as the kids of a term. -/
def takeK {n : Nat} (f : List Int → Nat → Option (Tm n × List Int × Nat)) (k m : Int) (len : Nat) (l : List Int) (c : Nat) : Option (Tm (n + 1) × List Int × Nat) := match takeR f len l c with
  | none => none
  | some (ks, r, c') => some ((k, m, noText, ks), r, c')

/-- A term's own bytes behind the tag, and its kids. -/
def takeT {n : Nat} (f : List Int → Nat → Option (Tm (n + 1) × List Int × Nat)) (tag : Int) (l : List Int) (c : Nat) : Option (Tm (n + 2) × List Int × Nat) :=
  if tag = 97 then match takeN 1 l with | some (x, r) => some (leafT (n + 1) 1 x noText, r, c) | none => none
  else if tag = 98 then match takeN 1 l with | some (x, r) => (match takeN 7 r with | some (y, r) => some (leafT (n + 1) 1 (if x = 1 then -(y : Int) else y) noText, r, c) | none => none) | none => none
  else if tag = 119 then match takeN 1 l with | some (x, r) => (match takeB x r with | some (s, r) => some (leafT (n + 1) 2 0 (strOfNums s), r, c) | none => none) | none => none
  else if tag = 114 then match takeN 7 l with | some (x, r) => some (leafT (n + 1) 3 x noText, r, c) | none => none
  else if tag = 103 then match takeN 7 l with | some (x, r) => some (leafT (n + 1) 5 x noText, r, c) | none => none
  else if tag = 112 then match takeN 7 l with | some (x, r) => (match takeN 2 r with | some (y, r) => takeK f 4 x y r c | none => none) | none => none
  else if tag = 104 then match takeN 1 l with | some (x, r) => takeK f 6 0 x r c | none => none
  else if tag = 105 then match takeN 2 l with | some (x, r) => takeK f 6 0 x r c | none => none
  else if tag = 116 then match takeN 2 l with | some (x, r) => takeK f 7 0 (2 * x) r c | none => none
  else if tag = 106 then some (leafT (n + 1) 8 0 noText, l, c)
  else if tag = 107 then match takeN 2 l with | some (x, r) => (match takeB x r with | some (s, r) => some ((8, 0, noText, s.map fun b => leafT n 1 b noText), r, c) | none => none) | none => none
  else if tag = 108 then match takeN 2 l with | some (x, r) => takeK f 8 0 x r c | none => none
  else if tag = 109 then match takeN 2 l with | some (x, r) => (match takeB x r with | some (s, r) => some (leafT (n + 1) 9 0 (strOfNums s), r, c) | none => none) | none => none
  else none

/-- A term out of bytes: c terms were taken ahead of it; so many more levels may follow. -/
def takeV : (n : Nat) → List Int → Nat → Option (Tm (n + 1) × List Int × Nat)
  | 0, _, _ => none
  | n + 1, l, c => if 2000 < c + 1 then none else match takeN 1 l with
    | none => none
    | some (tag, r) => takeT (takeV n) tag r (c + 1)

theorem numL_append (l : List Int) (x : Int) : numL (l ++ [x]) = numL l * 256 + x := by unfold numL; rw [List.foldl_append]; rfl
theorem numL_beL (n : Int) (k : Nat) (h0 : 0 ≤ n) (h1 : n < 256 ^ k) : numL (beL n k) = n := by
  induction k generalizing n with
  | zero => simp [beL, numL]; simp at h1; omega
  | succ k ih =>
    rw [beL, numL_append, ih (n / 256) (by omega) ?_]
    · omega
    · have : n < 256 ^ k * 256 := by rw [← Int.pow_succ]; exact h1
      omega
theorem takeB_append (l r : List Int) (n : Nat) (h : l.length = n) : takeB n (l ++ r) = some (l, r) := by
  subst h
  unfold takeB
  rw [if_pos (by rw [List.length_append]; omega)]
  simp
theorem takeN_append (m : Int) (k : Nat) (r : List Int) (h0 : 0 ≤ m) (h1 : m < 256 ^ k) : takeN k (beL m k ++ r) = some (m.toNat, r) := by
  unfold takeN
  rw [takeB_append _ _ _ (beL_length m k)]
  show some ((numL (beL m k)).toNat, r) = _
  rw [numL_beL m k h0 h1]
theorem takeN_one (x : Int) (r : List Int) : takeN 1 (x :: r) = some (x.toNat, r) := by
  show some ((numL [x]).toNat, r) = _
  simp [numL]

theorem takeR_full {α : Type} (f : List Int → Nat → Option (α × List Int × Nat)) (g : α → List Int) (z : α → Nat) :
    ∀ (ks : List α) (r : List Int) (c : Nat), (∀ i (h : i < ks.length) (r : List Int), f (g ks[i] ++ r) (c + ((ks.take i).map z).sum) = some (ks[i], r, c + ((ks.take i).map z).sum + z ks[i])) →
      takeR f ks.length (ks.flatMap g ++ r) c = some (ks, r, c + (ks.map z).sum) := by
  intro ks r c h
  have key : ∀ i, i ≤ ks.length → takeR f i (ks.flatMap g ++ r) c = some (ks.take i, (ks.drop i).flatMap g ++ r, c + ((ks.take i).map z).sum) := by
    intro i
    induction i with
    | zero => intro _; simp [takeR]
    | succ i ih =>
      intro hi
      rw [takeR, ih (by omega)]
      have hd : ks.drop i = ks[i] :: ks.drop (i + 1) := List.drop_eq_getElem_cons (by omega)
      have h1 := h i (by omega) ((ks.drop (i + 1)).flatMap g ++ r)
      simp only [hd, List.flatMap_cons, List.append_assoc]
      rw [h1, List.take_succ_eq_append_getElem (by omega)]
      simp only [List.map_append, List.sum_append, List.map_cons, List.map_nil, List.sum_cons, List.sum_nil, Nat.add_zero, Nat.add_assoc]
  have := key ks.length (Nat.le_refl _)
  simpa using this

/-- How many terms are counted when a term is taken: the Ints of a row of bytes are not. -/
def couT : (n : Nat) → Tm n → Nat
  | 0, t => t.elim
  | n + 1, (k, _, _, ks) => 1 + (if k = 8 ∧ ks.all (smallB n) = true then 0 else (ks.map (couT n)).sum)
theorem cou_eq {n : Nat} (k m : Int) (s : ByteArray) (ks : List (Tm n)) : couT (n + 1) (k, m, s, ks) = 1 + (if k = 8 ∧ ks.all (smallB n) = true then 0 else (ks.map (couT n)).sum) := rfl
theorem cou_siz : ∀ (n : Nat) (t : Tm n), couT n t ≤ siz n t
  | 0, t => t.elim
  | n + 1, (k, m, s, ks) => by
    show 1 + (if k = 8 ∧ ks.all (smallB n) = true then 0 else (ks.map (couT n)).sum) ≤ 1 + sizS ks
    have h : (ks.map (couT n)).sum ≤ sizS ks := sum_le _ _ ks fun t _ => cou_siz n t
    split <;> omega

theorem no_text {s : ByteArray} (h : s.size = 0) : s = noText := empty_eq h rfl
theorem txt_back (s : ByteArray) : strOfNums (txtL s) = s := by
  unfold strOfNums txtL
  rw [List.map_map]
  have : (fun b : UInt8 => UInt8.ofNat ((b.toNat : Int)).toNat) = id := by funext b; simp
  show ByteArray.mk (List.map ((fun n : Int => UInt8.ofNat n.toNat) ∘ fun b : UInt8 => (b.toNat : Int)) s.data.toList).toArray = s
  rw [show ((fun n : Int => UInt8.ofNat n.toNat) ∘ fun b : UInt8 => (b.toNat : Int)) = id from this]
  simp

theorem small_leaf {n : Nat} {t : Tm (n + 1)} (h : smallB (n + 1) t = true) (hr : rightB (n + 1) t = true) : t = leafT n 1 (numT (n + 1) t) noText := by
  obtain ⟨k, m, s, ks⟩ := t
  have h' : (decide (k = 1) && (decide (0 ≤ m) && decide (m ≤ 255))) = true := h
  simp only [Bool.and_eq_true, decide_eq_true_eq] at h'
  obtain ⟨rfl, _⟩ := h'
  obtain ⟨hf, _⟩ := right_parts hr
  rw [fit_1] at hf
  simp only [Bool.and_eq_true, decide_eq_true_eq] at hf
  have hs := no_text hf.1.2
  have hk : ks = [] := List.eq_nil_of_length_eq_zero hf.2
  subst hs hk
  rfl

theorem takeK_full {n : Nat} (f : List Int → Nat → Option (Tm n × List Int × Nat)) (k m : Int) (ks : List (Tm n)) (r : List Int) (c : Nat)
    (h : ∀ i (h : i < ks.length) (r : List Int), f (packT n ks[i] ++ r) (c + ((ks.take i).map (couT n)).sum) = some (ks[i], r, c + ((ks.take i).map (couT n)).sum + couT n ks[i])) :
    takeK f k m ks.length (packS ks ++ r) c = some ((k, m, noText, ks), r, c + (ks.map (couT n)).sum) := by
  unfold takeK packS
  rw [takeR_full f (packT n) (couT n) ks r c h]
  rfl

theorem some_add {α : Type} (x : α) (r : List Int) (a b c : Nat) : some (x, r, a + b + c) = some (x, r, a + (b + c)) := by rw [Nat.add_assoc]

def TakeSaid (n : Nat) : Prop := ∀ (t : Tm (n + 1)) (r : List Int) (c : Nat), rightB (n + 1) t = true → c + couT (n + 1) t ≤ 2000 → siz (n + 1) t ≤ 2000 → dep (n + 1) t ≤ n → takeV n (packT (n + 1) t ++ r) c = some (t, r, c + couT (n + 1) t)

theorem dep_kid {n i : Nat} {k m : Int} {s : ByteArray} {ks : List (Tm n)} {d : Nat} (h : dep (n + 1) (k, m, s, ks) ≤ d + 1) (hi : i < ks.length) : dep n ks[i] ≤ d := by
  have h' : 1 + depS ks ≤ d + 1 := h
  have h1 := depS_take ks i hi
  have h2 := depS_le ks (i + 1)
  omega
theorem name_le {s : ByteArray} (h : nameB s = true) : s.size ≤ 30 := by
  unfold nameB at h
  simp only [Bool.and_eq_true, decide_eq_true_eq] at h
  exact h.1.1.2

theorem take_of {n : Nat} (h : TakeSaid n) : TakeSaid (n + 1) := by
  rintro ⟨k, m, s, ks⟩ r c hr hc hz hd
  obtain ⟨hf, hall⟩ := right_parts hr
  obtain ⟨hlen, hkz⟩ := siz_kid hz
  have hc1 : ¬ 2000 < c + 1 := by rw [cou_eq] at hc; omega
  -- the kids, where each is taken as a term
  have kids : ¬ (k = 8 ∧ ks.all (smallB (n + 1)) = true) → ∀ (k' m' : Int) (r : List Int), takeK (takeV n) k' m' ks.length (packS ks ++ r) (c + 1) = some ((k', m', noText, ks), r, c + 1 + (ks.map (couT (n + 1))).sum) := by
    intro hns k' m' r
    rw [cou_eq, if_neg hns] at hc
    refine takeK_full _ _ _ ks r (c + 1) fun i hi r => ?_
    have hsum : ((ks.take i).map (couT (n + 1))).sum + couT (n + 1) ks[i] ≤ (ks.map (couT (n + 1))).sum := by
      have e1 : (ks.take (i + 1)).map (couT (n + 1)) = (ks.take i).map (couT (n + 1)) ++ [couT (n + 1) ks[i]] := by rw [List.take_succ_eq_append_getElem hi, List.map_append]; rfl
      have e2 : (ks.map (couT (n + 1))).sum = ((ks.take (i + 1)).map (couT (n + 1))).sum + ((ks.drop (i + 1)).map (couT (n + 1))).sum := by rw [← List.sum_append, ← List.map_append, List.take_append_drop]
      rw [e2, e1, List.sum_append]
      simp only [List.sum_cons, List.sum_nil, Nat.add_zero]
      omega
    exact h ks[i] r _ (List.all_eq_true.1 hall _ (List.getElem_mem hi)) (by omega) (hkz _ (List.getElem_mem hi)) (dep_kid hd hi)
  have start : ∀ (tag : Int) (l : List Int), takeV (n + 1) (tag :: l) c = takeT (takeV n) (tag.toNat : Int) l (c + 1) := by
    intro tag l
    show (if 2000 < c + 1 then none else match takeN 1 (tag :: l) with | none => none | some (tag, r) => takeT (takeV n) tag r (c + 1)) = _
    rw [if_neg hc1, takeN_one]
  rcases fit_kinds hf with rfl | rfl | rfl | rfl | rfl | rfl | rfl | rfl | rfl
  · rw [fit_1] at hf
    simp only [Bool.and_eq_true, decide_eq_true_eq] at hf
    have hks : ks = [] := List.eq_nil_of_length_eq_zero hf.2
    have hs := no_text hf.1.2
    subst hks hs
    rw [packT_leaf rfl (by decide)]
    have he : ∀ q : Int, q = m → (some (leafT (n + 1) 1 q noText, r, c + 1) : Option (Tm (n + 2) × List Int × Nat)) = some ((1, m, noText, []), r, c + couT (n + 2) (1, m, noText, [])) := fun q hq => by subst hq; rfl
    by_cases h1 : 0 ≤ m ∧ m ≤ 255
    · have e : headL 1 m noText 0 true = [97, m] := if_pos h1
      rw [e, List.cons_append, start]
      show (match takeN 1 (m :: ([] ++ r)) with | some (x, r) => some (leafT (n + 1) 1 x noText, r, c + 1) | none => none) = _
      rw [takeN_one]
      exact he _ (by omega)
    · by_cases h2 : m < 0
      · have e : headL 1 m noText 0 true = 98 :: 1 :: beL (-m) 7 := by
          show (if 0 ≤ m ∧ m ≤ 255 then [97, m] else if m < 0 then 98 :: 1 :: beL (-m) 7 else 98 :: 0 :: beL m 7) = _
          rw [if_neg h1, if_pos h2]
        rw [e, List.cons_append, start]
        show (match takeN 1 (1 :: (beL (-m) 7 ++ r)) with | some (x, r) => (match takeN 7 r with | some (y, r) => some (leafT (n + 1) 1 (if x = 1 then -(y : Int) else y) noText, r, c + 1) | none => none) | none => none) = _
        rw [takeN_one]
        show (match takeN 7 (beL (-m) 7 ++ r) with | some (y, r) => some (leafT (n + 1) 1 (if (1 : Int).toNat = 1 then -(y : Int) else y) noText, r, c + 1) | none => none) = _
        rw [takeN_append _ _ _ (by omega) (by have := hf.1.1.1; omega)]
        exact he _ (by show -((-m).toNat : Int) = m; omega)
      · have e : headL 1 m noText 0 true = 98 :: 0 :: beL m 7 := by
          show (if 0 ≤ m ∧ m ≤ 255 then [97, m] else if m < 0 then 98 :: 1 :: beL (-m) 7 else 98 :: 0 :: beL m 7) = _
          rw [if_neg h1, if_neg h2]
        rw [e, List.cons_append, start]
        show (match takeN 1 (0 :: (beL m 7 ++ r)) with | some (x, r) => (match takeN 7 r with | some (y, r) => some (leafT (n + 1) 1 (if x = 1 then -(y : Int) else y) noText, r, c + 1) | none => none) | none => none) = _
        rw [takeN_one]
        show (match takeN 7 (beL m 7 ++ r) with | some (y, r) => some (leafT (n + 1) 1 (if (0 : Int).toNat = 1 then -(y : Int) else y) noText, r, c + 1) | none => none) = _
        rw [takeN_append _ _ _ (by omega) (by have := hf.1.1.2; omega)]
        exact he _ (by show (m.toNat : Int) = m; omega)
  · rw [fit_2] at hf
    simp only [Bool.and_eq_true, decide_eq_true_eq] at hf
    have hks : ks = [] := List.eq_nil_of_length_eq_zero hf.2
    obtain ⟨⟨rfl, hnm⟩, _⟩ := hf
    subst hks
    have hsz := name_le hnm
    rw [packT_leaf rfl (by decide)]
    have e : headL 2 0 s 0 true = 119 :: (s.size : Int) % 256 :: txtL s := rfl
    rw [e, List.cons_append, start]
    show (match takeN 1 ((s.size : Int) % 256 :: (txtL s ++ r)) with | some (x, r) => (match takeB x r with | some (s, r) => some (leafT (n + 1) 2 0 (strOfNums s), r, c + 1) | none => none) | none => none) = _
    rw [takeN_one, show ((s.size : Int) % 256).toNat = s.size by omega]
    show (match takeB s.size (txtL s ++ r) with | some (s, r) => some (leafT (n + 1) 2 0 (strOfNums s), r, c + 1) | none => none) = _
    rw [takeB_append _ _ _ (txtL_length s)]
    show some (leafT (n + 1) 2 0 (strOfNums (txtL s)), r, c + 1) = _
    rw [txt_back]
    rfl
  · rw [fit_3] at hf
    simp only [Bool.and_eq_true, decide_eq_true_eq] at hf
    have hks : ks = [] := List.eq_nil_of_length_eq_zero hf.2
    have hs := no_text hf.1.2
    subst hks hs
    rw [packT_leaf rfl (by decide)]
    have e : headL 3 m noText 0 true = 114 :: beL m 7 := rfl
    rw [e, List.cons_append, start]
    show (match takeN 7 (beL m 7 ++ r) with | some (x, r) => some (leafT (n + 1) 3 x noText, r, c + 1) | none => none) = _
    rw [takeN_append _ _ _ hf.1.1.1 (by have := hf.1.1.2; omega)]
    show some (leafT (n + 1) 3 (m.toNat : Int) noText, r, c + 1) = _
    rw [Int.toNat_of_nonneg hf.1.1.1]
    rfl
  · rw [fit_4] at hf
    simp only [Bool.and_eq_true, decide_eq_true_eq] at hf
    have hs := no_text hf.2
    subst hs
    rw [packT_kids (by decide)]
    have e : headL 4 m noText ks.length (ks.all (smallB (n + 1))) = 112 :: (beL m 7 ++ beL ks.length 2) := rfl
    rw [e, List.cons_append, List.cons_append, List.append_assoc, List.append_assoc, start]
    show (match takeN 7 (beL m 7 ++ (beL ks.length 2 ++ (packS ks ++ r))) with | some (x, r) => (match takeN 2 r with | some (y, r) => takeK (takeV n) 4 x y r (c + 1) | none => none) | none => none) = _
    rw [takeN_append _ _ _ hf.1.1 (by have := hf.1.2; omega)]
    show (match takeN 2 (beL ks.length 2 ++ (packS ks ++ r)) with | some (y, r) => takeK (takeV n) 4 (m.toNat : Int) y r (c + 1) | none => none) = _
    rw [takeN_append _ _ _ (by omega) (by omega), Int.toNat_of_nonneg hf.1.1]
    show takeK (takeV n) 4 m ((ks.length : Int).toNat) (packS ks ++ r) (c + 1) = _
    have hn8 : ¬ ((4 : Int) = 8 ∧ ks.all (smallB (n + 1)) = true) := fun h => absurd h.1 (by decide)
    rw [Int.toNat_natCast, kids hn8, cou_eq, if_neg hn8]
    exact some_add _ _ _ _ _
  · rw [fit_5] at hf
    simp only [Bool.and_eq_true, decide_eq_true_eq] at hf
    have hks : ks = [] := List.eq_nil_of_length_eq_zero hf.2
    have hs := no_text hf.1.2
    subst hks hs
    rw [packT_leaf rfl (by decide)]
    have e : headL 5 m noText 0 true = 103 :: beL m 7 := rfl
    rw [e, List.cons_append, start]
    show (match takeN 7 (beL m 7 ++ r) with | some (x, r) => some (leafT (n + 1) 5 x noText, r, c + 1) | none => none) = _
    rw [takeN_append _ _ _ hf.1.1.1 (by have := hf.1.1.2; omega)]
    show some (leafT (n + 1) 5 (m.toNat : Int) noText, r, c + 1) = _
    rw [Int.toNat_of_nonneg hf.1.1.1]
    rfl
  · rw [fit_6] at hf
    simp only [Bool.and_eq_true, decide_eq_true_eq] at hf
    obtain ⟨rfl, hs⟩ := hf
    have hs := no_text hs
    subst hs
    have hn8 : ¬ ((6 : Int) = 8 ∧ ks.all (smallB (n + 1)) = true) := fun h => absurd h.1 (by decide)
    rw [packT_kids (by decide)]
    by_cases h1 : ks.length ≤ 255
    · have e : headL 6 0 noText ks.length (ks.all (smallB (n + 1))) = [104, (ks.length : Int)] := by
        show (if ks.length ≤ 255 then [104, (ks.length : Int)] else 105 :: beL ks.length 2) = _
        rw [if_pos h1]
      rw [e, List.append_assoc, List.cons_append, start]
      show (match takeN 1 ((ks.length : Int) :: ([] ++ (packS ks ++ r))) with | some (x, r) => takeK (takeV n) 6 0 x r (c + 1) | none => none) = _
      rw [takeN_one]
      show takeK (takeV n) 6 0 ((ks.length : Int).toNat) (packS ks ++ r) (c + 1) = _
      rw [Int.toNat_natCast, kids hn8, cou_eq, if_neg hn8]
      exact some_add _ _ _ _ _
    · have e : headL 6 0 noText ks.length (ks.all (smallB (n + 1))) = 105 :: beL ks.length 2 := by
        show (if ks.length ≤ 255 then [104, (ks.length : Int)] else 105 :: beL ks.length 2) = _
        rw [if_neg h1]
      rw [e, List.append_assoc, List.cons_append, start]
      show (match takeN 2 (beL ks.length 2 ++ (packS ks ++ r)) with | some (x, r) => takeK (takeV n) 6 0 x r (c + 1) | none => none) = _
      rw [takeN_append _ _ _ (by omega) (by omega)]
      show takeK (takeV n) 6 0 ((ks.length : Int).toNat) (packS ks ++ r) (c + 1) = _
      rw [Int.toNat_natCast, kids hn8, cou_eq, if_neg hn8]
      exact some_add _ _ _ _ _
  · obtain ⟨p, hp⟩ := fit_even hf
    rw [fit_7] at hf
    simp only [Bool.and_eq_true, decide_eq_true_eq] at hf
    obtain ⟨⟨rfl, hs⟩, _⟩ := hf
    have hs := no_text hs
    subst hs
    have hn8 : ¬ ((7 : Int) = 8 ∧ ks.all (smallB (n + 1)) = true) := fun h => absurd h.1 (by decide)
    rw [packT_kids (by decide)]
    have e : headL 7 0 noText ks.length (ks.all (smallB (n + 1))) = 116 :: beL ((ks.length / 2 : Nat) : Int) 2 := rfl
    rw [e, List.append_assoc, List.cons_append, start]
    show (match takeN 2 (beL ((ks.length / 2 : Nat) : Int) 2 ++ (packS ks ++ r)) with | some (x, r) => takeK (takeV n) 7 0 (2 * x) r (c + 1) | none => none) = _
    rw [takeN_append _ _ _ (by omega) (by omega)]
    show takeK (takeV n) 7 0 (2 * ((ks.length / 2 : Nat) : Int).toNat) (packS ks ++ r) (c + 1) = _
    rw [Int.toNat_natCast, show 2 * (ks.length / 2) = ks.length by omega, kids hn8, cou_eq, if_neg hn8]
    exact some_add _ _ _ _ _
  · rw [fit_8] at hf
    simp only [Bool.and_eq_true, decide_eq_true_eq] at hf
    obtain ⟨rfl, hs⟩ := hf
    have hs := no_text hs
    subst hs
    rw [packT_list]
    by_cases h0 : ks.length = 0
    · have hks : ks = [] := List.eq_nil_of_length_eq_zero h0
      subst hks
      show takeV (n + 1) (106 :: r) c = _
      rw [start]
      rfl
    · cases hsm : ks.all (smallB (n + 1))
      · have hn8 : ¬ ((8 : Int) = 8 ∧ ks.all (smallB (n + 1)) = true) := fun h => by rw [hsm] at h; cases h.2
        have e : lstL ks.length false ++ lstS ks = 108 :: beL ks.length 2 ++ packS ks := by
          unfold lstL lstS
          rw [if_neg h0, hsm]
          rfl
        rw [e, List.append_assoc, List.cons_append, start]
        show (match takeN 2 (beL ks.length 2 ++ (packS ks ++ r)) with | some (x, r) => takeK (takeV n) 8 0 x r (c + 1) | none => none) = _
        rw [takeN_append _ _ _ (by omega) (by omega)]
        show takeK (takeV n) 8 0 ((ks.length : Int).toNat) (packS ks ++ r) (c + 1) = _
        rw [Int.toNat_natCast, kids hn8, cou_eq, if_neg hn8]
        exact some_add _ _ _ _ _
      · have e : lstL ks.length true ++ lstS ks = 107 :: (beL ks.length 2 ++ ks.map (numT (n + 1))) := by
          unfold lstL lstS
          rw [if_neg h0, hsm]
          rfl
        rw [e, List.cons_append, List.append_assoc, start]
        show (match takeN 2 (beL ks.length 2 ++ (ks.map (numT (n + 1)) ++ r)) with | some (x, r) => (match takeB x r with | some (s, r) => some (((8, 0, noText, s.map fun b => leafT n 1 b noText) : Tm (n + 2)), r, c + 1) | none => none) | none => none) = _
        rw [takeN_append _ _ _ (by omega) (by omega)]
        show (match takeB ((ks.length : Int).toNat) (ks.map (numT (n + 1)) ++ r) with | some (s, r) => some (((8, 0, noText, s.map fun b => leafT n 1 b noText) : Tm (n + 2)), r, c + 1) | none => none) = _
        rw [Int.toNat_natCast, takeB_append _ _ _ (List.length_map _)]
        have hk : (ks.map (numT (n + 1))).map (fun b => leafT n 1 b noText) = ks := by
          rw [List.map_map]
          conv => rhs; rw [← List.map_id ks]
          apply List.map_congr_left
          intro t ht
          exact (small_leaf (List.all_eq_true.1 hsm t ht) (List.all_eq_true.1 hall t ht)).symm
        show some (((8, 0, noText, (ks.map (numT (n + 1))).map fun b => leafT n 1 b noText) : Tm (n + 2)), r, c + 1) = _
        rw [hk, cou_eq, if_pos ⟨rfl, hsm⟩]
        rfl
  · rw [fit_9] at hf
    simp only [Bool.and_eq_true, decide_eq_true_eq] at hf
    have hks : ks = [] := List.eq_nil_of_length_eq_zero hf.2
    obtain ⟨⟨rfl, hsz⟩, _⟩ := hf
    subst hks
    rw [packT_leaf rfl (by decide)]
    have e : headL 9 0 s 0 true = 109 :: (beL s.size 2 ++ txtL s) := rfl
    rw [e, List.cons_append, List.append_assoc, start]
    show (match takeN 2 (beL s.size 2 ++ (txtL s ++ r)) with | some (x, r) => (match takeB x r with | some (s, r) => some (leafT (n + 1) 9 0 (strOfNums s), r, c + 1) | none => none) | none => none) = _
    rw [takeN_append _ _ _ (by omega) (by omega)]
    show (match takeB ((s.size : Int).toNat) (txtL s ++ r) with | some (s, r) => some (leafT (n + 1) 9 0 (strOfNums s), r, c + 1) | none => none) = _
    rw [Int.toNat_natCast, takeB_append _ _ _ (txtL_length s)]
    show some (leafT (n + 1) 9 0 (strOfNums (txtL s)), r, c + 1) = _
    rw [txt_back]
    rfl

theorem take_any : ∀ n, TakeSaid n
  | 0 => fun t _ _ _ _ _ hd => by have := dep_pos t; omega
  | n + 1 => take_of (take_any n)

end Go.Proofs.YthfjgffhncogaaaGreat
