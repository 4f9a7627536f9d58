/- The order of trees is a total order: turned round, zero just at the same tree, going on from one to the next. Plain mathematics, no walk. -/
import Derived.Test.YthfjgffhncogaaaGreatQ5
import Derived.Test.YthfjgffhncogaaaGreatQ45
namespace Go.Proofs.YthfjgffhncogaaaGreat
open Go.RowKit

/-- The first that is not zero. -/
def thn (x y : Int) : Int := if x = 0 then y else x
/-- What three orders owe one another. -/
def T3 (x y z : Int) : Prop := x ≤ 0 → y ≤ 0 → (x = 0 ∧ y = 0 ∧ z = 0) ∨ ((x < 0 ∨ y < 0) ∧ z < 0)

theorem T3.thn {x1 y1 z1 x2 y2 z2 : Int} (h : T3 x1 y1 z1) (h2 : x1 = 0 → y1 = 0 → T3 x2 y2 z2) : T3 (thn x1 x2) (thn y1 y2) (thn z1 z2) := by
  intro hx hy
  unfold Go.Proofs.YthfjgffhncogaaaGreat.thn at *
  by_cases e1 : x1 = 0
  · by_cases e2 : y1 = 0
    · rw [if_pos e1] at hx ⊢; rw [if_pos e2] at hy ⊢
      have := h (by omega) (by omega)
      have := h2 e1 e2 hx hy
      rw [if_pos (by omega)]
      exact this
    · rw [if_pos e1] at hx ⊢; rw [if_neg e2] at hy ⊢
      have := h (by omega) (by omega)
      rw [if_neg (by omega)]
      omega
  · rw [if_neg e1] at hx ⊢
    by_cases e2 : y1 = 0
    · rw [if_pos e2] at hy ⊢
      have := h (by omega) (by omega)
      rw [if_neg (by omega)]
      omega
    · rw [if_neg e2] at hy ⊢
      have := h (by omega) (by omega)
      rw [if_neg (by omega)]
      omega
theorem thn_neg (x y : Int) : thn (-x) (-y) = - thn x y := by unfold thn; split <;> split <;> omega
theorem thn_zero {x y : Int} : thn x y = 0 ↔ x = 0 ∧ y = 0 := by unfold thn; split <;> omega
theorem thn_pos {x : Int} (y : Int) (h : x ≠ 0) : thn x y = x := if_neg h

theorem sgn_T3 (a b c : Int) : T3 (sgn a b) (sgn b c) (sgn a c) := by
  intro hx hy; unfold sgn at *
  by_cases h1 : a < b <;> by_cases h2 : b < a <;> by_cases h3 : b < c <;> by_cases h4 : c < b <;> by_cases h5 : a < c <;> by_cases h6 : c < a <;> simp [h1, h2, h3, h4, h5, h6] at hx hy ⊢ <;> omega
theorem sgn_anti (a b : Int) : sgn b a = - sgn a b := by unfold sgn; split <;> split <;> omega
theorem sgn_zero {a b : Int} : sgn a b = 0 ↔ a = b := by unfold sgn; split <;> (try split) <;> omega

/-- Two lists, the first pair that tells them apart, then their lengths. -/
def lexL {α β : Type} (f : α → β → Int) : List α → List β → Int
  | [], [] => 0
  | [], _ :: _ => -1
  | _ :: _, [] => 1
  | x :: xs, y :: ys => thn (f x y) (lexL f xs ys)
def sameL {α β : Type} (r : α → β → Bool) : List α → List β → Bool
  | [], [] => true
  | x :: xs, y :: ys => r x y && sameL r xs ys
  | _, _ => false

theorem lexL_T3 {α β γ : Type} {f : α → β → Int} {g : β → γ → Int} {h : α → γ → Int} (H : ∀ x y z, T3 (f x y) (g y z) (h x z)) : ∀ xs ys zs, T3 (lexL f xs ys) (lexL g ys zs) (lexL h xs zs)
  | [], [], [] => fun _ _ => by simp [lexL]
  | [], [], _ :: _ => fun _ _ => by simp [lexL]
  | [], _ :: _, [] => fun _ h => by simp [lexL] at h
  | [], _ :: _, _ :: _ => fun _ _ => by simp [lexL]
  | _ :: _, [], _ => fun h => by simp [lexL] at h
  | _ :: _, _ :: _, [] => fun _ h => by simp [lexL] at h
  | x :: xs, y :: ys, z :: zs => (H x y z).thn fun _ _ => lexL_T3 H xs ys zs
theorem lexL_anti {α β : Type} {f : α → β → Int} {g : β → α → Int} (H : ∀ x y, g y x = - f x y) : ∀ xs ys, lexL g ys xs = - lexL f xs ys
  | [], [] => rfl
  | [], _ :: _ => rfl
  | _ :: _, [] => rfl
  | x :: xs, y :: ys => by rw [lexL, lexL, H x y, lexL_anti H xs ys, thn_neg]
theorem lexL_zero {α β : Type} {f : α → β → Int} {r : α → β → Bool} (H : ∀ x y, f x y = 0 ↔ r x y = true) : ∀ xs ys, lexL f xs ys = 0 ↔ sameL r xs ys = true
  | [], [] => by simp [lexL, sameL]
  | [], _ :: _ => by simp [lexL, sameL]
  | _ :: _, [] => by simp [lexL, sameL]
  | x :: xs, y :: ys => by rw [lexL, sameL, thn_zero, Bool.and_eq_true, H x y, lexL_zero H xs ys]
theorem sameL_len {α β : Type} {r : α → β → Bool} : ∀ {xs : List α} {ys : List β}, sameL r xs ys = true → xs.length = ys.length
  | [], [], _ => rfl
  | [], _ :: _, h => by simp [sameL] at h
  | _ :: _, [], h => by simp [sameL] at h
  | x :: xs, y :: ys, h => by rw [sameL, Bool.and_eq_true] at h; rw [List.length_cons, List.length_cons, sameL_len h.2]

/-- Bytes. -/
def byteC (a b : UInt8) : Int := sgn a.toNat b.toNat
theorem less_lex : ∀ a b : List UInt8, (if Op.bytesLess a b then (-1 : Int) else if Op.bytesLess a b || a == b then 0 else 1) = lexL byteC a b
  | [], [] => rfl
  | [], _ :: _ => rfl
  | _ :: _, [] => by simp [Op.bytesLess, lexL]
  | x :: xs, y :: ys => by
    have ih := less_lex xs ys
    have e : Op.bytesLess (x :: xs) (y :: ys) = (decide (x < y) || (x == y && Op.bytesLess xs ys)) := rfl
    rw [lexL, e]
    by_cases h1 : x < y
    · have h1' : x.toNat < y.toNat := h1
      have : byteC x y = -1 := by unfold byteC sgn; rw [if_pos (by omega)]
      rw [this, decide_eq_true h1]; simp [thn]
    · by_cases h2 : x = y
      · subst h2
        have : byteC x x = 0 := by unfold byteC sgn; rw [if_neg (by omega), if_neg (by omega)]
        rw [this, ← ih, decide_eq_false h1]
        simp [thn]
      · have h1' : ¬ x.toNat < y.toNat := h1
        have h2' : x.toNat ≠ y.toNat := fun h => h2 (UInt8.toNat_inj.1 h)
        have : byteC x y = 1 := by unfold byteC sgn; rw [if_neg (by omega), if_pos (by omega)]
        rw [this, decide_eq_false h1]
        simp [thn, h2]
theorem ordS_lex (a b : ByteArray) : ordS a b = lexL byteC a.toList b.toList := less_lex _ _
theorem ordS_T3 (a b c : ByteArray) : T3 (ordS a b) (ordS b c) (ordS a c) := by
  rw [ordS_lex, ordS_lex, ordS_lex]; exact lexL_T3 (fun (x y z : UInt8) => sgn_T3 (x.toNat : Int) y.toNat z.toNat) _ _ _
theorem ordS_anti (a b : ByteArray) : ordS b a = - ordS a b := by
  rw [ordS_lex, ordS_lex]; exact lexL_anti (fun (x y : UInt8) => sgn_anti (x.toNat : Int) y.toNat) _ _
theorem sameL_eq {α : Type} [DecidableEq α] : ∀ xs ys : List α, sameL (fun a b => decide (a = b)) xs ys = true ↔ xs = ys
  | [], [] => by simp [sameL]
  | [], _ :: _ => by simp [sameL]
  | _ :: _, [] => by simp [sameL]
  | x :: xs, y :: ys => by rw [sameL, Bool.and_eq_true, sameL_eq xs ys, decide_eq_true_eq, List.cons.injEq]
theorem ordS_zero {a b : ByteArray} : ordS a b = 0 ↔ a = b := by
  rw [ordS_lex, lexL_zero (r := fun a b => decide (a = b)) (fun x y => by
    unfold byteC; rw [sgn_zero, decide_eq_true_eq]
    constructor
    · intro h; exact UInt8.toNat_inj.1 (by omega)
    · rintro rfl; rfl), sameL_eq]
  constructor
  · intro h
    refine Decidable.byContradiction fun hn => ?_
    have := toList_ne hn
    rw [h] at this; simp at this
  · rintro rfl; rfl

/-- Each pair as long as both go on. -/
def pre {α β : Type} (f : α → β → Int) : List α → List β → Int
  | x :: xs, y :: ys => thn (f x y) (pre f xs ys)
  | _, _ => 0
theorem pre_lex {α β : Type} (f : α → β → Int) : ∀ (xs : List α) (ys : List β), xs.length = ys.length → pre f xs ys = lexL f xs ys
  | [], [], _ => rfl
  | [], _ :: _, h => by simp at h
  | _ :: _, [], h => by simp at h
  | x :: xs, y :: ys, h => by rw [pre, lexL, pre_lex f xs ys (by simpa using h)]
theorem pre_len {α β : Type} (f : α → β → Int) : ∀ (xs : List α) (ys : List β), thn (pre f xs ys) (sgn xs.length ys.length) = lexL f xs ys
  | [], [] => rfl
  | [], _ :: ys => by simp [pre, lexL, thn, sgn] <;> omega
  | _ :: xs, [] => by simp [pre, lexL, thn, sgn] <;> omega
  | x :: xs, y :: ys => by
    have ih := pre_len f xs ys
    rw [pre, lexL, ← ih]
    have : sgn ((x :: xs).length : Int) ((y :: ys).length : Int) = sgn xs.length ys.length := by simp [sgn]
    rw [this]
    unfold thn
    split <;> simp_all

/-- Every second one. -/
def ev {α : Type} : List α → List α
  | [] => []
  | [x] => [x]
  | x :: _ :: r => x :: ev r
theorem ev_cons {α : Type} (x : α) (xs : List α) : ev (x :: xs) = x :: ev (xs.drop 1) := by cases xs <;> rfl
theorem ev_len {α β : Type} : ∀ (xs : List α) (ys : List β), xs.length = ys.length → (ev xs).length = (ev ys).length
  | [], [], _ => rfl
  | [_], [_], _ => rfl
  | _ :: _ :: r, _ :: _ :: s, h => by simp [ev, ev_len r s (by simpa using h)]
  | [], _ :: _, h => by simp at h
  | _ :: _, [], h => by simp at h
  | [_], _ :: _ :: _, h => by simp at h
  | _ :: _ :: _, [_], h => by simp at h

theorem each_one {α β : Type} (f : α → β → Int) (ks : List α) (ls : List β) : ∀ fuel i, ks.length ≤ i + fuel → eachI f ks ls 1 fuel i = pre f (ks.drop i) (ls.drop i)
  | 0, i, h => by rw [List.drop_eq_nil_of_le (by omega : ks.length ≤ i)]; rfl
  | fuel + 1, i, h => by
    by_cases h1 : i < ks.length
    · by_cases h2 : i < ls.length
      · rw [eachI_in _ _ _ _ _ _ h1 h2, each_one f ks ls fuel (i + 1) (by omega), List.drop_eq_getElem_cons h1, List.drop_eq_getElem_cons h2]; rfl
      · rw [eachI_out _ _ _ _ _ _ (.inr (by omega)), List.drop_eq_nil_of_le (by omega : ls.length ≤ i)]; cases ks.drop i <;> rfl
    · rw [eachI_out _ _ _ _ _ _ (.inl (by omega)), List.drop_eq_nil_of_le (by omega : ks.length ≤ i)]; rfl
theorem each_two {α β : Type} (f : α → β → Int) (ks : List α) (ls : List β) : ∀ fuel i, ks.length ≤ i + fuel → eachI f ks ls 2 fuel i = pre f (ev (ks.drop i)) (ev (ls.drop i))
  | 0, i, h => by rw [List.drop_eq_nil_of_le (by omega : ks.length ≤ i)]; rfl
  | fuel + 1, i, h => by
    by_cases h1 : i < ks.length
    · by_cases h2 : i < ls.length
      · rw [eachI_in _ _ _ _ _ _ h1 h2, each_two f ks ls fuel (i + 2) (by omega), List.drop_eq_getElem_cons h1, List.drop_eq_getElem_cons h2, ev_cons, ev_cons, List.drop_drop, List.drop_drop]; rfl
      · rw [eachI_out _ _ _ _ _ _ (.inr (by omega)), List.drop_eq_nil_of_le (by omega : ls.length ≤ i)]; cases ev (ks.drop i) <;> rfl
    · rw [eachI_out _ _ _ _ _ _ (.inl (by omega)), List.drop_eq_nil_of_le (by omega : ks.length ≤ i)]; rfl

theorem same_ev {α β : Type} (r : α → β → Bool) : ∀ (xs : List α) (ys : List β), xs.length = ys.length → (sameL r xs ys = true ↔ sameL r (ev xs) (ev ys) = true ∧ sameL r (ev (xs.drop 1)) (ev (ys.drop 1)) = true)
  | [], [], _ => by simp [ev, sameL]
  | [x], [y], _ => by simp [ev, sameL]
  | x :: x' :: xs, y :: y' :: ys, h => by
    have ih := same_ev r xs ys (by simpa using h)
    simp only [sameL, ev, List.drop_succ_cons, List.drop_zero, Bool.and_eq_true, ev_cons, ih]
    constructor
    · rintro ⟨a, b, c, d⟩; exact ⟨⟨a, c⟩, b, d⟩
    · rintro ⟨⟨a, c⟩, b, d⟩; exact ⟨a, b, c, d⟩
  | [], _ :: _, h => by simp at h
  | _ :: _, [], h => by simp at h
  | [_], _ :: _ :: _, h => by simp at h
  | _ :: _ :: _, [_], h => by simp at h

/-- The order of two rows of kids of terms of kind k. -/
def kidC {α β : Type} (f : α → β → Int) (k : Int) (ks : List α) (ls : List β) : Int :=
  if k = 8 then lexL f ks ls else thn (sgn ks.length ls.length) (if k = 7 then thn (lexL f (ev ks) (ev ls)) (lexL f (ev (ks.drop 1)) (ev (ls.drop 1))) else lexL f ks ls)

theorem cmp_thn {n m : Nat} (k k' i i' : Int) (s s' : ByteArray) (ks : List (Tm n)) (ls : List (Tm m)) :
    cmpT (n + 1) (m + 1) (k, i, s, ks) (k', i', s', ls) = thn (sgn k k') (thn (sgn i i') (thn (ordS s s') (kidC (cmpT n m) k ks ls))) := by
  by_cases h1 : k = k'
  case neg => rw [cmp_kind h1, thn_pos _ fun h => h1 (sgn_zero.1 h)]
  subst h1
  rw [sgn_zero.2 rfl]
  by_cases h2 : i = i'
  case neg => rw [cmp_num h2, thn_pos _ fun h => h2 (sgn_zero.1 h)]; rfl
  subst h2
  rw [sgn_zero.2 rfl]
  by_cases h3 : s = s'
  case neg => rw [cmp_text h3, thn_pos _ fun h => h3 (ordS_zero.1 h)]; rfl
  subst h3
  rw [ordS_zero.2 rfl]
  show _ = kidC (cmpT n m) k ks ls
  unfold kidC
  by_cases h8 : k = 8
  · subst h8
    rw [cmp_list, if_pos rfl, each_one _ _ _ _ _ (by omega), List.drop_zero, List.drop_zero, ← pre_len]; rfl
  rw [if_neg h8]
  by_cases hl : ks.length = ls.length
  case neg => rw [cmp_len h8 hl, thn_pos _ fun h => hl (by have := sgn_zero.1 h; omega)]
  rw [sgn_zero.2 (by omega)]
  show _ = ite _ _ _
  by_cases h7 : k = 7
  · subst h7
    rw [cmp_map hl, if_pos rfl, each_two _ _ _ _ _ (by omega), each_two _ _ _ _ _ (by omega), List.drop_zero, List.drop_zero, pre_lex _ _ _ (ev_len _ _ hl), pre_lex _ _ _ (ev_len _ _ (by simp [hl]))]; rfl
  · rw [cmp_rest h8 h7 hl, if_neg h7, each_one _ _ _ _ _ (by omega), List.drop_zero, List.drop_zero, pre_lex _ _ _ hl]; rfl

/-- The same tree, whatever depth each is held at. -/
def sameT : (n m : Nat) → Tm n → Tm m → Bool
  | 0, _, t, _ => t.elim
  | _ + 1, 0, _, u => u.elim
  | n + 1, m + 1, (k, i, s, ks), (k', i', s', ls) => decide (k = k') && decide (i = i') && decide (s = s') && sameL (sameT n m) ks ls

theorem kid_zero {α β : Type} {f : α → β → Int} {r : α → β → Bool} (H : ∀ x y, f x y = 0 ↔ r x y = true) (k : Int) (ks : List α) (ls : List β) : kidC f k ks ls = 0 ↔ sameL r ks ls = true := by
  unfold kidC
  by_cases h8 : k = 8
  · rw [if_pos h8, lexL_zero H]
  rw [if_neg h8, thn_zero, sgn_zero]
  by_cases hl : ks.length = ls.length
  case neg =>
    constructor
    · rintro ⟨h, _⟩; omega
    · intro h; exact absurd (sameL_len h) hl
  by_cases h7 : k = 7
  · rw [if_pos h7, thn_zero, lexL_zero H, lexL_zero H, same_ev r ks ls hl]
    constructor
    · exact fun h => h.2
    · exact fun h => ⟨by omega, h⟩
  · rw [if_neg h7, lexL_zero H]
    constructor
    · exact fun h => h.2
    · exact fun h => ⟨by omega, h⟩

theorem cmp_zero : ∀ (n m : Nat) (t : Tm n) (u : Tm m), cmpT n m t u = 0 ↔ sameT n m t u = true
  | 0, _, t, _ => t.elim
  | _ + 1, 0, _, u => u.elim
  | n + 1, m + 1, (k, i, s, ks), (k', i', s', ls) => by
    rw [cmp_thn, thn_zero, thn_zero, thn_zero, sgn_zero, sgn_zero, ordS_zero, kid_zero (cmp_zero n m), sameT]
    simp only [Bool.and_eq_true, decide_eq_true_eq]
    constructor
    · rintro ⟨a, b, c, d⟩; exact ⟨⟨⟨a, b⟩, c⟩, d⟩
    · rintro ⟨⟨⟨a, b⟩, c⟩, d⟩; exact ⟨a, b, c, d⟩

theorem kid_anti {α β : Type} {f : α → β → Int} {g : β → α → Int} (H : ∀ x y, g y x = - f x y) (k : Int) (ks : List α) (ls : List β) : kidC g k ls ks = - kidC f k ks ls := by
  unfold kidC
  by_cases h8 : k = 8
  · rw [if_pos h8, if_pos h8, lexL_anti H]
  rw [if_neg h8, if_neg h8, sgn_anti]
  by_cases h7 : k = 7
  · rw [if_pos h7, if_pos h7, lexL_anti H, lexL_anti H, thn_neg, thn_neg]
  · rw [if_neg h7, if_neg h7, lexL_anti H, thn_neg]
theorem cmp_anti : ∀ (n m : Nat) (t : Tm n) (u : Tm m), cmpT m n u t = - cmpT n m t u
  | 0, _, t, _ => t.elim
  | _ + 1, 0, _, u => u.elim
  | n + 1, m + 1, (k, i, s, ks), (k', i', s', ls) => by
    rw [cmp_thn, cmp_thn]
    by_cases h : k = k'
    · subst h; rw [sgn_zero.2 rfl, sgn_anti i i', ordS_anti s s', kid_anti (cmp_anti n m), thn_neg, thn_neg]
      unfold thn; rw [if_pos rfl, if_pos rfl]
    · rw [thn_pos _ fun e => h (sgn_zero.1 e), thn_pos _ fun e => h (sgn_zero.1 e).symm, sgn_anti]

theorem kid_T3 {α β γ : Type} {f : α → β → Int} {g : β → γ → Int} {h : α → γ → Int} (H : ∀ x y z, T3 (f x y) (g y z) (h x z)) (k : Int) (xs : List α) (ys : List β) (zs : List γ) :
    T3 (kidC f k xs ys) (kidC g k ys zs) (kidC h k xs zs) := by
  unfold kidC
  by_cases h8 : k = 8
  · rw [if_pos h8, if_pos h8, if_pos h8]; exact lexL_T3 H _ _ _
  rw [if_neg h8, if_neg h8, if_neg h8]
  refine (sgn_T3 _ _ _).thn fun _ _ => ?_
  by_cases h7 : k = 7
  · rw [if_pos h7, if_pos h7, if_pos h7]; exact (lexL_T3 H _ _ _).thn fun _ _ => lexL_T3 H _ _ _
  · rw [if_neg h7, if_neg h7, if_neg h7]; exact lexL_T3 H _ _ _
theorem cmp_T3 : ∀ (n m l : Nat) (t : Tm n) (u : Tm m) (v : Tm l), T3 (cmpT n m t u) (cmpT m l u v) (cmpT n l t v)
  | 0, _, _, t, _, _ => t.elim
  | _ + 1, 0, _, _, u, _ => u.elim
  | _ + 1, _ + 1, 0, _, _, v => v.elim
  | n + 1, m + 1, l + 1, (k, i, s, ks), (k', i', s', ls), (k'', i'', s'', ms) => by
    rw [cmp_thn, cmp_thn, cmp_thn]
    refine (sgn_T3 _ _ _).thn fun h _ => (sgn_T3 _ _ _).thn fun _ _ => (ordS_T3 _ _ _).thn fun _ _ => ?_
    have := sgn_zero.1 h
    subst this
    exact kid_T3 (cmp_T3 n m l) _ _ _ _

end Go.Proofs.YthfjgffhncogaaaGreat
/- What TermUnpack says of a term's bytes, of one byte more, of one less. -/
namespace Go.Proofs.YthfjgffhncogaaaGreat
open Go.RowKit Go.Deep

theorem sameT_self : ∀ (n : Nat) (t : Tm n), sameT n n t t = true
  | 0, t => t.elim
  | n + 1, (k, i, s, ks) => by
    have h : sameL (sameT n n) ks ks = true := by
      induction ks with
      | nil => rfl
      | cons t ks ih => simp [sameL, sameT_self n t, ih]
    simp [sameT, h]

theorem whole_pack {data : ByteArray} {t : Tm 101} {r : List Int} (hok : okB 101 t = true) (h : txtL data = 131 :: packT 101 t ++ r) : wholeT data = some (t, r, 0 + couT 101 t) := by
  have hv := ok_val.1 hok
  have hsz : siz 101 t ≤ 2000 := by have := hv.2.1; omega
  have hdp : dep 101 t ≤ 100 := by have := hv.2.2; omega
  have hta := take_any 100 t r 0 hv.1 (by have h9 : couT (100 + 1) t ≤ siz 101 t := cou_siz 101 t; omega) hsz hdp
  have h0 : suf data 0 = 131 :: (packT 101 t ++ r) := by unfold suf; rw [List.drop_zero, h]; rfl
  unfold wholeT
  rw [h0, takeN_one]
  dsimp only
  rw [if_pos (by rfl)]
  exact hta

theorem pack_lit {t : Tm 101} (hok : okB 101 t = true) (hl : 1 + (packT 101 t).length ≤ 40000) : txtL (packStr 101 t) = 131 :: packT 101 t := by
  rw [packStr_yes hok hl]
  exact txtL_nums _ fun x hx => by
    rcases List.mem_cons.1 hx with rfl | h
    · exact ⟨by decide, by decide⟩
    · exact packT_byte 101 t x h
theorem code_zero {t : Tm 101} (h : packCode 101 t = 0) : okB 101 t = true ∧ 1 + (packT 101 t).length ≤ 40000 := by
  by_cases hok : okB 101 t = true
  · by_cases hl : 1 + (packT 101 t).length ≤ 40000
    · exact ⟨hok, hl⟩
    · rw [packCode_full hok hl] at h; cases h
  · rw [packCode_no hok] at h; cases h

/-- A term's bytes are read as it was. -/
theorem back_same {t : Tm 101} (h : packCode 101 t = 0) : unpT (packStr 101 t) = some t := by
  obtain ⟨hok, hl⟩ := code_zero h
  rw [unp_of (whole_pack (r := []) hok (by rw [pack_lit hok hl, List.append_nil]))]
  exact if_pos ⟨h, rfl⟩
theorem unp_str {data : ByteArray} {u : Tm 101} (h : unpT data = some u) : packCode 101 u = 0 ∧ packStr 101 u = data := by
  unfold unpT at h
  cases hw : wholeT data with
  | none => rw [hw] at h; cases h
  | some p =>
    obtain ⟨t, r, c⟩ := p
    rw [hw] at h
    dsimp only at h
    by_cases hp : packCode 101 t = 0 ∧ packStr 101 t = data
    · rw [if_pos hp] at h
      cases h
      exact hp
    · rw [if_neg hp] at h; cases h
/-- One byte more: none. -/
theorem back_more {t : Tm 101} (h : packCode 101 t = 0) : unpT (packStr 101 t ++ ⟨#[97]⟩) = none := by
  obtain ⟨hok, hl⟩ := code_zero h
  exact unp_left (r := [97]) (whole_pack hok (by rw [txtL_append, pack_lit hok hl]; rfl)) (by simp)
/-- One byte less: none. -/
theorem back_less {t : Tm 101} (h : packCode 101 t = 0) {s' : ByteArray} {x : Int} (hs : txtL (packStr 101 t) = txtL s' ++ [x]) : unpT s' = none := by
  obtain ⟨hok, hl⟩ := code_zero h
  cases hu : unpT s' with
  | none => rfl
  | some u =>
    obtain ⟨h1, h2⟩ := unp_str hu
    obtain ⟨hok', hl'⟩ := code_zero h1
    have e1 : txtL s' = 131 :: packT 101 u := by rw [← h2]; exact pack_lit hok' hl'
    have w1 := whole_pack (data := packStr 101 t) (r := [x]) hok' (by rw [hs, e1])
    have w2 := whole_pack (data := packStr 101 t) (r := []) hok (by rw [pack_lit hok hl, List.append_nil])
    rw [w1] at w2
    simp at w2
theorem pack_size {t : Tm 101} (h : packCode 101 t = 0) : (packStr 101 t).size = 1 + (packT 101 t).length ∧ (packStr 101 t).size ≤ 40000 := by
  obtain ⟨hok, hl⟩ := code_zero h
  have := congrArg List.length (pack_lit hok hl)
  rw [txtL_length] at this
  simp at this
  omega
theorem txtL_last {s : ByteArray} (h : 0 < s.size) : ∃ x, txtL s = txtL (s.extract 0 (s.size - 1)) ++ [x] := by
  have hl : (txtL s).length = s.size := txtL_length s
  have h1 := cut_text s 0 (s.size - 1)
  rw [Nat.zero_add] at h1
  have h0 : suf s 0 = txtL s := rfl
  rw [h1, h0, txtL_nums _ fun x hx => txtL_byte s x (List.mem_of_mem_take hx)]
  refine ⟨(txtL s)[s.size - 1]'(by omega), ?_⟩
  have := List.take_append_getElem (l := txtL s) (i := s.size - 1) (by omega)
  rw [this, List.take_of_length_le (by omega)]

end Go.Proofs.YthfjgffhncogaaaGreat
