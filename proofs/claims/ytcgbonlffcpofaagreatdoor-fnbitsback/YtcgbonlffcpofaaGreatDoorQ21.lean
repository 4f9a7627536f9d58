/- BitMatch: what comes of it, as a function. -/
import Derived.Test.YtcgbonlffcpofaaGreatDoorQ18
import Derived.Test.YtcgbonlffcpofaaGreatDoorQ19
import Derived.Test.YtcgbonlffcpofaaGreatDoorQ9
import Derived.Test.YtcgbonlffcpofaaGreatDoorQ8
import Derived.BigQuiet
import Derived.Deep.RegionWith
import Derived.Test.YtcgbonlffcpofaaGreatDoorQ5
import Derived.Test.YtcgbonlffcpofaaGreatDoorQ20
namespace Go.Proofs.YtcgbonlffcpofaaGreatDoor
open Go.RowKit

/-- The term that a part makes of W bits from bit f on. -/
def leafM {n : Nat} (s : ByteArray) (f W : Nat) (g : SgT n) : Tm 1 :=
  if g.1 = 1 then ((1 : Int), signed g.2.2.2.1 W (orN (gbit s f) W g.2.2.2.2.1 W), (⟨#[]⟩ : ByteArray), ([] : List (Tm 0))) else ((9 : Int), (0 : Int), strB (cutBits s f W), ([] : List (Tm 0)))
/-- Whether a part takes its share of so many bits that are left. -/
def takesM {n : Nat} (g : SgT n) (left : Nat) : Prop := sgW g left ≤ (left : Int) ∧ sgW g left % g.2.2.1 = 0
/-- What comes of the parts from bit f on, behind the terms that are there: a code, and the terms. -/
def matX {n : Nat} (s : ByteArray) (L : Nat) : List (Tm 1) → Nat → List (SgT n) → Int × List (Tm 1)
  | acc, f, [] => if f < L then (6, []) else (0, acc)
  | acc, f, g :: gs => if sgW g ((L - f : Nat) : Int) ≤ ((L - f : Nat) : Int) ∧ sgW g ((L - f : Nat) : Int) % g.2.2.1 = 0 then matX s L (acc ++ [leafM s f (sgW g ((L - f : Nat) : Int)).toNat g]) (f + (sgW g ((L - f : Nat) : Int)).toNat) gs else (6, [])
/-- Whether parts can be matched. -/
def okM {n : Nat} (gs : List (SgT n)) : Prop := gs.length ≤ 200 ∧ ∀ i (h : i < gs.length), sgOK gs[i] = true ∧ (gs[i].2.1 = -1 → i + 1 = gs.length)
/-- What BitMatch answers: a code, and the terms. -/
def MatA {n : Nat} (L : Int) (s : ByteArray) (gs : List (SgT n)) (r : Int × List (Tm 1)) : Prop :=
  (okS L s = true ∧ okM gs ∧ matX s L.toNat [] 0 gs = r) ∨ (¬ (okS L s = true ∧ okM gs) ∧ r = (1, []))
section
variable {n : Nat} {s : ByteArray} {L f W : Nat} {g : SgT n} {gs : List (SgT n)} {acc : List (Tm 1)} {r : Int × List (Tm 1)}
theorem matX_on (hw : sgW g ((L - f : Nat) : Int) = (W : Int)) (hl : W ≤ L - f) (hm : (W : Int) % g.2.2.1 = 0) : matX s L acc f (g :: gs) = matX s L (acc ++ [leafM s f W g]) (f + W) gs := by
  rw [matX, if_pos ⟨by rw [hw]; omega, by rw [hw]; exact hm⟩, hw, Int.toNat_natCast]
theorem matX_no (h : ¬ takesM g (L - f)) : matX s L acc f (g :: gs) = (6, []) := by rw [matX, if_neg (show ¬ (sgW g ((L - f : Nat) : Int) ≤ ((L - f : Nat) : Int) ∧ sgW g ((L - f : Nat) : Int) % g.2.2.1 = 0) from h)]
theorem matX_end (h : ¬ f < L) : matX s L acc f ([] : List (SgT n)) = (0, acc) := by rw [matX, if_neg h]
theorem matX_left (h : f < L) : matX s L acc f ([] : List (SgT n)) = (6, []) := by rw [matX, if_pos h]

end

theorem leaf_slice {S : Nat → Prop} {w : World} : ∀ {t : Tm 1} {c0 c1 c2 c3 : Value}, TAt S w 1 t c0 c1 c2 c3 → ∃ a cap, c3 = .slice a (kidsOf t).length cap
  | (_, _, _, _), _, _, _, _, ⟨_, _, _, _, _, _, a, cap, h, _⟩ => ⟨a, cap, h⟩

/-- A row of leaves: its blocks are its own. -/
theorem RowsX.own {base hi : Nat} {w : World} {ts : List (Tm 1)} {v : Value} {xs : List Value} (h : RowsX base w ts v xs) (hh : w.heap.size ≤ hi) : OwnS w 1 base hi ts v := by
  obtain ⟨h1, h2⟩ := h
  rcases h1.2 with ⟨rfl, h3⟩ | ⟨R, cap, cur, rfl, h4, h5, h6, h7, h8, h9⟩
  · have h0 : ts = [] := List.eq_nil_of_length_eq_zero h3
    subst h0
    exact ⟨none, 0, rfl, .inl rfl⟩
  · have hlt := (h1.lt R rfl).2
    refine ⟨_, cap, rfl, .inr ⟨R, cur, fun _ => R + 1, rfl, h5, h4, Nat.lt_succ_self _, fun _ _ _ => Nat.le_refl _, by show R + 1 ≤ hi; omega, by omega, fun i hi => ?_⟩⟩
    obtain ⟨d0, d1, d2, d3, e0, e1, e2, e3, ht⟩ := h2.2 i hi
    obtain ⟨_, _, _, ua, ul, uc, rfl, rfl, rfl, rfl⟩ := ht.shape
    refine ⟨.slice ua ul uc, ?_, leaf_slice ht⟩
    have := h1.cells (g := R) rfl (i * 4 + 3) _ e3
    rw [Go.WideShapes.add_plain, cell_of_heap h5, Nat.zero_add] at this
    exact this

theorem signed_64 {sg : Bool} {W x : Nat} (hW : W ≤ 49) (hx : x < 2 ^ W) : In64 (signed sg W x) := by
  have h1 : ((x : Nat) : Int) < ((2 ^ W : Nat) : Int) := Int.ofNat_lt.2 hx
  have h2 : ((2 ^ W : Nat) : Int) = 2 ^ W := by simp
  have h3 := two_pow_hi W hW
  rw [h2] at h1
  unfold In64 signed
  split <;> omega
theorem leaf_at {n : Nat} (S : Nat → Prop) (w : World) {k m : Int} {t : ByteArray} (hk : In64 k) (hm : In64 m) (ht : t.size ≤ 2 ^ 47) : TAt S w (n + 1) ((k, m, t, ([] : List (Tm n))) : Tm (n + 1)) (.int .i64 k) (.int .i64 m) (.string t) (.slice none 0 0) :=
  ⟨rfl, rfl, rfl, hk, hm, ht, none, 0, rfl, Nat.le_refl _, by simp, fun i hi => by cases hi⟩
theorem leafM_int {n : Nat} {s : ByteArray} {f W : Nat} {g : SgT n} (h : g.1 = 1) : leafM s f W g = ((1 : Int), signed g.2.2.2.1 W (orN (gbit s f) W g.2.2.2.2.1 W), (⟨#[]⟩ : ByteArray), ([] : List (Tm 0))) := if_pos h
theorem leafM_bin {n : Nat} {s : ByteArray} {f W : Nat} {g : SgT n} (h : g.1 ≠ 1) : leafM s f W g = ((9 : Int), (0 : Int), strB (cutBits s f W), ([] : List (Tm 0))) := if_neg h
theorem strB_cut_size (s : ByteArray) (f W : Nat) (hW : W ≤ 32000) : (strB (cutBits s f W)).size ≤ 2 ^ 47 := by
  have h := strB_size (cutBits s f W)
  rw [cutBits_length] at h
  rw [h]; omega

end Go.Proofs.YtcgbonlffcpofaaGreatDoor
/- Bits and back, plainly: what is built of parts is matched by them into their values, and these are built into the same bits. -/
namespace Go.Proofs.YtcgbonlffcpofaaGreatDoor
open Go.RowKit

/-! A number's bits, and the number of these bits. -/
theorem mod_bit (v : Int) (W q : Nat) (hq : q < W) : v % 2 ^ W / 2 ^ q % 2 = v / 2 ^ q % 2 := by
  obtain ⟨d, rfl⟩ : ∃ d, W = q + (d + 1) := ⟨W - q - 1, by omega⟩
  have h1 : v % 2 ^ (q + (d + 1)) = v + 2 ^ q * (-(2 ^ (d + 1) * (v / 2 ^ (q + (d + 1))))) := by
    have := Int.mul_ediv_add_emod v (2 ^ (q + (d + 1)))
    rw [Int.pow_add] at this ⊢
    rw [Int.mul_assoc] at this
    rw [Int.mul_neg]
    omega
  rw [h1, Int.add_mul_ediv_left _ _ (Int.ne_of_gt (two_pow_lo q)), Int.pow_succ, Int.mul_comm (2 ^ d) 2, Int.mul_assoc]
  generalize 2 ^ d * (v / 2 ^ (q + (d + 1))) = x
  omega
theorem put_orN (v : Int) (W : Nat) (li : Bool) : ((orN (xbit (putBits v W li)) W li W : Nat) : Int) = v % 2 ^ W := by
  have hp := two_pow_lo W
  have h0 := Int.emod_nonneg v (Int.ne_of_gt hp)
  have h1 := Int.emod_lt_of_pos v hp
  obtain ⟨m, hm⟩ : ∃ m : Nat, v % 2 ^ W = m := ⟨(v % 2 ^ W).toNat, by omega⟩
  rw [hm]
  have hmW : m < 2 ^ W := by
    have e : ((2 ^ W : Nat) : Int) = 2 ^ W := by simp
    rw [hm, ← e] at h1
    exact Int.ofNat_lt.1 h1
  congr 1
  refine Nat.eq_of_testBit_eq fun q => ?_
  rw [Bool.eq_iff_iff, orN_bit]
  by_cases hq : q < W
  · have hb : m.testBit q = true ↔ v / 2 ^ q % 2 = 1 := by
      rw [← mod_bit v W q hq, hm, Nat.testBit_eq_decide_div_mod_eq, decide_eq_true_eq]
      have e : ((2 ^ q : Nat) : Int) = 2 ^ q := by simp
      rw [← e, ← Int.natCast_ediv]
      omega
    rw [hb]
    constructor
    · rintro ⟨i, hi, hx, rfl⟩
      unfold xbit at hx
      rw [putBits_getD v W li i hi] at hx
      simpa using hx
    · intro h
      obtain ⟨i, hi, hpw⟩ : ∃ i, i < W ∧ pw W li i = q := by
        cases li with
        | false => exact ⟨W - (q + 1), by omega, pw_big W q hq⟩
        | true => exact ⟨8 * (q / 8) + (min (8 * (q / 8) + 8) W - (q + 1)), by omega, pw_little W (q / 8) q (by omega) (by omega) hq⟩
      refine ⟨i, hi, ?_, hpw⟩
      unfold xbit
      rw [putBits_getD v W li i hi, hpw, h]
      rfl
  · constructor
    · rintro ⟨i, hi, _, h⟩
      have := pw_lt W li i hi
      omega
    · intro h
      have := Nat.testBit_lt_two_pow (Nat.lt_of_lt_of_le hmW (Nat.pow_le_pow_right (by decide) (show W ≤ q by omega)))
      rw [this] at h
      cases h
theorem signed_mod (sg : Bool) (W x : Nat) : ∃ j : Int, signed sg W x = x + 2 ^ W * j := by
  unfold signed
  split
  · exact ⟨-1, by omega⟩
  · exact ⟨0, by omega⟩
theorem add_bit (v j : Int) (W q : Nat) (hq : q < W) : (v + 2 ^ W * j) / 2 ^ q % 2 = v / 2 ^ q % 2 := by
  rw [← mod_bit (v + 2 ^ W * j) W q hq, Int.add_mul_emod_self_left, mod_bit v W q hq]
theorem put_add (v j : Int) (W : Nat) (li : Bool) : putBits (v + 2 ^ W * j) W li = putBits v W li := by
  unfold putBits
  refine List.map_congr_left fun i hi => ?_
  exact add_bit v j W _ (pw_lt W li i (List.mem_range.1 hi))

/-! Parts, and what they become. -/
section
variable {n : Nat}
/-- How many bits a part makes. -/
def widG (g : SgT (n + 1)) : Nat := ((segX g).getD []).length
/-- The value that a part takes of the bits from f on. -/
def lf (X : List Int) (f : Nat) (g : SgT (n + 1)) : Tm (n + 1) :=
  if g.1 = 1 then ((1 : Int), signed g.2.2.2.1 (widG g) (orN (gbit (strB X) f) (widG g) g.2.2.2.2.1 (widG g)), (⟨#[]⟩ : ByteArray), ([] : List (Tm n)))
  else ((9 : Int), (0 : Int), strB (cutBits (strB X) f (widG g)), ([] : List (Tm n)))
def turnG (X : List Int) (f : Nat) (g : SgT (n + 1)) : SgT (n + 1) :=
  (g.1, (if g.2.1 < 0 then (widG g : Int) else g.2.1), (if g.2.1 < 0 then 1 else g.2.2.1), g.2.2.2.1, g.2.2.2.2.1, lf X f g)
def turnL (X : List Int) : Nat → List (SgT (n + 1)) → List (SgT (n + 1))
  | _, [] => []
  | f, g :: gs => turnG X f g :: turnL X (f + widG g) gs
def leafL (X : List Int) : Nat → List (SgT (n + 1)) → List (Tm 1)
  | _, [] => []
  | f, g :: gs => leafM (strB X) f (widG g) g :: leafL X (f + widG g) gs
/-- How many bits the parts ahead of one make. -/
def offs (gs : List (SgT (n + 1))) (i : Nat) : Nat := ((gs.take i).map widG).sum

variable {g : SgT (n + 1)} {gs : List (SgT (n + 1))} {acc xs X : List Int} {f i : Nat}
theorem wid_of (h : segX g = some xs) : widG g = xs.length := by unfold widG; rw [h]; rfl
theorem sg_facts (hok : sgOK g = true) : 1 ≤ g.2.2.1 ∧ g.2.2.1 ≤ 256 ∧ -1 ≤ g.2.1 ∧ g.2.1 ≤ 32000 ∧ (g.1 = 1 → 0 ≤ g.2.1 ∧ g.2.1 * g.2.2.1 ≤ 49) ∧ (g.1 ≠ 1 → g.1 = 2 ∧ g.2.2.2.1 = false ∧ g.2.2.2.2.1 = false) := by
  unfold sgOK at hok
  simp only [Bool.and_eq_true, decide_eq_true_eq] at hok
  obtain ⟨⟨⟨⟨h1, h2⟩, h3⟩, h4⟩, h5⟩ := hok
  refine ⟨h1, h2, h3, h4, fun h => ?_, fun h => ?_⟩
  · rw [if_pos h] at h5; simpa using h5
  · rw [if_neg h] at h5
    simp only [Bool.and_eq_true, decide_eq_true_eq, Bool.not_eq_true'] at h5
    exact ⟨h5.1.1, h5.1.2, h5.2⟩
theorem seg_facts (hok : sgOK g = true) (hx : segX g = some xs) : (xs.length : Int) % g.2.2.1 = 0 ∧ (g.2.1 ≠ -1 → (xs.length : Int) = g.2.1 * g.2.2.1) ∧
    (g.1 = 1 → xs = putBits (tN (n + 1) g.2.2.2.2.2) xs.length g.2.2.2.2.1 ∧ xs.length ≤ 49 ∧ 0 ≤ g.2.1 ∧ tK (n + 1) g.2.2.2.2.2 = 1) ∧
    (g.1 ≠ 1 → tK (n + 1) g.2.2.2.2.2 = 9 ∧ xs.length ≤ 8 * (tS (n + 1) g.2.2.2.2.2).size ∧ xs = bitsOf (tS (n + 1) g.2.2.2.2.2) xs.length) := by
  obtain ⟨h1, h2, h3, h4, h5, h6⟩ := sg_facts hok
  by_cases hg : g.1 = 1
  · obtain ⟨h7, h8⟩ := h5 hg
    unfold segX at hx
    rw [if_pos hg] at hx
    have hn := Int.mul_nonneg h7 (show 0 ≤ g.2.2.1 by omega)
    by_cases hk : tK (n + 1) g.2.2.2.2.2 = 1
    · rw [if_pos hk] at hx
      injection hx with hx
      have hl : (xs.length : Int) = g.2.1 * g.2.2.1 := by rw [← hx, putBits_length]; omega
      refine ⟨by rw [hl]; exact Int.mul_emod_left _ _, fun _ => hl, fun _ => ⟨?_, by omega, h7, hk⟩, fun h => absurd hg h⟩
      rw [← hx, putBits_length]
    · rw [if_neg hk] at hx; cases hx
  · unfold segX at hx
    rw [if_neg hg] at hx
    by_cases hk : tK (n + 1) g.2.2.2.2.2 = 9
    · rw [if_pos hk] at hx
      split at hx
      · rename_i hc
        injection hx with hx
        have hw0 : 0 ≤ sgW g (8 * (tS (n + 1) g.2.2.2.2.2).size) := by
          unfold sgW
          split
          · omega
          · exact Int.mul_nonneg (by omega) (by omega)
        have hl : (xs.length : Int) = sgW g (8 * (tS (n + 1) g.2.2.2.2.2).size) := by rw [← hx, bitsOf_length]; omega
        refine ⟨by rw [hl]; exact hc.2, fun h => by rw [hl]; unfold sgW; rw [if_neg h], fun h => absurd h hg, fun _ => ⟨hk, by omega, ?_⟩⟩
        rw [← hx, bitsOf_length]
      · cases hx
    · rw [if_neg hk] at hx; cases hx

theorem ok_int {N : Int} (h0 : -1000000000000000 ≤ N) (h1 : N ≤ 1000000000000000) : okB (n + 1) (((1 : Int), N, (⟨#[]⟩ : ByteArray), ([] : List (Tm n))) : Tm (n + 1)) = true := by
  have e : (⟨#[]⟩ : ByteArray).size = 0 := rfl
  simp [okB, fitsB, siz, dep, rightB, fit_1, h0, h1]
  try rfl
theorem ok_bin {s : ByteArray} (h : s.size ≤ 4000) : okB (n + 1) (((9 : Int), (0 : Int), s, ([] : List (Tm n))) : Tm (n + 1)) = true := by
  simp [okB, fitsB, siz, dep, rightB, fitB, h]

/-- What a part's value is. -/
theorem lf_int (hok : sgOK g = true) (hx : segX g = some xs) (hb : ∀ j, j < xs.length → bit (strB X) (f + j) = xs.getD j 0) (hg : g.1 = 1) :
    ∃ N j : Int, lf X f g = ((1 : Int), N, (⟨#[]⟩ : ByteArray), ([] : List (Tm n))) ∧ N = tN (n + 1) g.2.2.2.2.2 + 2 ^ xs.length * j ∧ -562949953421312 ≤ N ∧ N ≤ 562949953421312 := by
  obtain ⟨h1, h2, h3, h4⟩ := seg_facts hok hx
  obtain ⟨h5, h6, h7, h8⟩ := h3 hg
  have hN : orN (gbit (strB X) f) xs.length g.2.2.2.2.1 xs.length = orN (xbit xs) xs.length g.2.2.2.2.1 xs.length :=
    orN_congr _ _ _ fun j hj => by unfold gbit xbit; rw [hb j hj]
  have hp := put_orN (tN (n + 1) g.2.2.2.2.2) xs.length g.2.2.2.2.1
  rw [← h5, ← hN] at hp
  obtain ⟨j, hj⟩ := signed_mod g.2.2.2.1 xs.length (orN (gbit (strB X) f) xs.length g.2.2.2.2.1 xs.length)
  refine ⟨_, j - tN (n + 1) g.2.2.2.2.2 / 2 ^ xs.length, by unfold lf; refine (if_pos hg).trans ?_; rw [wid_of hx], ?_, ?_⟩
  · rw [hj, hp, Int.mul_sub]
    have := Int.mul_ediv_add_emod (tN (n + 1) g.2.2.2.2.2) (2 ^ xs.length)
    omega
  · have hlt := orN_lt (gbit (strB X) f) xs.length g.2.2.2.2.1 xs.length (Nat.le_refl _)
    have h9 := two_pow_hi xs.length h6
    have e : ((2 ^ xs.length : Nat) : Int) = 2 ^ xs.length := by simp
    have hlt' := Int.ofNat_lt.2 hlt
    rw [e] at hlt'
    unfold signed
    split <;> omega
theorem lf_bin (hx : segX g = some xs) (hb : ∀ j, j < xs.length → bit (strB X) (f + j) = xs.getD j 0) (hg : g.1 ≠ 1) :
    lf X f g = ((9 : Int), (0 : Int), strB xs, ([] : List (Tm n))) := by
  unfold lf
  refine (if_neg hg).trans ?_
  rw [wid_of hx]
  have : cutBits (strB X) f xs.length = xs := by
    apply List.ext_getElem (by rw [cutBits_length])
    intro i h1 h2
    have h3 := cutBits_getD (strB X) f xs.length i h2
    rw [hb i h2, List.getD_eq_getElem?_getD, List.getD_eq_getElem?_getD, List.getElem?_eq_getElem h1, List.getElem?_eq_getElem h2] at h3
    exact h3
  rw [this]
/-- The first bytes of a text, when the bits are whole bytes. -/
theorem strB_bytes (s : ByteArray) (m : Nat) (hm : m ≤ s.size) : strB (bitsOf s (8 * m)) = s.extract 0 m := by
  have hz : (strB (bitsOf s (8 * m))).size = m := by rw [strB_size, bitsOf_length]; omega
  refine ext_byt (by rw [hz, ByteArray.size_extract]; omega) fun j hj => ?_
  rw [hz] at hj
  rw [byt_strB _ (bits_01 s _) j (by rw [bitsOf_length]; omega), bitsOf_length, packed_bits s (8 * m) j _ (by omega), show min 8 (8 * m - 8 * j) = 8 by omega, pk_bit s j 8 (by omega)]
  rw [byt_get _ _ (by omega), byt_get _ _ (by rw [ByteArray.size_extract]; omega), ByteArray.getElem_extract]
  simp

theorem segX_int {p : SgT (n + 1)} (h1 : p.1 = 1) (hk : tK (n + 1) p.2.2.2.2.2 = 1) : segX p = some (putBits (tN (n + 1) p.2.2.2.2.2) (p.2.1 * p.2.2.1).toNat p.2.2.2.2.1) := by
  unfold segX; rw [if_pos h1, if_pos hk]
theorem segX_bin {p : SgT (n + 1)} (h1 : p.1 ≠ 1) (hk : tK (n + 1) p.2.2.2.2.2 = 9) (h2 : sgW p (8 * (tS (n + 1) p.2.2.2.2.2).size) ≤ 8 * (tS (n + 1) p.2.2.2.2.2).size) (h3 : sgW p (8 * (tS (n + 1) p.2.2.2.2.2).size) % p.2.2.1 = 0) :
    segX p = some (bitsOf (tS (n + 1) p.2.2.2.2.2) (sgW p (8 * (tS (n + 1) p.2.2.2.2.2).size)).toNat) := by
  unfold segX; rw [if_neg h1, if_pos hk, if_pos ⟨h2, h3⟩]
theorem sgOK_bin {p : SgT (n + 1)} (h1 : p.1 = 2) (h2 : 1 ≤ p.2.2.1) (h3 : p.2.2.1 ≤ 256) (h4 : -1 ≤ p.2.1) (h5 : p.2.1 ≤ 32000) (h6 : p.2.2.2.1 = false) (h7 : p.2.2.2.2.1 = false) : sgOK p = true := by
  unfold sgOK; rw [if_neg (by omega), h6, h7]; simp [h1, h2, h3, h4, h5]
theorem turn_ok (hok : sgOK g = true) (hx : segX g = some xs) (h01 : ∀ x ∈ xs, x = 0 ∨ x = 1) (hb : ∀ j, j < xs.length → bit (strB X) (f + j) = xs.getD j 0) (hl : xs.length ≤ 32000) :
    segX (turnG X f g) = some xs ∧ sgOK (turnG X f g) = true ∧ okB (n + 1) (turnG X f g).2.2.2.2.2 = true := by
  obtain ⟨h1, h2, h3, h4⟩ := seg_facts hok hx
  obtain ⟨a1, a2, a3, a4, a5, a6⟩ := sg_facts hok
  have e6 : (turnG X f g).2.2.2.2.2 = lf X f g := rfl
  have e5 : (turnG X f g).2.2.2.2.1 = g.2.2.2.2.1 := rfl
  have e4 : (turnG X f g).2.2.2.1 = g.2.2.2.1 := rfl
  have e3 : (turnG X f g).2.2.1 = if g.2.1 < 0 then 1 else g.2.2.1 := rfl
  have e2 : (turnG X f g).2.1 = if g.2.1 < 0 then (widG g : Int) else g.2.1 := rfl
  have e1 : (turnG X f g).1 = g.1 := rfl
  rw [wid_of hx] at e2
  by_cases hg : g.1 = 1
  · obtain ⟨N, j, hlf, hN, hN0, hN1⟩ := lf_int hok hx hb hg
    obtain ⟨h5, h6, h7, h8⟩ := h3 hg
    rw [if_neg (by omega)] at e2 e3
    have hk : tK (n + 1) (turnG X f g).2.2.2.2.2 = 1 := by rw [e6, hlf]; rfl
    have hn : tN (n + 1) (turnG X f g).2.2.2.2.2 = N := by rw [e6, hlf]; rfl
    refine ⟨?_, ?_, by rw [e6, hlf]; exact ok_int (by omega) (by omega)⟩
    · rw [segX_int (by rw [e1]; exact hg) hk, hn, e2, e3, e5, hN, ← h2 (by omega), Int.toNat_natCast, put_add, ← h5]
    · unfold sgOK at hok ⊢
      rw [e1, e2, e3, e4, e5]
      exact hok
  · obtain ⟨b1, b2, b3⟩ := h4 hg
    have hlf := lf_bin (X := X) (f := f) hx hb hg
    have hz := strB_size xs
    have hbits := bitsOf_strB xs h01
    obtain ⟨c1, c2, c3⟩ := a6 hg
    have hk : tK (n + 1) (turnG X f g).2.2.2.2.2 = 9 := by rw [e6, hlf]; rfl
    have hs : tS (n + 1) (turnG X f g).2.2.2.2.2 = strB xs := by rw [e6, hlf]; rfl
    have hw : sgW (turnG X f g) (8 * (strB xs).size) = xs.length ∧ (xs.length : Int) % (turnG X f g).2.2.1 = 0 ∧ -1 ≤ (turnG X f g).2.1 ∧ (turnG X f g).2.1 ≤ 32000 ∧ 1 ≤ (turnG X f g).2.2.1 ∧ (turnG X f g).2.2.1 ≤ 256 := by
      unfold sgW
      by_cases hs : g.2.1 < 0
      · rw [if_pos hs] at e2 e3
        rw [e2, e3, if_neg (by omega)]
        omega
      · rw [if_neg hs] at e2 e3
        rw [e2, e3, if_neg (by omega), h2 (by omega)]
        rw [h2 (by omega)] at h1
        omega
    obtain ⟨w1, w2, w3, w4, w5, w6⟩ := hw
    refine ⟨?_, sgOK_bin (by rw [e1]; exact c1) w5 w6 w3 w4 (by rw [e4]; exact c2) (by rw [e5]; exact c3), by rw [e6, hlf]; exact ok_bin (by omega)⟩
    have := segX_bin (p := turnG X f g) (by rw [e1]; exact hg) hk (by rw [hs, w1]; omega) (by rw [hs, w1]; exact w2)
    rw [hs, w1, Int.toNat_natCast, hbits] at this
    exact this

/-! Rows of parts. -/
theorem build_step (h : buildX acc (g :: gs) = (0, X)) : ∃ xs, segX g = some xs ∧ acc.length + xs.length ≤ 32000 ∧ buildX (acc ++ xs) gs = (0, X) := by
  cases hx : segX g with
  | none => rw [buildX_none hx] at h; cases h
  | some xs =>
    by_cases hl : 32000 < acc.length + xs.length
    · rw [buildX_full hx hl] at h; cases h
    · rw [buildX_on hx hl] at h; exact ⟨xs, rfl, by omega, h⟩
theorem build_pre : ∀ (gs : List (SgT (n + 1))) (acc X : List Int), buildX acc gs = (0, X) → ∃ Y, X = acc ++ Y
  | [], acc, X, h => by cases h; exact ⟨[], (List.append_nil _).symm⟩
  | g :: gs, acc, X, h => by
    obtain ⟨xs, _, _, h3⟩ := build_step h
    obtain ⟨Y, hY⟩ := build_pre gs _ _ h3
    exact ⟨xs ++ Y, by rw [hY, List.append_assoc]⟩
theorem build_most : ∀ (gs : List (SgT (n + 1))) (acc X : List Int), buildX acc gs = (0, X) → acc.length ≤ 32000 → X.length ≤ 32000
  | [], acc, X, h, hl => by cases h; exact hl
  | g :: gs, acc, X, h, hl => by
    obtain ⟨xs, _, h2, h3⟩ := build_step h
    exact build_most gs _ _ h3 (by rw [List.length_append]; exact h2)
theorem build_01 : ∀ (gs : List (SgT (n + 1))) (acc X : List Int), buildX acc gs = (0, X) → (∀ x ∈ acc, x = 0 ∨ x = 1) → ∀ x ∈ X, x = 0 ∨ x = 1
  | [], acc, X, h, hl => by cases h; exact hl
  | g :: gs, acc, X, h, hl => by
    obtain ⟨xs, h1, _, h3⟩ := build_step h
    refine build_01 gs _ _ h3 fun x hx => ?_
    rcases List.mem_append.1 hx with hx | hx
    · exact hl x hx
    · exact segX_01 h1 x hx
theorem build_sum : ∀ (gs : List (SgT (n + 1))) (acc X : List Int), buildX acc gs = (0, X) → acc.length + (gs.map widG).sum = X.length
  | [], acc, X, h => by cases h; simp
  | g :: gs, acc, X, h => by
    obtain ⟨xs, h1, _, h3⟩ := build_step h
    have := build_sum gs _ _ h3
    rw [List.length_append] at this
    rw [List.map_cons, List.sum_cons, wid_of h1]
    omega
/-- The bits that the first part makes stand in all bits. -/
theorem build_first {xs : List Int} (h3 : buildX (acc ++ xs) gs = (0, X)) (j : Nat) (hj : j < xs.length) : X.getD (acc.length + j) 0 = xs.getD j 0 := by
  obtain ⟨Y, rfl⟩ := build_pre gs _ _ h3
  simp only [List.getD_eq_getElem?_getD]
  rw [List.append_assoc, List.getElem?_append_right (by omega), Nat.add_sub_cancel_left, List.getElem?_append_left hj]
theorem build_bits {xs : List Int} (h3 : buildX (acc ++ xs) gs = (0, X)) (h01 : ∀ x ∈ X, x = 0 ∨ x = 1) (j : Nat) (hj : j < xs.length) : bit (strB X) (acc.length + j) = xs.getD j 0 := by
  have hl : acc.length + j < X.length := by
    obtain ⟨Y, rfl⟩ := build_pre gs _ _ h3
    simp only [List.length_append]; omega
  rw [bit_strB X h01 _ hl, build_first h3 j hj]

theorem offs_zero (gs : List (SgT (n + 1))) : offs gs 0 = 0 := rfl
theorem offs_succ (g : SgT (n + 1)) (gs : List (SgT (n + 1))) (i : Nat) : offs (g :: gs) (i + 1) = widG g + offs gs i := by simp [offs]
theorem offs_next (gs : List (SgT (n + 1))) (i : Nat) (h : i < gs.length) : offs gs (i + 1) = offs gs i + widG gs[i] := by
  unfold offs; rw [List.take_succ_eq_append_getElem h, List.map_append, List.sum_append]; simp
/-- Of each part: the bits that it makes, and where they stand. -/
theorem build_at : ∀ (gs : List (SgT (n + 1))) (acc X : List Int), buildX acc gs = (0, X) → (∀ x ∈ X, x = 0 ∨ x = 1) → ∀ i (h : i < gs.length), ∃ xs, segX gs[i] = some xs ∧ (∀ x ∈ xs, x = 0 ∨ x = 1) ∧ acc.length + offs gs i + xs.length ≤ X.length ∧ ∀ j, j < xs.length → bit (strB X) (acc.length + offs gs i + j) = xs.getD j 0
  | [], _, _, _, _, i, h => absurd h (Nat.not_lt_zero _)
  | g :: gs, acc, X, h, h01, 0, _ => by
    obtain ⟨xs, h1, _, h3⟩ := build_step h
    refine ⟨xs, h1, segX_01 h1, ?_, fun j hj => ?_⟩
    · obtain ⟨Y, rfl⟩ := build_pre gs _ _ h3
      simp only [List.length_append, offs_zero]; omega
    · rw [offs_zero, Nat.add_zero]; exact build_bits h3 h01 j hj
  | g :: gs, acc, X, h, h01, i + 1, hi => by
    obtain ⟨xs, h1, _, h3⟩ := build_step h
    obtain ⟨ys, g1, g2, g3, g4⟩ := build_at gs _ _ h3 h01 i (by simpa using hi)
    rw [List.length_append, Nat.add_assoc acc.length] at g3 g4
    rw [offs_succ, wid_of h1]
    exact ⟨ys, g1, g2, g3, g4⟩
theorem turnL_length : ∀ (gs : List (SgT (n + 1))) (f : Nat), (turnL X f gs).length = gs.length
  | [], _ => rfl
  | g :: gs, f => by rw [turnL, List.length_cons, List.length_cons, turnL_length gs]
theorem turnL_at : ∀ (gs : List (SgT (n + 1))) (f i : Nat) (h : i < gs.length), (turnL X f gs)[i]? = some (turnG X (f + offs gs i) gs[i])
  | [], _, _, h => absurd h (Nat.not_lt_zero _)
  | g :: gs, f, 0, _ => by rw [turnL, offs_zero]; rfl
  | g :: gs, f, i + 1, h => by
    rw [turnL, List.getElem?_cons_succ, turnL_at gs _ i (by simpa using h), offs_succ, ← Nat.add_assoc]; rfl
theorem leafL_length : ∀ (gs : List (SgT (n + 1))) (f : Nat), (leafL X f gs).length = gs.length
  | [], _ => rfl
  | g :: gs, f => by rw [leafL, List.length_cons, List.length_cons, leafL_length gs]
theorem leafL_at : ∀ (gs : List (SgT (n + 1))) (f i : Nat) (h : i < gs.length), (leafL X f gs)[i]? = some (leafM (strB X) (f + offs gs i) (widG gs[i]) gs[i])
  | [], _, _, h => absurd h (Nat.not_lt_zero _)
  | g :: gs, f, 0, _ => by rw [leafL, offs_zero]; rfl
  | g :: gs, f, i + 1, h => by
    rw [leafL, List.getElem?_cons_succ, leafL_at gs _ i (by simpa using h), offs_succ, ← Nat.add_assoc]; rfl

/-- The parts match what they make. -/
theorem mat_all : ∀ (gs : List (SgT (n + 1))) (acc X : List Int) (tacc : List (Tm 1)), buildX acc gs = (0, X) → (∀ g ∈ gs, sgOK g = true) → (∀ i (h : i < gs.length), gs[i].2.1 = -1 → i + 1 = gs.length) →
    matX (strB X) X.length tacc acc.length gs = (0, tacc ++ leafL X acc.length gs)
  | [], acc, X, tacc, h, _, _ => by cases h; rw [matX_end (by omega), leafL, List.append_nil]
  | g :: gs, acc, X, tacc, h, hok, hlast => by
    obtain ⟨xs, h1, _, h3⟩ := build_step h
    have hg := hok g (by simp)
    obtain ⟨f1, f2, _, _⟩ := seg_facts hg h1
    have hsum := build_sum gs _ _ h3
    rw [List.length_append] at hsum
    have hw : sgW g ((X.length - acc.length : Nat) : Int) = (xs.length : Int) := by
      unfold sgW
      by_cases hs : g.2.1 = -1
      · have := hlast 0 (by simp) hs
        have h0 : gs = [] := List.eq_nil_of_length_eq_zero (by simpa using this)
        rw [h0] at hsum
        rw [if_pos hs]
        simp at hsum
        omega
      · rw [if_neg hs, f2 hs]
    rw [matX_on hw (by omega) f1]
    have ih := mat_all gs (acc ++ xs) X (tacc ++ [leafM (strB X) acc.length xs.length g]) h3 (fun g' h' => hok g' (by simp [h'])) (fun i hi hs => by
      have := hlast (i + 1) (by simpa using hi) (by simpa using hs)
      simpa using this)
    rw [List.length_append] at ih
    rw [ih, leafL, wid_of h1, List.append_assoc]
    rfl
/-- What the parts become makes the same bits. -/
theorem back_all : ∀ (gs : List (SgT (n + 1))) (acc X : List Int), buildX acc gs = (0, X) → (∀ g ∈ gs, sgOK g = true) → (∀ x ∈ X, x = 0 ∨ x = 1) → buildX acc (turnL X acc.length gs) = (0, X)
  | [], acc, X, h, _, _ => by cases h; rfl
  | g :: gs, acc, X, h, hok, h01 => by
    obtain ⟨xs, h1, h2, h3⟩ := build_step h
    obtain ⟨t1, _, _⟩ := turn_ok (X := X) (f := acc.length) (hok g (by simp)) h1 (segX_01 h1) (build_bits h3 h01) (by omega)
    rw [turnL, buildX_on t1 (by omega), wid_of h1]
    have ih := back_all gs (acc ++ xs) X h3 (fun g' h' => hok g' (by simp [h'])) h01
    rw [List.length_append] at ih
    exact ih
end

end Go.Proofs.YtcgbonlffcpofaaGreatDoor
/- The parts under way, turned one after the other. -/
namespace Go.Proofs.YtcgbonlffcpofaaGreatDoor
open Go.RowKit Go.Deep

section
variable {n : Nat} {X : List Int} {gs : List (SgT (n + 1))} {i k : Nat}
/-- The first i parts turned. -/
def stL (X : List Int) (gs : List (SgT (n + 1))) (i : Nat) : List (SgT (n + 1)) := (turnL X 0 gs).take i ++ gs.drop i
theorem stL_zero : stL X gs 0 = gs := by simp [stL]
theorem stL_all : stL X gs gs.length = turnL X 0 gs := by
  have h := turnL_length (X := X) gs 0
  unfold stL
  rw [List.drop_length, List.append_nil, ← h, List.take_length]
theorem stL_len (h : i ≤ gs.length) : (stL X gs i).length = gs.length := by
  have h2 := turnL_length (X := X) gs 0
  unfold stL
  rw [List.length_append, List.length_take, List.length_drop, h2]
  omega
theorem stL_done (h : i ≤ gs.length) (hk : k < i) : (stL X gs i)[k]? = some (turnG X (offs gs k) (gs[k]'(by omega))) := by
  have h2 := turnL_length (X := X) gs 0
  unfold stL
  rw [List.getElem?_append_left (by rw [List.length_take, h2]; omega), List.getElem?_take_of_lt hk, turnL_at gs 0 k (by omega), Nat.zero_add]
theorem stL_left (h : i ≤ gs.length) (hk : i ≤ k) : (stL X gs i)[k]? = gs[k]? := by
  have h2 := turnL_length (X := X) gs 0
  unfold stL
  rw [List.getElem?_append_right (by rw [List.length_take, h2]; omega), List.length_take, h2, List.getElem?_drop]
  congr 1
  omega
theorem stL_next (h : i < gs.length) : (stL X gs i).set i (turnG X (offs gs i) gs[i]) = stL X gs (i + 1) := by
  apply List.ext_getElem?
  intro k
  rw [List.getElem?_set]
  by_cases hk : i = k
  · subst hk
    rw [if_pos rfl, stL_len (by omega), if_pos h, stL_done (by omega) (Nat.lt_succ_self _)]
  · rw [if_neg hk]
    rcases Nat.lt_or_ge k i with h1 | h1
    · rw [stL_done (by omega) h1, stL_done (by omega) (by omega)]
    · rw [stL_left (by omega) h1, stL_left (by omega) (by omega)]
end

end Go.Proofs.YtcgbonlffcpofaaGreatDoor
