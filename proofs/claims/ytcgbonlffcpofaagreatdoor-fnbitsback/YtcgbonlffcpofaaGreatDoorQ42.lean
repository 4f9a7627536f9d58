/- impl's spread: the bits of a byte put at bit i and those behind it. -/
import Derived.Test.YtcgbonlffcpofaaGreatDoorBj0
import Derived.Deep.RegionWith
import Derived.Deep.RegionLaw
import Derived.Test.YtcgbonlffcpofaaGreatDoorQ19
namespace Go.Proofs.YtcgbonlffcpofaaGreatDoor
open Go.RowKit Go.Deep

/-- A byte's bits added at byte j. -/
def orAt (ys : List Int) (j : Nat) (x : Int) : List Int := ys.set j (bits .or .u8 (ys.getD j 0) x)
theorem orAt_length (ys : List Int) (j : Nat) (x : Int) : (orAt ys j x).length = ys.length := by simp [orAt]
/-- The bits of the byte c at bit i and those behind it, as far as there are any. -/
def spreadL (ys : List Int) (i : Nat) (c : Int) : List Int := match decide (i / 8 + 1 < ys.length) with
  | true => orAt (orAt ys (i / 8) (c / 2 ^ (i % 8))) (i / 8 + 1) (c * 2 ^ (8 - i % 8) % 256)
  | false => orAt ys (i / 8) (c / 2 ^ (i % 8))
theorem spreadL_length (ys : List Int) (i : Nat) (c : Int) : (spreadL ys i c).length = ys.length := by unfold spreadL; split <;> simp [orAt_length]

set_option maxRecDepth 100000 in
theorem spread_any (R g m cap base i : Nat) (c : Int) (ys : List Int) (w : World) (h1 : w.cell? ⟨R, 1, none⟩ = some (.slice (some ⟨g, 0, none⟩) m cap))
    (hown : w.ownsRow base 5 1 (.slice (some ⟨g, 0, none⟩) m cap) m (u8s ys)) (hl : ys.length = m) (hp : i / 8 < m) (hm : m ≤ 100000) (hR : g ≠ R) :
    Calls Tryz.prog 37 #[.pointer (some ⟨R, 0, none⟩), .int .i64 i, .int .u8 c] w fun e w' => e = .returned (.tuple #[]) ∧ w'.ownsRow base 5 1 (.slice (some ⟨g, 0, none⟩) m cap) m (u8s (spreadL ys i c)) ∧
      (∀ q : Addr, q.block ≠ g → w'.cell? q = w.cell? q ∧ w'.frozen? q = w.frozen? q) ∧ Below g w w' ∧ w'.heap.size = w.heap.size := by
  have hy := own_cell hown (i / 8) hp
  have hf := hown.frozenAt (i / 8)
  obtain ⟨y, hye⟩ : ∃ y, y = ys.getD (i / 8) 0 := ⟨_, rfl⟩
  rw [← hye] at hy
  have HY := hide hye
  have HO := hide hown
  have HL := hide hl
  clear hye hown
  by_cases hlt : i / 8 + 1 < m
  · have hltI : (i : Int) / 8 + 1 < m := by omega
    go_enter Tryz.func37, Tryz.ntmps37
    go_wp2_with fail
    go_region
    obtain ⟨w2, hw2⟩ : ∃ w2, w2 = (w.setCell ⟨g, i / 8, none⟩ (.int .u8 (bits .or .u8 y (c / 2 ^ (i % 8))))).drew := ⟨_, rfl⟩
    rw [← hw2]
    have own2 : w2.ownsRow base 5 1 (.slice (some ⟨g, 0, none⟩) m cap) m (u8s (orAt ys (i / 8) (c / 2 ^ (i % 8)))) := by
      rw [hw2]; unfold orAt; rw [← unhide HY]; exact own_set (unhide HO) _ _
    have rr : ∀ q : Addr, q.block ≠ g → w2.cell? q = w.cell? q ∧ w2.frozen? q = w.frozen? q := fun q hq => by rw [hw2]; exact ⟨World.cell?_setCell_other _ _ _ _ (fun h => hq (congrArg Addr.block h).symm), by simp [go_sem]⟩
    have hb2 : Below g w w2 := by rw [hw2]; exact ((Below.refl g w).setCell (Nat.le_refl _) _).drew
    have hs2 : w2.heap.size = w.heap.size := by rw [hw2]; simp
    have r1 := (rr ⟨R, 1, none⟩ (fun h => hR h.symm)).1.trans h1
    have O2 := hide own2
    have HRR := hide rr
    have HB2 := hide hb2
    have HS2 := hide hs2
    have hz := own_cell own2 (i / 8 + 1) hlt
    have hg := own2.frozenAt (i / 8 + 1)
    obtain ⟨z, hze⟩ : ∃ z, z = (orAt ys (i / 8) (c / 2 ^ (i % 8))).getD (i / 8 + 1) 0 := ⟨_, rfl⟩
    rw [← hze] at hz
    have HZ := hide hze
    clear hw2 own2 rr hb2 hs2 hze h1 hy hf
    go_wp2_with fail
    go_region
    obtain ⟨w3, hw3⟩ : ∃ w3, w3 = (w2.setCell ⟨g, i / 8 + 1, none⟩ (.int .u8 (bits .or .u8 z (c * 2 ^ (8 - i % 8) % 256)))).drew := ⟨_, rfl⟩
    rw [← hw3]
    have own3 : w3.ownsRow base 5 1 (.slice (some ⟨g, 0, none⟩) m cap) m (u8s (spreadL ys i c)) := by
      have e : spreadL ys i c = orAt (orAt ys (i / 8) (c / 2 ^ (i % 8))) (i / 8 + 1) (c * 2 ^ (8 - i % 8) % 256) := by unfold spreadL; rw [decide_eq_true (by rw [unhide HL]; exact hlt)]
      rw [hw3, e]; unfold orAt; rw [unhide HZ]; exact own_set (unhide O2) _ _
    have rr : ∀ q : Addr, q.block ≠ g → w3.cell? q = w.cell? q ∧ w3.frozen? q = w.frozen? q := fun q hq => by rw [hw3]; exact ⟨(World.cell?_setCell_other _ _ _ _ (fun h => hq (congrArg Addr.block h).symm)).trans (unhide HRR q hq).1, (show _ = w2.frozen? q by simp [go_sem]).trans (unhide HRR q hq).2⟩
    have hb3 : Below g w w3 := by rw [hw3]; exact ((unhide HB2).setCell (Nat.le_refl _) _).drew
    have hs3 : w3.heap.size = w.heap.size := by rw [hw3]; simpa using unhide HS2
    have HE := hide (And.intro own3 (And.intro rr (And.intro hb3 hs3)))
    clear hw3 own3 rr hb3 hs3 r1 hz hg
    go_end0
    exact ⟨rfl, (unhide HE).1, (unhide HE).2.1, (unhide HE).2.2.1, (unhide HE).2.2.2⟩
  · have hltI : ¬ (i : Int) / 8 + 1 < m := by omega
    go_enter Tryz.func37, Tryz.ntmps37
    go_wp2_with fail
    go_region
    obtain ⟨w2, hw2⟩ : ∃ w2, w2 = (w.setCell ⟨g, i / 8, none⟩ (.int .u8 (bits .or .u8 y (c / 2 ^ (i % 8))))).drew := ⟨_, rfl⟩
    rw [← hw2]
    have own2 : w2.ownsRow base 5 1 (.slice (some ⟨g, 0, none⟩) m cap) m (u8s (orAt ys (i / 8) (c / 2 ^ (i % 8)))) := by
      rw [hw2]; unfold orAt; rw [← unhide HY]; exact own_set (unhide HO) _ _
    have rr : ∀ q : Addr, q.block ≠ g → w2.cell? q = w.cell? q ∧ w2.frozen? q = w.frozen? q := fun q hq => by rw [hw2]; exact ⟨World.cell?_setCell_other _ _ _ _ (fun h => hq (congrArg Addr.block h).symm), by simp [go_sem]⟩
    have hb2 : Below g w w2 := by rw [hw2]; exact ((Below.refl g w).setCell (Nat.le_refl _) _).drew
    have hs2 : w2.heap.size = w.heap.size := by rw [hw2]; simp
    have r1 := (rr ⟨R, 1, none⟩ (fun h => hR h.symm)).1.trans h1
    have O2 := hide own2
    have HRR := hide rr
    have HB2 := hide hb2
    have HS2 := hide hs2
    clear hw2 own2 rr hb2 hs2 h1 hy hf
    go_wp2_with fail
    go_end0
    have e : spreadL ys i c = orAt ys (i / 8) (c / 2 ^ (i % 8)) := by unfold spreadL; rw [decide_eq_false (by rw [unhide HL]; exact hlt)]
    exact ⟨rfl, by rw [e]; exact unhide O2, unhide HRR, unhide HB2, unhide HS2⟩

end Go.Proofs.YtcgbonlffcpofaaGreatDoor
/- Plain facts: a row of bits put behind another, byte by byte. -/
namespace Go.Proofs.YtcgbonlffcpofaaGreatDoor
open Go.RowKit

theorem pk_lt {f : Nat → Int} (hf : ∀ i, f i = 0 ∨ f i = 1) (j c : Nat) (h : c ≤ 8) : 0 ≤ pk f j c ∧ pk f j c < 256 := by
  obtain ⟨h1, h2, _⟩ := pk_bounds f hf j c h
  have hp : (0 : Int) < 2 ^ (8 - c) := Int.pow_pos (by decide)
  omega

/-- Behind the first h bits of a byte the first 8 - h bits of the next text's byte. -/
theorem join_hi (f : Nat → Int) (hf : ∀ i, f i = 0 ∨ f i = 1) (c : Int) (p h : Nat) (hh : h < 8) (h0 : h ≠ 0) (hc0 : 0 ≤ c) (hc : c < 256)
    (hb : ∀ r, r < 8 → f (8 * p + h + r) = c / 2 ^ (7 - r) % 2) : bits .or .u8 (pk f p h) (c / 2 ^ h) = pk f p 8 := by
  obtain ⟨b1, b2, b3⟩ := pk_bounds f hf p h (by omega)
  obtain ⟨l1, l2⟩ := pk_lt hf p h (by omega)
  have e : pk f p h / 2 ^ (8 - h) * 2 ^ (8 - h) % 256 = pk f p h := by rw [Int.ediv_mul_cancel_of_emod_eq_zero b3]; omega
  have hx0 : 0 ≤ pk f p h / 2 ^ (8 - h) := Int.ediv_nonneg l1 (Int.le_of_lt (Int.pow_pos (by decide)))
  have hx : pk f p h / 2 ^ (8 - h) < 256 := Int.lt_of_le_of_lt (Int.ediv_le_self _ l1) l2
  have ho := or_parts (pk f p h / 2 ^ (8 - h)) c (8 - h) (by omega) hx0 hx hc0 hc
  rw [e, show 8 - (8 - h) = h by omega] at ho
  rw [ho]
  clear ho e hx0 hx b1 b2 b3 l1 l2
  have key : ∀ r, r ≤ 8 - h → pk f p (h + r) = pk f p h + c / 2 ^ (8 - r) * 2 ^ (8 - r - h) := by
    intro r
    induction r with
    | zero =>
      intro _
      have : c / 2 ^ (8 - 0) = 0 := by show c / 256 = 0; omega
      rw [this]; simp
    | succ r ih =>
      intro hr
      have e1 : pk f p (h + (r + 1)) = pk f p (h + r) + f (8 * p + (h + r)) * 2 ^ (7 - (h + r)) := rfl
      rw [e1, ih (by omega), ← Nat.add_assoc, hb r (by omega), Int.add_assoc]
      congr 1
      have e2 : c / 2 ^ (8 - r) = c / 2 ^ (7 - r) / 2 := by
        rw [Int.ediv_ediv_of_nonneg (Int.le_of_lt (Int.pow_pos (by decide))), ← Int.pow_succ, show (7 - r).succ = 8 - r by omega]
      have e3 : (2 : Int) ^ (8 - r - h) = 2 * 2 ^ (7 - (h + r)) := by
        rw [show 8 - r - h = 7 - (h + r) + 1 by omega, Int.pow_succ, Int.mul_comm]
      have e4 : 8 - (r + 1) = 7 - r := by omega
      have e5 : 8 - (r + 1) - h = 7 - (h + r) := by omega
      rw [e2, e3, e5, e4, ← Int.mul_assoc, Int.mul_comm (c / 2 ^ (7 - r) / 2) 2, ← Int.add_mul, Int.mul_ediv_add_emod]
  have hk := key (8 - h) (Nat.le_refl _)
  rw [show h + (8 - h) = 8 by omega, show 8 - (8 - h) = h by omega, Nat.sub_self, Int.pow_zero, Int.mul_one] at hk
  exact hk.symm

/-- The rest of it in the byte behind. -/
theorem join_lo (f : Nat → Int) (c : Int) (p h : Nat) (hh : h < 8) (h0 : h ≠ 0)
    (hb : ∀ r, r < 8 → f (8 * p + h + r) = c / 2 ^ (7 - r) % 2) : c * 2 ^ (8 - h) % 256 = pk f (p + 1) h := by
  have hcs : h = 1 ∨ h = 2 ∨ h = 3 ∨ h = 4 ∨ h = 5 ∨ h = 6 ∨ h = 7 := by omega
  have hb2 : ∀ k, k < h → f (8 * (p + 1) + k) = c / 2 ^ (h - 1 - k) % 2 := fun k hk => by
    have := hb (8 - h + k) (by omega)
    rw [show 8 * p + h + (8 - h + k) = 8 * (p + 1) + k by omega, show 7 - (8 - h + k) = h - 1 - k by omega] at this
    exact this
  clear hb
  rcases hcs with rfl | rfl | rfl | rfl | rfl | rfl | rfl
  · simp only [pk, hb2 0 (by omega)]; simp; omega
  · simp only [pk, hb2 0 (by omega), hb2 1 (by omega)]; simp; omega
  · simp only [pk, hb2 0 (by omega), hb2 1 (by omega), hb2 2 (by omega)]; simp; omega
  · simp only [pk, hb2 0 (by omega), hb2 1 (by omega), hb2 2 (by omega), hb2 3 (by omega)]; simp; omega
  · simp only [pk, hb2 0 (by omega), hb2 1 (by omega), hb2 2 (by omega), hb2 3 (by omega), hb2 4 (by omega)]; simp; omega
  · simp only [pk, hb2 0 (by omega), hb2 1 (by omega), hb2 2 (by omega), hb2 3 (by omega), hb2 4 (by omega), hb2 5 (by omega)]; simp; omega
  · simp only [pk, hb2 0 (by omega), hb2 1 (by omega), hb2 2 (by omega), hb2 3 (by omega), hb2 4 (by omega), hb2 5 (by omega), hb2 6 (by omega)]; simp; omega

theorem or_zero_u8 (x : Int) (h0 : 0 ≤ x) (h : x < 256) : bits .or .u8 0 x = x := by
  obtain ⟨X, rfl⟩ := Int.eq_ofNat_of_zero_le h0
  have := u8_or_nat 0 X (by decide) (by omega)
  simpa using this

theorem pk_cut (f : Nat → Int) (j : Nat) : ∀ c d, c ≤ d → (∀ k, c ≤ k → k < d → f (8 * j + k) = 0) → pk f j d = pk f j c
  | c, 0, h, _ => by have : c = 0 := by omega
                     subst this; rfl
  | c, d + 1, h, hz => by
    by_cases hcd : c = d + 1
    · subst hcd; rfl
    · simp only [pk]
      rw [pk_cut f j c d (by omega) (fun k h1 h2 => hz k h1 (by omega)), hz d (by omega) (by omega)]
      simp

/-- One byte more. -/
theorem spread_step (X : List Int) (hX : ∀ x ∈ X, x = 0 ∨ x = 1) (i : Nat) (c : Int) (h8 : i % 8 ≠ 0) (hi : i / 8 < (X.length + 7) / 8) (hc0 : 0 ≤ c) (hc : c < 256)
    (hb : ∀ r, r < 8 → X.getD (i + r) 0 = c / 2 ^ (7 - r) % 2) : spreadL (bytesAt X i) i c = bytesAt X (i + 8) := by
  have hf : ∀ q, X.getD q 0 = 0 ∨ X.getD q 0 = 1 := getD_01 hX
  have hb' : ∀ r, r < 8 → (fun q => X.getD q 0) (8 * (i / 8) + i % 8 + r) = c / 2 ^ (7 - r) % 2 := fun r hr => by
    show X.getD (8 * (i / 8) + i % 8 + r) 0 = _
    rw [show 8 * (i / 8) + i % 8 + r = i + r by omega]; exact hb r hr
  have hh := Nat.mod_lt i (show 0 < 8 by decide)
  have hhi := join_hi (fun q => X.getD q 0) hf c (i / 8) (i % 8) hh h8 hc0 hc hb'
  have hlo := join_lo (fun q => X.getD q 0) c (i / 8) (i % 8) hh h8 hb'
  have hlen : (bytesAt X i).length = (X.length + 7) / 8 := bytesAt_length X i
  have g0 : (bytesAt X i).getD (i / 8) 0 = pk (fun q => X.getD q 0) (i / 8) (i % 8) := by
    rw [List.getD_eq_getElem?_getD, bytesAt_get X i (i / 8) hi, Option.getD_some, show min 8 (i - 8 * (i / 8)) = i % 8 by omega]; rfl
  have x0 : bits .or .u8 ((bytesAt X i).getD (i / 8) 0) (c / 2 ^ (i % 8)) = packed X (i / 8) 8 := by rw [g0]; exact hhi
  have main : ∀ q, q < (X.length + 7) / 8 → ∀ v, (v = packed X q (min 8 (i + 8 - 8 * q))) → (bytesAt X (i + 8))[q]? = some v := fun q hq v hv => by rw [bytesAt_get X (i + 8) q hq, hv]
  apply List.ext_getElem?
  intro q
  by_cases hq : q < (X.length + 7) / 8
  · unfold spreadL
    rw [hlen]
    by_cases hn : i / 8 + 1 < (X.length + 7) / 8
    · rw [decide_eq_true hn]
      simp only
      unfold orAt
      rw [x0]
      have g1 : ((bytesAt X i).set (i / 8) (packed X (i / 8) 8)).getD (i / 8 + 1) 0 = 0 := by
        rw [List.getD_eq_getElem?_getD, List.getElem?_set_ne (by omega), bytesAt_get X i _ hn, Option.getD_some, show min 8 (i - 8 * (i / 8 + 1)) = 0 by omega]; rfl
      have l1 := pk_lt hf (i / 8 + 1) (i % 8) (by omega)
      rw [g1, or_zero_u8 _ (by rw [hlo]; exact l1.1) (by rw [hlo]; exact l1.2), hlo]
      rw [List.getElem?_set, List.length_set, hlen]
      by_cases e1 : i / 8 + 1 = q
      · rw [if_pos e1, if_pos hn]
        refine (main q hq _ ?_).symm
        rw [← e1, show min 8 (i + 8 - 8 * (i / 8 + 1)) = i % 8 by omega]; rfl
      · rw [if_neg e1, List.getElem?_set, hlen]
        by_cases e2 : i / 8 = q
        · rw [if_pos e2, if_pos hi]
          refine (main q hq _ ?_).symm
          rw [← e2, show min 8 (i + 8 - 8 * (i / 8)) = 8 by omega]
        · rw [if_neg e2, bytesAt_get X i q hq]
          refine (main q hq _ ?_).symm
          rw [show min 8 (i - 8 * q) = min 8 (i + 8 - 8 * q) by omega]
    · rw [decide_eq_false hn]
      simp only
      unfold orAt
      rw [x0, List.getElem?_set, hlen]
      by_cases e2 : i / 8 = q
      · rw [if_pos e2, if_pos hi]
        refine (main q hq _ ?_).symm
        rw [← e2, show min 8 (i + 8 - 8 * (i / 8)) = 8 by omega]
      · rw [if_neg e2, bytesAt_get X i q hq]
        refine (main q hq _ ?_).symm
        rw [show min 8 (i - 8 * q) = min 8 (i + 8 - 8 * q) by omega]
  · rw [List.getElem?_eq_none (by rw [spreadL_length, hlen]; omega), List.getElem?_eq_none (by rw [bytesAt_length]; omega)]

/-- Bits behind the end don't count. -/
theorem bytesAt_over (X : List Int) (k : Nat) (hk : X.length ≤ k) : bytesAt X k = bytesAt X X.length := by
  apply List.ext_getElem?
  intro q
  by_cases hq : q < (X.length + 7) / 8
  · rw [bytesAt_get X k q hq, bytesAt_get X X.length q hq]
    congr 1
    unfold packed
    refine pk_cut _ q _ _ (by omega) fun r h1 h2 => ?_
    rw [List.getD_eq_getElem?_getD, List.getElem?_eq_none (by omega)]; rfl
  · rw [List.getElem?_eq_none (by rw [bytesAt_length]; omega), List.getElem?_eq_none (by rw [bytesAt_length]; omega)]

end Go.Proofs.YtcgbonlffcpofaaGreatDoor
