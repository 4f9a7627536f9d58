/- spec.l02Row: the bits of a row, a byte each: the slice is never nil. -/
import Derived.Test.YthikciimaegphaaGreatDoorQ3
import Derived.Lib.SmallJoins
import Derived.WalkSpells
import Derived.WalkLawsBesides
import Derived.BigQuiet
import Derived.Deep.RegionWith
import Derived.Deep.RegionLaw
import Derived.Test.YthikciimaegphaaGreatDoorQ4
namespace Go.Proofs.YthikciimaegphaaGreatDoor
open Go.RowKit

set_option maxRecDepth 100000 in
theorem row_some (n : Int) (s : ByteArray) (w : World) (hn : n ≤ 8 * s.size) (hs : n ≤ 1000000000) :
    Calls Tryz.prog 18 #[.agg #[.int .i64 n, .string s]] w fun e w' => ∃ g cap, e = .returned (.slice (some ⟨g, 0, none⟩) n.toNat cap) ∧ w'.ownsRow w.heap.size 5 1 (.slice (some ⟨g, 0, none⟩) n.toNat cap) n.toNat (u8s (bitsOf s n.toNat)) ∧ Below w.heap.size w w' := by
  obtain ⟨i0, hi, hz0, hz1, hz2⟩ := info_parts info_u8
  go_enter Tryz.func18, Tryz.ntmps18
  go_wp2_with fail
  go_loopw [3, 4] (fun v iv wr => ∃ k : Nat, k ≤ n.toNat ∧ iv = .int .i64 k ∧ wr.ownsRow (w.heap.size + 1) 5 1 v k (u8s (bitsOf s k)) ∧ v ≠ .slice none 0 0 ∧ wr.cell? ⟨w.heap.size, 0, none⟩ = some (.int .i64 n) ∧
      wr.cell? ⟨w.heap.size, 1, none⟩ = some (.string s) ∧ Below (w.heap.size + 1) (w.alloc (.cells #[.int .i64 n, .string s] 25)) wr) (fun _ iv _ => n.toNat - (intOf iv).toNat)
  case atStart =>
    refine ⟨0, Nat.zero_le _, rfl, by have h := World.ownsRow_lit (base := w.heap.size + 1) (e := 5) (size := 1) (w.alloc (.cells #[.int .i64 n, .string s] 25)) #[] 0 (by simp) (by decide) rfl; simpa [u8s, bitsOf] using h, by simp, ?_, ?_, (Below.refl _ _).alloc (by simp) _⟩
    · exact (World.cell?_alloc_past _ _ _ (by simp)).trans (two_new _ _ _ _).1
    · exact (World.cell?_alloc_past _ _ _ (by simp)).trans (two_new _ _ _ _).2
  case round =>
    obtain ⟨k, hk, rfl, hown, hnn, hc0, hc1, hb⟩ := hrel
    have hsz := hb.size
    simp only [World.size_alloc] at hsz
    by_cases hlt : (k : Int) < n
    · have hkl : k / 8 < s.size := by omega
      go_wp2_with (at_builtin; refine wpList_append_own _ rfl (.tmp 12) (.tmp 24) 33 rfl (w.heap.size + 1) 5 i0 (.int .u8 0) 1 1 Tryz.underlying33 hi hz0 hz1 hz2 rfl (by decide) _ _ _ rfl (hown.alloc _) ⟨wr.heap.size, 0, none⟩ 1 1 [.int .u8 (bit s k)] rfl rfl ?c1 ?c2 ?c3 ?c4 ?c5 ?_)
      case c1 => rw [bit_walk s k hkl]; exact cell_one_new _ _ _
      case c2 => intro u hu; simp at hu; subst hu; rfl
      case c3 => unfold maxLen; omega
      case c4 => omega
      case c5 => simp; omega
      intro v' w1 hown' hgrow hni
      have hn' : v' ≠ .slice none 0 0 := fun h => hni h
      have hne : some w.heap.size ≠ u3.ownBlock := fun h => by have := (hown.lt _ h.symm).1; omega
      have hB1 : Below (w.heap.size + 1) (w.alloc (.cells #[.int .i64 n, .string s] 25)) w1 := (hb.alloc hsz _).grown hgrow (by simp; omega) (fun j hj => (hown.lt j hj).1)
      have hd0 := (hgrow.cell (a := ⟨w.heap.size, 0, none⟩) ((World.cell?_alloc_past _ _ _ (by show w.heap.size < _; omega)).trans hc0) hne)
      have hd1 := (hgrow.cell (a := ⟨w.heap.size, 1, none⟩) ((World.cell?_alloc_past _ _ _ (by show w.heap.size < _; omega)).trans hc1) hne)
      have hown2 : w1.ownsRow (w.heap.size + 1) 5 1 v' (k + 1) (u8s (bitsOf s (k + 1))) := by rw [bitsOf_succ]; simpa [u8s] using hown'
      clear hown' hown hb hc0 hc1 hgrow
      go_wp2
      go_roundw
      case rel => exact ⟨k + 1, by omega, by go_num, hown2, hn', hd0, hd1, hB1⟩
      case measure => simp [intOf]; omega
    · have hkn : n.toNat = k := by omega
      go_wp2_with fail
      go_ret
      rcases Go.Joins.ownsRow_forms hown with ⟨h, _⟩ | ⟨g, cap, rfl⟩
      · exact absurd h hnn
      exact ⟨g, cap, rfl, ownsRow_base hown (by omega), ((Below.refl w.heap.size w).alloc (Nat.le_refl _) _).trans (hb.mono (by omega))⟩

end Go.Proofs.YthikciimaegphaaGreatDoor
/- An append onto an own row in a region that draws; what BitsJoin answers. -/
namespace Go.Proofs.YthikciimaegphaaGreatDoor
open Go.RowKit Go.Deep

/-- append onto an own row, as one step of a region that draws its order. -/
theorem step_append_own {P : Program} {ops : Array Oper} {o : Oper} {a : Act} {w : World} {K : Act → World → Prop} {Q : Exit → Act → World → Prop} {E : Prop} (hgd : o.guard = none) (s x : Operand) (t : TypeId)
    (ho : o.op = .call { callee := .builtin .append, args := #[s, x], argTypes := #[t, t] })
    (base : Nat) (e : TypeId) (i : TypeInfo) (z : Value) (size bytes : Nat) (ht : P.underlying t = some (.slice e)) (hi : P.info? e = some i) (hz : i.zero = some z)
    (hsize : i.size = size) (hby : i.bytes = bytes) (hzs : z.cells.size = size) (hsz : 0 < size)
    (v : Value) (n : Nat) (xs : List Value) (hs : a.eval s = v) (hown : w.ownsRow base e size v n xs)
    (ad : Addr) (m c : Nat) (news : List Value) (hx : a.eval x = .slice (some ad) m c) (hl : news.length = m * size) (hnews : ∀ j u, news[j]? = some u → w.cell? (ad.add j) = some u) (h1 : ∀ u ∈ news, u.oneCell' = true)
    (h63 : n + m ≤ maxLen) (hbytes : (n + m) * bytes ≤ 140737488355328) (hbase : base ≤ w.heap.size)
    (h : ∀ v' w', w'.ownsRow base e size v' (n + m) (xs ++ news) → w.grownBy w' v.ownBlock → (v' = .slice none 0 0 ↔ v = .slice none 0 0 ∧ m = 0) → K (a.put o.dst v') w') :
    if Region.wanted o (yielded ops a.tmps) = true then Oper.wp P o a w K Q else E := by
  have hw : Region.wanted o (yielded ops a.tmps) = true := by simp [Region.wanted, hgd]
  rw [if_pos hw]
  exact wp_append_own w s x t ho base e i z size bytes ht hi hz hsize hby hzs hsz v n xs hs hown ad m c news hx hl hnews h1 h63 hbytes hbase h

/-- What BitsJoin answers. -/
def joinAns (n : Int) (s : ByteArray) (m : Int) (t : ByteArray) : Value := match okS n s && okS m t, decide (n + m ≤ 32000) with
  | true, true => .tuple #[.agg #[.int .i64 (n + m), .string (strB (bitsOf s n.toNat ++ bitsOf t m.toNat))], .int .i64 0]
  | true, false => .tuple #[.agg #[.int .i64 0, .string ⟨#[]⟩], .int .i64 3]
  | false, _ => .tuple #[.agg #[.int .i64 0, .string ⟨#[]⟩], .int .i64 1]
theorem joinAns_no {n : Int} {s : ByteArray} {m : Int} {t : ByteArray} (h : (okS n s && okS m t) = false) : joinAns n s m t = .tuple #[.agg #[.int .i64 0, .string ⟨#[]⟩], .int .i64 1] := by unfold joinAns; rw [h]
theorem joinAns_full {n : Int} {s : ByteArray} {m : Int} {t : ByteArray} (h : okS n s = true) (h' : okS m t = true) (hl : ¬ n + m ≤ 32000) : joinAns n s m t = .tuple #[.agg #[.int .i64 0, .string ⟨#[]⟩], .int .i64 3] := by unfold joinAns; rw [h, h', decide_eq_false hl]; rfl
theorem joinAns_yes {n : Int} {s : ByteArray} {m : Int} {t : ByteArray} (h : okS n s = true) (h' : okS m t = true) (hl : n + m ≤ 32000) : joinAns n s m t = .tuple #[.agg #[.int .i64 (n + m), .string (strB (bitsOf s n.toNat ++ bitsOf t m.toNat))], .int .i64 0] := by unfold joinAns; rw [h, h', decide_eq_true hl]; rfl

theorem heap_three (w : World) (x y z : Obj) : ((w.alloc x).alloc y).alloc z |>.heap[w.heap.size]? = some x ∧ (((w.alloc x).alloc y).alloc z).heap[w.heap.size + 1]? = some y ∧ (((w.alloc x).alloc y).alloc z).heap[w.heap.size + 2]? = some z := by
  refine ⟨?_, ?_, ?_⟩
  · rw [Below.heap_alloc _ _ _ (by simp; omega), Below.heap_alloc _ _ _ (by simp)]; exact heap_new w x
  · rw [Below.heap_alloc _ _ _ (by simp)]
    have := heap_new (w.alloc x) y
    rwa [World.size_alloc] at this
  · have := heap_new ((w.alloc x).alloc y) z
    rwa [World.size_alloc, World.size_alloc] at this

end Go.Proofs.YthikciimaegphaaGreatDoor
/- impl's spread: the bits of a byte put at bit i and those behind it. -/
namespace Go.Proofs.YthikciimaegphaaGreatDoor
open Go.RowKit Go.Deep

/-- A byte's bits added at byte j. -/
def orAt (ys : List Int) (j : Nat) (x : Int) : List Int := ys.set j (bits .or .u8 (ys.getD j 0) x)
theorem orAt_length (ys : List Int) (j : Nat) (x : Int) : (orAt ys j x).length = ys.length := by simp [orAt]
/-- The bits of the byte c at bit i and those behind it, as far as there are any. -/
def spreadL (ys : List Int) (i : Nat) (c : Int) : List Int := match decide (i / 8 + 1 < ys.length) with
  | true => orAt (orAt ys (i / 8) (c / 2 ^ (i % 8))) (i / 8 + 1) (c * 2 ^ (8 - i % 8) % 256)
  | false => orAt ys (i / 8) (c / 2 ^ (i % 8))
theorem spreadL_length (ys : List Int) (i : Nat) (c : Int) : (spreadL ys i c).length = ys.length := by unfold spreadL; split <;> simp [orAt_length]

set_option maxRecDepth 100000 in
theorem spread_any (R g m cap base i : Nat) (c : Int) (ys : List Int) (w : World) (h1 : w.cell? ⟨R, 1, none⟩ = some (.slice (some ⟨g, 0, none⟩) m cap))
    (hown : w.ownsRow base 5 1 (.slice (some ⟨g, 0, none⟩) m cap) m (u8s ys)) (hl : ys.length = m) (hp : i / 8 < m) (hm : m ≤ 100000) (hR : g ≠ R) :
    Calls Tryz.prog 43 #[.pointer (some ⟨R, 0, none⟩), .int .i64 i, .int .u8 c] w fun e w' => e = .returned (.tuple #[]) ∧ w'.ownsRow base 5 1 (.slice (some ⟨g, 0, none⟩) m cap) m (u8s (spreadL ys i c)) ∧
      (∀ q : Addr, q.block ≠ g → w'.cell? q = w.cell? q ∧ w'.frozen? q = w.frozen? q) ∧ Below g w w' ∧ w'.heap.size = w.heap.size := by
  have hy := own_cell hown (i / 8) hp
  have hf := hown.frozenAt (i / 8)
  obtain ⟨y, hye⟩ : ∃ y, y = ys.getD (i / 8) 0 := ⟨_, rfl⟩
  rw [← hye] at hy
  have HY := hide hye
  have HO := hide hown
  have HL := hide hl
  clear hye hown
  by_cases hlt : i / 8 + 1 < m
  · have hltI : (i : Int) / 8 + 1 < m := by omega
    go_enter Tryz.func43, Tryz.ntmps43
    go_wp2_with fail
    go_region
    obtain ⟨w2, hw2⟩ : ∃ w2, w2 = (w.setCell ⟨g, i / 8, none⟩ (.int .u8 (bits .or .u8 y (c / 2 ^ (i % 8))))).drew := ⟨_, rfl⟩
    rw [← hw2]
    have own2 : w2.ownsRow base 5 1 (.slice (some ⟨g, 0, none⟩) m cap) m (u8s (orAt ys (i / 8) (c / 2 ^ (i % 8)))) := by
      rw [hw2]; unfold orAt; rw [← unhide HY]; exact own_set (unhide HO) _ _
    have rr : ∀ q : Addr, q.block ≠ g → w2.cell? q = w.cell? q ∧ w2.frozen? q = w.frozen? q := fun q hq => by rw [hw2]; exact ⟨World.cell?_setCell_other _ _ _ _ (fun h => hq (congrArg Addr.block h).symm), by simp [go_sem]⟩
    have hb2 : Below g w w2 := by rw [hw2]; exact ((Below.refl g w).setCell (Nat.le_refl _) _).drew
    have hs2 : w2.heap.size = w.heap.size := by rw [hw2]; simp
    have r1 := (rr ⟨R, 1, none⟩ (fun h => hR h.symm)).1.trans h1
    have O2 := hide own2
    have HRR := hide rr
    have HB2 := hide hb2
    have HS2 := hide hs2
    have hz := own_cell own2 (i / 8 + 1) hlt
    have hg := own2.frozenAt (i / 8 + 1)
    obtain ⟨z, hze⟩ : ∃ z, z = (orAt ys (i / 8) (c / 2 ^ (i % 8))).getD (i / 8 + 1) 0 := ⟨_, rfl⟩
    rw [← hze] at hz
    have HZ := hide hze
    clear hw2 own2 rr hb2 hs2 hze h1 hy hf
    go_wp2_with fail
    go_region
    obtain ⟨w3, hw3⟩ : ∃ w3, w3 = (w2.setCell ⟨g, i / 8 + 1, none⟩ (.int .u8 (bits .or .u8 z (c * 2 ^ (8 - i % 8) % 256)))).drew := ⟨_, rfl⟩
    rw [← hw3]
    have own3 : w3.ownsRow base 5 1 (.slice (some ⟨g, 0, none⟩) m cap) m (u8s (spreadL ys i c)) := by
      have e : spreadL ys i c = orAt (orAt ys (i / 8) (c / 2 ^ (i % 8))) (i / 8 + 1) (c * 2 ^ (8 - i % 8) % 256) := by unfold spreadL; rw [decide_eq_true (by rw [unhide HL]; exact hlt)]
      rw [hw3, e]; unfold orAt; rw [unhide HZ]; exact own_set (unhide O2) _ _
    have rr : ∀ q : Addr, q.block ≠ g → w3.cell? q = w.cell? q ∧ w3.frozen? q = w.frozen? q := fun q hq => by rw [hw3]; exact ⟨(World.cell?_setCell_other _ _ _ _ (fun h => hq (congrArg Addr.block h).symm)).trans (unhide HRR q hq).1, (show _ = w2.frozen? q by simp [go_sem]).trans (unhide HRR q hq).2⟩
    have hb3 : Below g w w3 := by rw [hw3]; exact ((unhide HB2).setCell (Nat.le_refl _) _).drew
    have hs3 : w3.heap.size = w.heap.size := by rw [hw3]; simpa using unhide HS2
    have HE := hide (And.intro own3 (And.intro rr (And.intro hb3 hs3)))
    clear hw3 own3 rr hb3 hs3 r1 hz hg
    go_end0
    exact ⟨rfl, (unhide HE).1, (unhide HE).2.1, (unhide HE).2.2.1, (unhide HE).2.2.2⟩
  · have hltI : ¬ (i : Int) / 8 + 1 < m := by omega
    go_enter Tryz.func43, Tryz.ntmps43
    go_wp2_with fail
    go_region
    obtain ⟨w2, hw2⟩ : ∃ w2, w2 = (w.setCell ⟨g, i / 8, none⟩ (.int .u8 (bits .or .u8 y (c / 2 ^ (i % 8))))).drew := ⟨_, rfl⟩
    rw [← hw2]
    have own2 : w2.ownsRow base 5 1 (.slice (some ⟨g, 0, none⟩) m cap) m (u8s (orAt ys (i / 8) (c / 2 ^ (i % 8)))) := by
      rw [hw2]; unfold orAt; rw [← unhide HY]; exact own_set (unhide HO) _ _
    have rr : ∀ q : Addr, q.block ≠ g → w2.cell? q = w.cell? q ∧ w2.frozen? q = w.frozen? q := fun q hq => by rw [hw2]; exact ⟨World.cell?_setCell_other _ _ _ _ (fun h => hq (congrArg Addr.block h).symm), by simp [go_sem]⟩
    have hb2 : Below g w w2 := by rw [hw2]; exact ((Below.refl g w).setCell (Nat.le_refl _) _).drew
    have hs2 : w2.heap.size = w.heap.size := by rw [hw2]; simp
    have r1 := (rr ⟨R, 1, none⟩ (fun h => hR h.symm)).1.trans h1
    have O2 := hide own2
    have HRR := hide rr
    have HB2 := hide hb2
    have HS2 := hide hs2
    clear hw2 own2 rr hb2 hs2 h1 hy hf
    go_wp2_with fail
    go_end0
    have e : spreadL ys i c = orAt ys (i / 8) (c / 2 ^ (i % 8)) := by unfold spreadL; rw [decide_eq_false (by rw [unhide HL]; exact hlt)]
    exact ⟨rfl, by rw [e]; exact unhide O2, unhide HRR, unhide HB2, unhide HS2⟩

end Go.Proofs.YthikciimaegphaaGreatDoor
/- Plain facts: a row of bits put behind another, byte by byte. -/
namespace Go.Proofs.YthikciimaegphaaGreatDoor
open Go.RowKit

theorem pk_lt {f : Nat → Int} (hf : ∀ i, f i = 0 ∨ f i = 1) (j c : Nat) (h : c ≤ 8) : 0 ≤ pk f j c ∧ pk f j c < 256 := by
  obtain ⟨h1, h2, _⟩ := pk_bounds f hf j c h
  have hp : (0 : Int) < 2 ^ (8 - c) := Int.pow_pos (by decide)
  omega

/-- Behind the first h bits of a byte the first 8 - h bits of the next text's byte. -/
theorem join_hi (f : Nat → Int) (hf : ∀ i, f i = 0 ∨ f i = 1) (c : Int) (p h : Nat) (hh : h < 8) (h0 : h ≠ 0) (hc0 : 0 ≤ c) (hc : c < 256)
    (hb : ∀ r, r < 8 → f (8 * p + h + r) = c / 2 ^ (7 - r) % 2) : bits .or .u8 (pk f p h) (c / 2 ^ h) = pk f p 8 := by
  obtain ⟨b1, b2, b3⟩ := pk_bounds f hf p h (by omega)
  obtain ⟨l1, l2⟩ := pk_lt hf p h (by omega)
  have e : pk f p h / 2 ^ (8 - h) * 2 ^ (8 - h) % 256 = pk f p h := by rw [Int.ediv_mul_cancel_of_emod_eq_zero b3]; omega
  have hx0 : 0 ≤ pk f p h / 2 ^ (8 - h) := Int.ediv_nonneg l1 (Int.le_of_lt (Int.pow_pos (by decide)))
  have hx : pk f p h / 2 ^ (8 - h) < 256 := Int.lt_of_le_of_lt (Int.ediv_le_self _ l1) l2
  have ho := or_parts (pk f p h / 2 ^ (8 - h)) c (8 - h) (by omega) hx0 hx hc0 hc
  rw [e, show 8 - (8 - h) = h by omega] at ho
  rw [ho]
  clear ho e hx0 hx b1 b2 b3 l1 l2
  have key : ∀ r, r ≤ 8 - h → pk f p (h + r) = pk f p h + c / 2 ^ (8 - r) * 2 ^ (8 - r - h) := by
    intro r
    induction r with
    | zero =>
      intro _
      have : c / 2 ^ (8 - 0) = 0 := by show c / 256 = 0; omega
      rw [this]; simp
    | succ r ih =>
      intro hr
      have e1 : pk f p (h + (r + 1)) = pk f p (h + r) + f (8 * p + (h + r)) * 2 ^ (7 - (h + r)) := rfl
      rw [e1, ih (by omega), ← Nat.add_assoc, hb r (by omega), Int.add_assoc]
      congr 1
      have e2 : c / 2 ^ (8 - r) = c / 2 ^ (7 - r) / 2 := by
        rw [Int.ediv_ediv_of_nonneg (Int.le_of_lt (Int.pow_pos (by decide))), ← Int.pow_succ, show (7 - r).succ = 8 - r by omega]
      have e3 : (2 : Int) ^ (8 - r - h) = 2 * 2 ^ (7 - (h + r)) := by
        rw [show 8 - r - h = 7 - (h + r) + 1 by omega, Int.pow_succ, Int.mul_comm]
      have e4 : 8 - (r + 1) = 7 - r := by omega
      have e5 : 8 - (r + 1) - h = 7 - (h + r) := by omega
      rw [e2, e3, e5, e4, ← Int.mul_assoc, Int.mul_comm (c / 2 ^ (7 - r) / 2) 2, ← Int.add_mul, Int.mul_ediv_add_emod]
  have hk := key (8 - h) (Nat.le_refl _)
  rw [show h + (8 - h) = 8 by omega, show 8 - (8 - h) = h by omega, Nat.sub_self, Int.pow_zero, Int.mul_one] at hk
  exact hk.symm

/-- The rest of it in the byte behind. -/
theorem join_lo (f : Nat → Int) (c : Int) (p h : Nat) (hh : h < 8) (h0 : h ≠ 0)
    (hb : ∀ r, r < 8 → f (8 * p + h + r) = c / 2 ^ (7 - r) % 2) : c * 2 ^ (8 - h) % 256 = pk f (p + 1) h := by
  have hcs : h = 1 ∨ h = 2 ∨ h = 3 ∨ h = 4 ∨ h = 5 ∨ h = 6 ∨ h = 7 := by omega
  have hb2 : ∀ k, k < h → f (8 * (p + 1) + k) = c / 2 ^ (h - 1 - k) % 2 := fun k hk => by
    have := hb (8 - h + k) (by omega)
    rw [show 8 * p + h + (8 - h + k) = 8 * (p + 1) + k by omega, show 7 - (8 - h + k) = h - 1 - k by omega] at this
    exact this
  clear hb
  rcases hcs with rfl | rfl | rfl | rfl | rfl | rfl | rfl
  · simp only [pk, hb2 0 (by omega)]; simp; omega
  · simp only [pk, hb2 0 (by omega), hb2 1 (by omega)]; simp; omega
  · simp only [pk, hb2 0 (by omega), hb2 1 (by omega), hb2 2 (by omega)]; simp; omega
  · simp only [pk, hb2 0 (by omega), hb2 1 (by omega), hb2 2 (by omega), hb2 3 (by omega)]; simp; omega
  · simp only [pk, hb2 0 (by omega), hb2 1 (by omega), hb2 2 (by omega), hb2 3 (by omega), hb2 4 (by omega)]; simp; omega
  · simp only [pk, hb2 0 (by omega), hb2 1 (by omega), hb2 2 (by omega), hb2 3 (by omega), hb2 4 (by omega), hb2 5 (by omega)]; simp; omega
  · simp only [pk, hb2 0 (by omega), hb2 1 (by omega), hb2 2 (by omega), hb2 3 (by omega), hb2 4 (by omega), hb2 5 (by omega), hb2 6 (by omega)]; simp; omega

theorem or_zero_u8 (x : Int) (h0 : 0 ≤ x) (h : x < 256) : bits .or .u8 0 x = x := by
  obtain ⟨X, rfl⟩ := Int.eq_ofNat_of_zero_le h0
  have := u8_or_nat 0 X (by decide) (by omega)
  simpa using this

theorem pk_cut (f : Nat → Int) (j : Nat) : ∀ c d, c ≤ d → (∀ k, c ≤ k → k < d → f (8 * j + k) = 0) → pk f j d = pk f j c
  | c, 0, h, _ => by have : c = 0 := by omega
                     subst this; rfl
  | c, d + 1, h, hz => by
    by_cases hcd : c = d + 1
    · subst hcd; rfl
    · simp only [pk]
      rw [pk_cut f j c d (by omega) (fun k h1 h2 => hz k h1 (by omega)), hz d (by omega) (by omega)]
      simp

/-- One byte more. -/
theorem spread_step (X : List Int) (hX : ∀ x ∈ X, x = 0 ∨ x = 1) (i : Nat) (c : Int) (h8 : i % 8 ≠ 0) (hi : i / 8 < (X.length + 7) / 8) (hc0 : 0 ≤ c) (hc : c < 256)
    (hb : ∀ r, r < 8 → X.getD (i + r) 0 = c / 2 ^ (7 - r) % 2) : spreadL (bytesAt X i) i c = bytesAt X (i + 8) := by
  have hf : ∀ q, X.getD q 0 = 0 ∨ X.getD q 0 = 1 := getD_01 hX
  have hb' : ∀ r, r < 8 → (fun q => X.getD q 0) (8 * (i / 8) + i % 8 + r) = c / 2 ^ (7 - r) % 2 := fun r hr => by
    show X.getD (8 * (i / 8) + i % 8 + r) 0 = _
    rw [show 8 * (i / 8) + i % 8 + r = i + r by omega]; exact hb r hr
  have hh := Nat.mod_lt i (show 0 < 8 by decide)
  have hhi := join_hi (fun q => X.getD q 0) hf c (i / 8) (i % 8) hh h8 hc0 hc hb'
  have hlo := join_lo (fun q => X.getD q 0) c (i / 8) (i % 8) hh h8 hb'
  have hlen : (bytesAt X i).length = (X.length + 7) / 8 := bytesAt_length X i
  have g0 : (bytesAt X i).getD (i / 8) 0 = pk (fun q => X.getD q 0) (i / 8) (i % 8) := by
    rw [List.getD_eq_getElem?_getD, bytesAt_get X i (i / 8) hi, Option.getD_some, show min 8 (i - 8 * (i / 8)) = i % 8 by omega]; rfl
  have x0 : bits .or .u8 ((bytesAt X i).getD (i / 8) 0) (c / 2 ^ (i % 8)) = packed X (i / 8) 8 := by rw [g0]; exact hhi
  have main : ∀ q, q < (X.length + 7) / 8 → ∀ v, (v = packed X q (min 8 (i + 8 - 8 * q))) → (bytesAt X (i + 8))[q]? = some v := fun q hq v hv => by rw [bytesAt_get X (i + 8) q hq, hv]
  apply List.ext_getElem?
  intro q
  by_cases hq : q < (X.length + 7) / 8
  · unfold spreadL
    rw [hlen]
    by_cases hn : i / 8 + 1 < (X.length + 7) / 8
    · rw [decide_eq_true hn]
      simp only
      unfold orAt
      rw [x0]
      have g1 : ((bytesAt X i).set (i / 8) (packed X (i / 8) 8)).getD (i / 8 + 1) 0 = 0 := by
        rw [List.getD_eq_getElem?_getD, List.getElem?_set_ne (by omega), bytesAt_get X i _ hn, Option.getD_some, show min 8 (i - 8 * (i / 8 + 1)) = 0 by omega]; rfl
      have l1 := pk_lt hf (i / 8 + 1) (i % 8) (by omega)
      rw [g1, or_zero_u8 _ (by rw [hlo]; exact l1.1) (by rw [hlo]; exact l1.2), hlo]
      rw [List.getElem?_set, List.length_set, hlen]
      by_cases e1 : i / 8 + 1 = q
      · rw [if_pos e1, if_pos hn]
        refine (main q hq _ ?_).symm
        rw [← e1, show min 8 (i + 8 - 8 * (i / 8 + 1)) = i % 8 by omega]; rfl
      · rw [if_neg e1, List.getElem?_set, hlen]
        by_cases e2 : i / 8 = q
        · rw [if_pos e2, if_pos hi]
          refine (main q hq _ ?_).symm
          rw [← e2, show min 8 (i + 8 - 8 * (i / 8)) = 8 by omega]
        · rw [if_neg e2, bytesAt_get X i q hq]
          refine (main q hq _ ?_).symm
          rw [show min 8 (i - 8 * q) = min 8 (i + 8 - 8 * q) by omega]
    · rw [decide_eq_false hn]
      simp only
      unfold orAt
      rw [x0, List.getElem?_set, hlen]
      by_cases e2 : i / 8 = q
      · rw [if_pos e2, if_pos hi]
        refine (main q hq _ ?_).symm
        rw [← e2, show min 8 (i + 8 - 8 * (i / 8)) = 8 by omega]
      · rw [if_neg e2, bytesAt_get X i q hq]
        refine (main q hq _ ?_).symm
        rw [show min 8 (i - 8 * q) = min 8 (i + 8 - 8 * q) by omega]
  · rw [List.getElem?_eq_none (by rw [spreadL_length, hlen]; omega), List.getElem?_eq_none (by rw [bytesAt_length]; omega)]

/-- Bits behind the end don't count. -/
theorem bytesAt_over (X : List Int) (k : Nat) (hk : X.length ≤ k) : bytesAt X k = bytesAt X X.length := by
  apply List.ext_getElem?
  intro q
  by_cases hq : q < (X.length + 7) / 8
  · rw [bytesAt_get X k q hq, bytesAt_get X X.length q hq]
    congr 1
    unfold packed
    refine pk_cut _ q _ _ (by omega) fun r h1 h2 => ?_
    rw [List.getD_eq_getElem?_getD, List.getElem?_eq_none (by omega)]; rfl
  · rw [List.getElem?_eq_none (by rw [bytesAt_length]; omega), List.getElem?_eq_none (by rw [bytesAt_length]; omega)]

end Go.Proofs.YthikciimaegphaaGreatDoor
