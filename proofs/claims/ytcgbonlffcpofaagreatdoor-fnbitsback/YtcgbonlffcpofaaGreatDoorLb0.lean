/- Of each part of drawn bits: what the law asks of its value. -/
import Derived.Test.YtcgbonlffcpofaaGreatDoorQ21
import Derived.Test.YtcgbonlffcpofaaGreatDoorMa3
import Derived.Test.YtcgbonlffcpofaaGreatDoorQ34
import Derived.Test.YtcgbonlffcpofaaGreatDoorSb6
namespace Go.Proofs.YtcgbonlffcpofaaGreatDoor
open Go.RowKit Go.Deep

section
variable {gs : List (SgT 2)} {X : List Int} {i : Nat}
theorem all_sg (hA : allX gs = true) : gs.length ≤ 200 ∧ (∀ g ∈ gs, sgOK g = true) ∧ ∀ g ∈ gs, okB 2 g.2.2.2.2.2 = true := by
  unfold allX at hA
  simp only [Bool.and_eq_true, decide_eq_true_eq, List.all_eq_true] at hA
  exact ⟨hA.1, fun g hg => (hA.2 g hg).1, fun g hg => (hA.2 g hg).2⟩
theorem okS_strB (h01 : ∀ x ∈ X, x = 0 ∨ x = 1) (hl : X.length ≤ 32000) : okS X.length (strB X) = true := by
  have hz := strB_size X
  rw [okS_true ⟨by omega, by omega, by omega⟩, Int.toNat_natCast, bitsOf_strB X h01]
  exact (toList_beq _ _).2 rfl
theorem built_zero (h : builtX gs = (0, X)) : allX gs = true ∧ buildX [] gs = (0, X) := by
  cases hA : allX gs with
  | false => rw [builtX_no hA] at h; cases h
  | true => rw [builtX_yes hA] at h; exact ⟨rfl, h⟩
/-- What BitMatch answers of what was built. -/
theorem mat_built (hA : allX gs = true) (hB : buildX [] gs = (0, X)) (hs : ∀ i (h : i < gs.length), i + 1 < gs.length → 0 ≤ gs[i].2.1) : MatA X.length (strB X) gs (0, leafL X 0 gs) := by
  obtain ⟨h1, h2, h3⟩ := all_sg hA
  have h01 := build_01 gs [] X hB (by simp)
  refine .inl ⟨okS_strB h01 (build_most gs [] X hB (by simp)), ⟨h1, fun i h => ⟨h2 _ (List.getElem_mem h), fun he => ?_⟩⟩, ?_⟩
  · rcases Nat.lt_or_ge (i + 1) gs.length with hlt | hge
    · have := hs i h hlt; omega
    · omega
  · rw [Int.toNat_natCast]
    exact mat_all gs [] X [] hB h2 fun i h he => by
      rcases Nat.lt_or_ge (i + 1) gs.length with hlt | hge
      · have := hs i h hlt; omega
      · omega
/-- The turned parts make the same bits. -/
theorem built_again (hA : allX gs = true) (hB : buildX [] gs = (0, X)) : builtX (turnL X 0 gs) = (0, X) := by
  obtain ⟨h1, h2, h3⟩ := all_sg hA
  have h01 := build_01 gs [] X hB (by simp)
  have hlen := turnL_length (X := X) gs 0
  have hmost := build_most gs [] X hB (by simp)
  refine (builtX_yes ?_).trans (back_all gs [] X hB h2 h01)
  unfold allX
  simp only [Bool.and_eq_true, decide_eq_true_eq, List.all_eq_true]
  refine ⟨by omega, fun g hg => ?_⟩
  obtain ⟨i, hi, rfl⟩ := List.mem_iff_getElem.1 hg
  rw [hlen] at hi
  have he := turnL_at (X := X) gs 0 i hi
  rw [List.getElem?_eq_getElem (by omega)] at he
  injection he with he
  obtain ⟨xs, g1, g2, g3, g4⟩ := build_at gs [] X hB h01 i hi
  simp only [List.length_nil, Nat.zero_add] at g3 g4
  rw [Nat.zero_add] at he
  rw [he]
  obtain ⟨_, t2, t3⟩ := turn_ok (X := X) (f := offs gs i) (h2 _ (List.getElem_mem hi)) g1 g2 g4 (by omega)
  exact ⟨t2, t3⟩
theorem leaf_up {S : Nat → Prop} {w : World} {g : SgT 2} {f : Nat} {a b c d : Value} (h : TAt S w 1 (leafM (strB X) f (widG g) g) a b c d) : TAt S w 2 (lf X f g) a b c d := by
  by_cases hg : g.1 = 1
  · have e1 : leafM (strB X) f (widG g) g = ((1 : Int), signed g.2.2.2.1 (widG g) (orN (gbit (strB X) f) (widG g) g.2.2.2.2.1 (widG g)), (⟨#[]⟩ : ByteArray), ([] : List (Tm 0))) := leafM_int hg
    have e2 : lf X f g = ((1 : Int), signed g.2.2.2.1 (widG g) (orN (gbit (strB X) f) (widG g) g.2.2.2.2.1 (widG g)), (⟨#[]⟩ : ByteArray), ([] : List (Tm 1))) := if_pos hg
    rw [e1] at h
    rw [e2]
    obtain ⟨h0, h1, h2, h3, h4, h5, a', cap, h6, h7, h8, _⟩ := h
    exact ⟨h0, h1, h2, h3, h4, h5, a', cap, h6, h7, h8, fun i hi => by cases hi⟩
  · have e1 : leafM (strB X) f (widG g) g = ((9 : Int), (0 : Int), strB (cutBits (strB X) f (widG g)), ([] : List (Tm 0))) := leafM_bin hg
    have e2 : lf X f g = ((9 : Int), (0 : Int), strB (cutBits (strB X) f (widG g)), ([] : List (Tm 1))) := if_neg hg
    rw [e1] at h
    rw [e2]
    obtain ⟨h0, h1, h2, h3, h4, h5, a', cap, h6, h7, h8, _⟩ := h
    exact ⟨h0, h1, h2, h3, h4, h5, a', cap, h6, h7, h8, fun i hi => by cases hi⟩
theorem mul_bounds {a b : Int} (h1 : -1 ≤ a) (h2 : a ≤ 32000) (h3 : 1 ≤ b) (h4 : b ≤ 256) : -256 ≤ a * b ∧ a * b ≤ 8192000 := by
  by_cases ha : a < 0
  · obtain rfl : a = -1 := by omega
    omega
  · have h5 := Int.mul_nonneg (show 0 ≤ a by omega) (show 0 ≤ b by omega)
    have h6 := Int.mul_le_mul h2 h4 (by omega) (by omega : (0 : Int) ≤ 32000)
    omega
/-- A part of kind Int: its value is what went in, modulo 2 to its width. -/
theorem fact_int (hA : allX gs = true) (hB : buildX [] gs = (0, X)) (hi : i < gs.length) (hg : gs[i].1 = 1) :
    ∃ W : Nat, ∃ N j : Int, lf X (offs gs i) gs[i] = ((1 : Int), N, (⟨#[]⟩ : ByteArray), ([] : List (Tm 1))) ∧ gs[i].2.1 * gs[i].2.2.1 = W ∧ W ≤ 49 ∧ N - tN 2 gs[i].2.2.2.2.2 = 2 ^ W * j ∧ -562949953421312 ≤ N ∧ N ≤ 562949953421312 ∧
      -1000000000000000 ≤ tN 2 gs[i].2.2.2.2.2 ∧ tN 2 gs[i].2.2.2.2.2 ≤ 1000000000000000 ∧ 0 ≤ gs[i].2.1 := by
  obtain ⟨h1, h2, h3⟩ := all_sg hA
  have h01 := build_01 gs [] X hB (by simp)
  obtain ⟨xs, g1, g2, g3, g4⟩ := build_at gs [] X hB h01 i hi
  simp only [List.length_nil, Nat.zero_add] at g3 g4
  have hok := h2 _ (List.getElem_mem hi)
  have hoB := h3 _ (List.getElem_mem hi)
  obtain ⟨f1, f2, f3, _⟩ := seg_facts hok g1
  obtain ⟨f4, f5, f6, f7⟩ := f3 hg
  obtain ⟨N, j, e1, e2, e3, e4⟩ := lf_int hok g1 g4 hg
  generalize gs[i] = g at *
  obtain ⟨a1, a2, a3, a4, a5, t⟩ := g
  obtain ⟨k, m, s, ks⟩ := t
  have hk : k = 1 := f7
  have hm : -1000000000000000 ≤ m ∧ m ≤ 1000000000000000 := by
    subst hk
    unfold okB rightB at hoB
    simp only [Bool.and_eq_true, fit_1, decide_eq_true_eq] at hoB
    exact ⟨hoB.2.1.1.1.1.1, hoB.2.1.1.1.1.2⟩
  exact ⟨xs.length, N, j, e1, (f2 (by dsimp only at f6 ⊢; omega)).symm, f5, by rw [e2]; generalize 2 ^ xs.length * j = z; exact show tN 2 _ + z - tN 2 _ = z by omega, e3, e4, hm.1, hm.2, f6⟩
/-- A part of kind Bin: its value's text. -/
theorem fact_bin (hA : allX gs = true) (hB : buildX [] gs = (0, X)) (hi : i < gs.length) (hg : gs[i].1 ≠ 1) :
    ∃ s : ByteArray, lf X (offs gs i) gs[i] = ((9 : Int), (0 : Int), s, ([] : List (Tm 1))) ∧
      (∀ m : Nat, gs[i].2.1 * gs[i].2.2.1 = ((8 * m : Nat) : Int) → m ≤ (tS 2 gs[i].2.2.2.2.2).size ∧ s = (tS 2 gs[i].2.2.2.2.2).extract 0 m) := by
  obtain ⟨h1, h2, h3⟩ := all_sg hA
  have h01 := build_01 gs [] X hB (by simp)
  obtain ⟨xs, g1, g2, g3, g4⟩ := build_at gs [] X hB h01 i hi
  simp only [List.length_nil, Nat.zero_add] at g3 g4
  have hok := h2 _ (List.getElem_mem hi)
  obtain ⟨f1, f2, _, f4⟩ := seg_facts hok g1
  obtain ⟨f5, f6, f7⟩ := f4 hg
  obtain ⟨a1, a2, _⟩ := sg_facts hok
  refine ⟨strB xs, lf_bin g1 g4 hg, fun m hm => ?_⟩
  have hne : gs[i].2.1 ≠ -1 := fun he => by rw [he] at hm; omega
  have hl : xs.length = 8 * m := by have := f2 hne; omega
  rw [hl] at f6 f7
  have f8 : 8 * m ≤ 8 * (tS 2 gs[i].2.2.2.2.2).size := f6
  exact ⟨by omega, by rw [f7]; exact strB_bytes _ _ (by omega)⟩
/-- How many bits the parts take. -/
theorem fact_wid (hA : allX gs = true) (hB : buildX [] gs = (0, X)) (hi : i < gs.length) : (0 ≤ gs[i].2.1 → gs[i].2.1 * gs[i].2.2.1 = (widG gs[i] : Int)) ∧ offs gs i + widG gs[i] ≤ X.length ∧ (i + 1 = gs.length → offs gs i + widG gs[i] = X.length) := by
  obtain ⟨h1, h2, h3⟩ := all_sg hA
  have h01 := build_01 gs [] X hB (by simp)
  obtain ⟨xs, g1, g2, g3, g4⟩ := build_at gs [] X hB h01 i hi
  simp only [List.length_nil, Nat.zero_add] at g3
  obtain ⟨f1, f2, _, _⟩ := seg_facts (h2 _ (List.getElem_mem hi)) g1
  rw [wid_of g1]
  refine ⟨fun h => (f2 (by omega)).symm, g3, fun hl => ?_⟩
  have hsum := build_sum gs [] X hB
  have hn := offs_next gs i hi
  rw [wid_of g1, hl] at hn
  unfold offs at hn
  rw [List.take_length] at hn
  simp at hsum
  unfold offs
  omega
theorem Out.toBelow {B R : Nat} {w w1 w2 : World} (h : Below B w w1) (ho : Out R (R + 1) w1 w2) (hB : B ≤ R) (hs : B ≤ w1.heap.size) : Below B w w2 :=
  ⟨ho.os.trans h.os, ho.tape.trans h.tape, ho.output.trans h.output, Nat.le_trans h.size ho.size, fun b hb => (ho.block b (by omega) (.inl (by omega))).trans (h.block b hb)⟩
theorem turn_pos {f : Nat} {g : SgT 2} (h : ¬ g.2.1 < 0) : turnG X f g = withV g (lf X f g) := by
  unfold turnG withV; rw [if_neg h, if_neg h]
theorem turn_neg {f : Nat} {g : SgT 2} (h : g.2.1 < 0) : turnG X f g = (g.1, (widG g : Int), 1, g.2.2.2.1, g.2.2.2.2.1, lf X f g) := by
  unfold turnG; rw [if_pos h, if_pos h]
section
variable {R j : Nat} {w : World} {ps : List (SgT 2)} {g : SgT 2}
theorem GRow.nine (h : GRow R ps w) (hj : j < ps.length) (hg : ps[j] = g) : ∃ k m s u, (∀ i, i < 9 → w.cell? ⟨R, j * 9 + i, none⟩ = ([.int .i64 g.1, .int .i64 g.2.1, .int .i64 g.2.2.1, .bool g.2.2.2.1, .bool g.2.2.2.2.1, .int .i64 k, .int .i64 m, .string s, u] : List Value)[i]?) ∧
    SgAt (fun b => b ≠ R ∧ b < w.heap.size) w 2 g [.int .i64 g.1, .int .i64 g.2.1, .int .i64 g.2.2.1, .bool g.2.2.2.1, .bool g.2.2.2.2.1, .int .i64 k, .int .i64 m, .string s, u] := by
  subst hg
  obtain ⟨k, m, s, u, ⟨c0, c1, c2, c3, c4, c5, c6, c7, c8⟩, ⟨i1, i2, i3⟩, ht, _⟩ := h.at j hj
  refine ⟨k, m, s, u, fun i hi => ?_, _, _, _, _, rfl, i1, i2, i3, ht⟩
  rcases (show i = 0 ∨ i = 1 ∨ i = 2 ∨ i = 3 ∨ i = 4 ∨ i = 5 ∨ i = 6 ∨ i = 7 ∨ i = 8 by omega) with rfl | rfl | rfl | rfl | rfl | rfl | rfl | rfl | rfl
  · exact c0
  · exact c1
  · exact c2
  · exact c3
  · exact c4
  · exact c5
  · exact c6
  · exact c7
  · exact c8
theorem GRow.val {t : Tm 2} {k1 m1 : Int} {s1 : ByteArray} {u1 : Value} (h : GRow R ps w) (hj : j < ps.length) (hg : ps[j] = g) (ht : TAt (fun b => b ≠ R ∧ b < w.heap.size) w 2 t (.int .i64 k1) (.int .i64 m1) (.string s1) u1) :
    GRow R (ps.set j (withV g t)) (setL w R (j * 9 + 5) [.int .i64 k1, .int .i64 m1, .string s1, u1]) ∧ Out R (R + 1) w (setL w R (j * 9 + 5) [.int .i64 k1, .int .i64 m1, .string s1, u1]) := by
  obtain ⟨k, m, s, u, hd, _, _, _, _, _, i1, i2, i3, _⟩ := h.nine hj hg
  obtain ⟨r1, r2, r3, r4, r5, r6⟩ := h.put (o := 5) (p := withV g t) (es := [.int .i64 k1, .int .i64 m1, .string s1, u1]) (fs := [.int .i64 g.1, .int .i64 g.2.1, .int .i64 g.2.2.1, .bool g.2.2.2.1, .bool g.2.2.2.2.1, .int .i64 k1, .int .i64 m1, .string s1, u1]) hj (by simp) hd put_tail (put_head _ _ _ _ _) ⟨_, _, _, _, rfl, i1, i2, i3, ht⟩
  exact ⟨r1, r4, r5, r6, by rw [r3]; exact Nat.le_refl _, fun b _ hb => r2 b (by omega)⟩
theorem GRow.siz {n : Int} (hn : In64 n) (h : GRow R ps w) (hj : j < ps.length) (hg : ps[j] = g) :
    GRow R (ps.set j ((g.1, n, g.2.2) : SgT 2)) (setL w R (j * 9 + 1) [.int .i64 n]) ∧ Out R (R + 1) w (setL w R (j * 9 + 1) [.int .i64 n]) := by
  obtain ⟨k, m, s, u, hd, _, _, _, _, e, i1, i2, i3, ht⟩ := h.nine hj hg
  obtain ⟨r1, r2, r3, r4, r5, r6⟩ := h.put (o := 1) (p := ((g.1, n, g.2.2) : SgT 2)) (es := [.int .i64 n]) (fs := [.int .i64 g.1, .int .i64 n, .int .i64 g.2.2.1, .bool g.2.2.2.1, .bool g.2.2.2.2.1, .int .i64 k, .int .i64 m, .string s, u]) hj (by simp) hd put_1a put_1b ⟨_, _, _, _, by injection e with _ e; injection e with _ e; injection e with _ e; injection e with _ e; injection e with _ e; rw [← e], i1, hn, i3, ht⟩
  exact ⟨r1, r4, r5, r6, by rw [r3]; exact Nat.le_refl _, fun b _ hb => r2 b (by omega)⟩
theorem GRow.uni {n : Int} (hn : In64 n) (h : GRow R ps w) (hj : j < ps.length) (hg : ps[j] = g) :
    GRow R (ps.set j ((g.1, g.2.1, n, g.2.2.2) : SgT 2)) (setL w R (j * 9 + 2) [.int .i64 n]) ∧ Out R (R + 1) w (setL w R (j * 9 + 2) [.int .i64 n]) := by
  obtain ⟨k, m, s, u, hd, _, _, _, _, e, i1, i2, i3, ht⟩ := h.nine hj hg
  obtain ⟨r1, r2, r3, r4, r5, r6⟩ := h.put (o := 2) (p := ((g.1, g.2.1, n, g.2.2.2) : SgT 2)) (es := [.int .i64 n]) (fs := [.int .i64 g.1, .int .i64 g.2.1, .int .i64 n, .bool g.2.2.2.1, .bool g.2.2.2.2.1, .int .i64 k, .int .i64 m, .string s, u]) hj (by simp) hd put_2a put_2b ⟨_, _, _, _, by injection e with _ e; injection e with _ e; injection e with _ e; injection e with _ e; injection e with _ e; rw [← e], i1, i2, hn, ht⟩
  exact ⟨r1, r4, r5, r6, by rw [r3]; exact Nat.le_refl _, fun b _ hb => r2 b (by omega)⟩
theorem GRow.drew (h : GRow R ps w) : GRow R ps w.drew := h
theorem Out.drew {lo hi : Nat} {w w' : World} (h : Out lo hi w w') : Out lo hi w w'.drew := ⟨h.os, h.tape, h.output, h.size, h.block⟩
end
end

end Go.Proofs.YtcgbonlffcpofaaGreatDoor
