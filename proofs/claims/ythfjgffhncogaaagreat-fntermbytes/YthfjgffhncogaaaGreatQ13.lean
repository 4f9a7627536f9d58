/- spec's DrawTermPack, as a function of the code. -/
import Derived.Test.YthfjgffhncogaaaGreatDd6
import Derived.Test.YthfjgffhncogaaaGreatQ3
import Derived.Test.YthfjgffhncogaaaGreatDd5
import Derived.Test.YthfjgffhncogaaaGreatQ1
import Derived.WalkKit
namespace Go.Proofs.YthfjgffhncogaaaGreat
open Go.RowKit Go.Deep

/-- A code's bytes that came in: what they are. -/
def CodeInD (w : World) (q : Src) (v : Value) : Prop :=
  ∃ a cap, v = .slice a q.1 cap ∧ q.1 ≤ cap ∧ cap ≤ 2 ^ 47 ∧ ∀ i, i < q.1 → ∃ b off, a = some ⟨b, off, none⟩ ∧ b < w.heap.size ∧ w.cell? ⟨b, off + i, none⟩ = some (.int .u8 (q.2 i)) ∧ 0 ≤ q.2 i ∧ q.2 i < 256
theorem CodeIn.told {w : World} {L : Nat} {v : Value} (h : CodeIn w L v) : ∃ cb : Nat → Int, CodeInD w (L, cb) v := by
  obtain ⟨a, cap, h1, h2, h3, h4⟩ := h
  have hx : ∀ i : Nat, ∃ x : Int, i < L → ∃ b off, a = some ⟨b, off, none⟩ ∧ b < w.heap.size ∧ w.cell? ⟨b, off + i, none⟩ = some (.int .u8 x) ∧ 0 ≤ x ∧ x < 256 := fun i => by
    by_cases hi : i < L
    · obtain ⟨b, off, x, g⟩ := h4 i hi
      exact ⟨x, fun _ => ⟨b, off, g⟩⟩
    · exact ⟨0, fun h => absurd h hi⟩
  obtain ⟨cb, hcb⟩ := Classical.axiomOfChoice hx
  exact ⟨cb, a, cap, h1, h2, h3, fun i hi => hcb i hi⟩
theorem CodeInD.up {w w' : World} {q : Src} {v : Value} (h : CodeInD w q v) (hb : Below w.heap.size w w') : CodeInD w' q v := by
  obtain ⟨a, cap, h1, h2, h3, h4⟩ := h
  refine ⟨a, cap, h1, h2, h3, fun i hi => ?_⟩
  obtain ⟨b, off, g1, g2, g3, g4⟩ := h4 i hi
  exact ⟨b, off, g1, Nat.lt_of_lt_of_le g2 hb.size, ((bcell hb) b _ g2).trans g3, g4⟩
theorem CodeInD.at {w : World} {q : Src} {v : Value} (h : CodeInD w q v) (hL : q.1 ≤ 1048576) : CodeD w.heap.size q v w := by
  obtain ⟨a, cap, h1, h2, h3, h4⟩ := h
  exact ⟨a, cap, h1, h2, h3, hL, h4⟩

def drawnT (q : Src) : Tm 101 := (anyF q (0, 17 + (q.1 : Int))).1

set_option maxRecDepth 40000 in
set_option maxHeartbeats 1000000 in
theorem dpackD_any (q : Src) (v : Value) (w : World) (hc : CodeInD w q v) (hL : q.1 ≤ 1048576) :
    Calls Tryz.prog 17 #[v] w fun e w' => (∃ k m s a l c, e = .returned (.agg #[.int .i64 k, .int .i64 m, .string s, .slice a l c]) ∧ TAt (Fresh w w') w' 101 (drawnT q) (.int .i64 k) (.int .i64 m) (.string s) (.slice a l c)) ∧ Below w.heap.size w w' := by
  obtain ⟨va, vc, rfl⟩ : ∃ va vc, v = .slice va q.1 vc := by obtain ⟨a, cap, h, _⟩ := hc; exact ⟨a, cap, h⟩
  obtain ⟨w0, hw0⟩ : ∃ w0, w0 = w.alloc (.cells #[.int .i64 0, .int .i64 0, .string ⟨#[]⟩, .slice none 0 0] 26) := ⟨_, rfl⟩
  have hb0 : Below w.heap.size w w0 := by rw [hw0]; exact (Below.refl _ _).alloc (Nat.le_refl _) _
  have hs0 : w0.heap.size = w.heap.size + 1 := by rw [hw0]; simp
  have hr0 : Res4 w.heap.size w0 := by rw [hw0]; exact ⟨_, _, _, _, heap_new _ _⟩
  have hp := hide (dcurD_any q _ w0 ((hc.up hb0).at hL))
  have HW0 := hide hw0
  have HB0 := hide hb0
  have HS0 := hide hs0
  have HR0 := hide hr0
  clear hc hb0 hs0 hr0
  go_enter Tryz.func17, Tryz.ntmps17
  go_wp2_with fail
  rw [← unhide HW0]
  clear hw0
  refine (unhide hp).mono ?_
  rintro e w1 ⟨rfl, hc1, hk1⟩
  have HA := hide (anyD_any w0.heap.size q _ 0 _ w1 hc1 (by omega))
  have HLT := hide hc1.lt
  have HK1 := hide hk1
  clear hc1 hk1 hp
  go_wp2_with fail
  refine (unhide HA).mono ?_
  rintro e w2 ⟨k, m, s, a, l, c, rfl, ht, hl5, hc2, hk2⟩
  have hs0 := unhide HS0
  have hk1 := unhide HK1
  have hlt := unhide HLT
  have hr2 : Res4 w.heap.size w2 := (unhide HR0).keep ((hk2.block _ (by omega) (by omega)).trans (hk1.block _ (by omega) (by omega)))
  obtain ⟨y0, y1, y2, y3, q0, q1, q2, q3, z0, z1, z2, z3⟩ := res_cells hr2
  have hb2 : Below w.heap.size w w2 := (unhide HB0).trans ⟨hk2.os.trans hk1.os, hk2.tape.trans hk1.tape, hk2.output.trans hk1.output, Nat.le_trans hk1.size hk2.size, fun b hb => (hk2.block b (by omega) (by omega)).trans (hk1.block b (by omega) (by omega))⟩
  have HT := hide ht
  have HB2 := hide hb2
  clear ht hl5 hc2 hk2 hk1 hlt hr2 hb2 hs0 HA
  go_wp2_with fail
  have hpk := put4_kept w2 w.heap.size (.int .i64 k) (.int .i64 m) (.string s) (.slice a l c)
  have hlt := unhide HLT
  have hs0 := unhide HS0
  have hsz := put4_size w2 w.heap.size (.int .i64 k) (.int .i64 m) (.string s) (.slice a l c)
  have hT : TAt (Fresh w (put4 w2 w.heap.size (.int .i64 k) (.int .i64 m) (.string s) (.slice a l c))) (put4 w2 w.heap.size (.int .i64 k) (.int .i64 m) (.string s) (.slice a l c)) 101 (drawnT q) (.int .i64 k) (.int .i64 m) (.string s) (.slice a l c) :=
    ((unhide HT).keep fun b hb => hpk.block b hb.2 (by have := hb.1; omega)).mono fun b hb => ⟨by have := hb.1; omega, by rw [hsz]; exact hb.2⟩
  have hB : Below w.heap.size w (put4 w2 w.heap.size (.int .i64 k) (.int .i64 m) (.string s) (.slice a l c)) :=
    ((((unhide HB2).setCell (p := ⟨w.heap.size, 0, none⟩) (Nat.le_refl _) _).setCell (p := ⟨w.heap.size, 1, none⟩) (Nat.le_refl _) _).setCell (p := ⟨w.heap.size, 2, none⟩) (Nat.le_refl _) _).setCell (p := ⟨w.heap.size, 3, none⟩) (Nat.le_refl _) _
  exact bodyPost_ret (v := .agg #[.int .i64 k, .int .i64 m, .string s, .slice a l c]) (by simp [results, Tryz.results17, go_sem, q0, q1, q2, q3]) rfl ⟨⟨k, m, s, a, l, c, rfl, hT⟩, hB⟩

end Go.Proofs.YthfjgffhncogaaaGreat
/- How large a drawn term is at most. -/
namespace Go.Proofs.YthfjgffhncogaaaGreat
open Go.RowKit Go.Deep

theorem sumF_le {α : Type} {f g : α → Nat} : ∀ {xs : List α}, (∀ x ∈ xs, f x ≤ g x) → (xs.map f).sum ≤ (xs.map g).sum
  | [], _ => Nat.le_refl _
  | x :: xs, h => by
    have h1 := h x (by simp)
    have h2 := sumF_le (xs := xs) fun y hy => h y (by simp [hy])
    simp only [List.map_cons, List.sum_cons]
    omega
theorem sumF_most {α : Type} {f : α → Nat} {B : Nat} : ∀ {xs : List α}, (∀ x ∈ xs, f x ≤ B) → (xs.map f).sum ≤ xs.length * B
  | [], _ => Nat.zero_le _
  | x :: xs, h => by
    have h1 := h x (by simp)
    have h2 := sumF_most (xs := xs) fun y hy => h y (by simp [hy])
    simp only [List.map_cons, List.sum_cons, List.length_cons, Nat.succ_mul]
    omega
theorem tot_eq {n : Nat} (k m : Int) (s : ByteArray) (ks : List (Tm n)) : tot (n + 1) (k, m, s, ks) = s.size + (ks.length + (ks.map (tot n)).sum) := rfl
theorem tot_cv : ∀ (n m : Nat) (t : Tm n), tot (m + 1) (cvT n m t) ≤ tot n t
  | 0, _, t => t.elim
  | n + 1, 0, (k, i, s, ks) => by
    show s.size + (0 + 0) ≤ s.size + (ks.length + (ks.map (tot n)).sum)
    omega
  | n + 1, m + 1, (k, i, s, ks) => by
    show s.size + ((ks.map (cvT n m)).length + ((ks.map (cvT n m)).map (tot (m + 1))).sum) ≤ s.size + (ks.length + (ks.map (tot n)).sum)
    rw [List.length_map, List.map_map]
    have := sumF_le (xs := ks) (f := tot (m + 1) ∘ cvT n m) (g := tot n) fun t _ => tot_cv n m t
    omega

section
variable {n : Nat} {t1 t2 a b : Tm n} {ks : List (Tm n)} {s : List (Tm n) × Bool}
theorem withM_len {j : Nat} (h : s.1.length ≤ 2 * j + 2 * s.2.toNat) : (withM t1 t2 a s).1.length ≤ 2 * j + 2 * (withM t1 t2 a s).2.toNat := by
  unfold withM
  split
  · rename_i g
    have h0 := g.1
    rw [h0] at h
    simp at h ⊢
    omega
  · exact h
theorem withM_mem {P : Tm n → Prop} (h1 : P t1) (h2 : P t2) (h : ∀ x ∈ s.1, P x) : ∀ x ∈ (withM t1 t2 a s).1, P x := by
  unfold withM
  split
  · intro x hx
    simp at hx
    rcases hx with hx | rfl | rfl
    · exact h x hx
    · exact h1
    · exact h2
  · exact h
theorem getD_mem {P : Tm n → Prop} {d : Tm n} {i : Nat} (h1 : P d) (h : ∀ x ∈ ks, P x) : P (ks.getD i d) := by
  by_cases hi : i < ks.length
  · rw [getD_at hi]; exact h _ (List.getElem_mem hi)
  · rw [List.getD_eq_getElem?_getD, List.getElem?_eq_none (by omega)]; exact h1
theorem withF_len : ∀ j, (withF t1 t2 ks j).1.length ≤ 2 * j + 2 * (withF t1 t2 ks j).2.toNat
  | 0 => Nat.zero_le _
  | j + 1 => by
    have h := withM_len (t1 := t1) (t2 := t2) (a := ks.getD (2 * j) t1) (withF_len j)
    show (withN t1 t2 (ks.getD (2 * j) t1) (ks.getD (2 * j + 1) t1) (withF t1 t2 ks j)).1.length ≤ 2 * (j + 1) + 2 * (withN t1 t2 (ks.getD (2 * j) t1) (ks.getD (2 * j + 1) t1) (withF t1 t2 ks j)).2.toNat
    unfold withN
    split
    · omega
    · simp only [List.length_append, List.length_cons, List.length_nil]
      omega
theorem withF_mem {P : Tm n → Prop} (h1 : P t1) (h2 : P t2) (h : ∀ x ∈ ks, P x) : ∀ j, ∀ x ∈ (withF t1 t2 ks j).1, P x
  | 0 => fun x hx => by cases hx
  | j + 1 => by
    have hM := withM_mem (a := ks.getD (2 * j) t1) h1 h2 (withF_mem h1 h2 h j)
    show ∀ x ∈ (withN t1 t2 (ks.getD (2 * j) t1) (ks.getD (2 * j + 1) t1) (withF t1 t2 ks j)).1, P x
    unfold withN
    split
    · exact hM
    · intro x hx
      rw [List.mem_append] at hx
      rcases hx with hx | hx
      · exact hM x hx
      · simp only [List.mem_cons, List.not_mem_nil, or_false] at hx
        rcases hx with rfl | rfl
        · exact getD_mem h1 h
        · exact getD_mem h1 h
theorem withR_len {p : Nat} : (withR t1 t2 ks p).length ≤ 2 * p + 2 := by
  have h := withF_len (t1 := t1) (t2 := t2) (ks := ks) p
  unfold withR
  split
  · rename_i g
    rw [g] at h
    simpa using h
  · rename_i g
    have g' : (withF t1 t2 ks p).2 = false := by simpa using g
    rw [g'] at h
    simp at h ⊢
    omega
theorem withR_mem {P : Tm n → Prop} {p : Nat} (h1 : P t1) (h2 : P t2) (h : ∀ x ∈ ks, P x) : ∀ x ∈ withR t1 t2 ks p, P x := by
  have hF := withF_mem h1 h2 h p
  unfold withR
  split
  · exact hF
  · intro x hx
    rw [List.mem_append] at hx
    rcases hx with hx | hx
    · exact hF x hx
    · simp only [List.mem_cons, List.not_mem_nil, or_false] at hx
      rcases hx with rfl | rfl
      · exact h1
      · exact h2
theorem mapF_few {f : Sig → Tm n × Sig} {P : Tm n → Prop} (hf : ∀ σ, P (f σ).1) : ∀ (i : Nat) (s : List (Tm n) × Sig), (∀ x ∈ s.1, P x) → (mapF f i s).1.length ≤ s.1.length + 2 * i ∧ ∀ x ∈ (mapF f i s).1, P x
  | 0, s, h => ⟨Nat.le_refl _, h⟩
  | i + 1, s, h => by
    have hr := mapF_few hf i (withR (f s.2).1 (f (f s.2).2).1 s.1 (s.1.length / 2), (f (f s.2).2).2) (withR_mem (hf _) (hf _) h)
    have hl := withR_len (t1 := (f s.2).1) (t2 := (f (f s.2).2).1) (ks := s.1) (p := s.1.length / 2)
    refine ⟨Nat.le_trans hr.1 ?_, hr.2⟩
    show (withR (f s.2).1 (f (f s.2).2).1 s.1 (s.1.length / 2)).length + 2 * i ≤ s.1.length + 2 * (i + 1)
    omega
theorem rowF_few {f : Sig → Tm n × Sig} {P : Tm n → Prop} (hf : ∀ σ, P (f σ).1) : ∀ (i : Nat) (s : List (Tm n) × Sig), (∀ x ∈ s.1, P x) → (rowF f i s).1.length ≤ s.1.length + i ∧ ∀ x ∈ (rowF f i s).1, P x
  | 0, s, h => ⟨Nat.le_refl _, h⟩
  | i + 1, s, h => by
    have hr := rowF_few hf i (s.1 ++ [(f s.2).1], (f s.2).2) fun x hx => by
      rw [List.mem_append] at hx
      rcases hx with hx | hx
      · exact h x hx
      · simp only [List.mem_cons, List.not_mem_nil, or_false] at hx
        rw [hx]; exact hf _
    refine ⟨Nat.le_trans hr.1 ?_, hr.2⟩
    simp only [List.length_append, List.length_cons, List.length_nil]
    omega
end

theorem pickF_lt (q : Src) (n : Int) (σ : Sig) (h1 : 1 < n) (h2 : n ≤ 256) : ((pickF q n σ).1 : Int) < n := by
  rw [pickF_few (by omega) h2]
  have := Int.emod_nonneg (byteF q σ).1 (by omega : n ≠ 0)
  have := Int.emod_lt_of_pos (byteF q σ).1 (by omega : 0 < n)
  show (((byteF q σ).1 % n).toNat : Int) < n
  omega
theorem strV_small {arr : Array Value} (h : arr.toList.all isStr = true) (i : Nat) : (strV arr[i]?).size ≤ 100 := by
  by_cases hi : i < arr.size
  · have h1 := List.all_eq_true.1 h arr[i] (by simp)
    rw [Array.getElem?_eq_getElem hi]
    generalize arr[i] = x at h1
    cases x <;> simp [isStr] at h1
    exact h1
  · rw [Array.getElem?_eq_none (by omega)]
    exact Nat.zero_le _

def tb : Nat → Nat
  | 0 => 100
  | D + 1 => 6 + 6 * tb D
theorem tb_pos : ∀ D, 100 ≤ tb D
  | 0 => Nat.le_refl _
  | D + 1 => by have := tb_pos D; show 100 ≤ 6 + 6 * tb D; omega
theorem leafF_tot {D : Nat} (q : Src) (kk : Int) (σ : Sig) : tot (D + 1) (leafF q kk σ).1 ≤ 100 := by
  have h0 : ∀ (k m : Int) (s : ByteArray), s.size ≤ 100 → tot (D + 1) (k, m, s, []) ≤ 100 := fun k m s h => by rw [tot_eq]; simpa using h
  unfold leafF
  split
  · split
    · exact h0 _ _ _ (by decide)
    · exact h0 _ _ _ (by decide)
  · split
    · exact h0 _ _ _ (strV_small rfl _)
    · split
      · exact h0 _ _ _ (by decide)
      · exact h0 _ _ _ (strV_small rfl _)
theorem kids_tot {n B : Nat} (k m : Int) {ls : List (Tm n)} (hl : ls.length ≤ 6) (h : ∀ t ∈ ls, tot n t ≤ B) : tot (n + 1) (k, m, ⟨#[]⟩, ls) ≤ 6 + 6 * B := by
  rw [tot_eq]
  have h1 := sumF_most h
  have h2 := Nat.mul_le_mul_right B hl
  have h3 : (⟨#[]⟩ : ByteArray).size = 0 := rfl
  omega
theorem drawF_tot (q : Src) : ∀ (D : Nat) (σ : Sig), tot (D + 1) (drawF q D σ).1 ≤ tb D
  | 0, σ => by
    unfold drawF
    split
    · exact leafF_tot _ _ _
    · exact leafF_tot _ _ _
  | D + 1, σ => by
    show tot (D + 2) (if (pickF q 14 σ).1 ≤ 7 then leafF q (pickF q 14 σ).1 (pickF q 14 σ).2 else nodeF q (drawF q D) (pickF q 14 σ).1 (pickF q 14 σ).2).1 ≤ 6 + 6 * tb D
    have hp := tb_pos D
    split
    · exact Nat.le_trans (leafF_tot (D := D + 1) q _ _) (by omega)
    · have h4 := pickF_lt q 4 (pickF q 14 σ).2 (by omega) (by omega)
      have hm := mapF_few (P := fun t => tot (D + 1) t ≤ tb D) (f := drawF q D) (fun σ => drawF_tot q D σ) (pickF q 4 (pickF q 14 σ).2).1 ([], (pickF q 4 (pickF q 14 σ).2).2) (fun x hx => by cases hx)
      have hr := rowF_few (P := fun t => tot (D + 1) t ≤ tb D) (f := drawF q D) (fun σ => drawF_tot q D σ) (pickF q 4 (pickF q 14 σ).2).1 ([], (pickF q 4 (pickF q 14 σ).2).2) (fun x hx => by cases hx)
      have hm1 := hm.1
      have hr1 := hr.1
      simp only [List.length_nil] at hm1 hr1
      unfold nodeF
      split
      · exact kids_tot _ _ (by omega) hm.2
      · split
        · exact kids_tot _ _ (by omega) hr.2
        · split
          · exact kids_tot _ _ (by omega) hr.2
          · exact kids_tot _ _ (by omega) hr.2

theorem nestT_tot : ∀ m, tot (m + 1) (nestT m) ≤ m
  | 0 => Nat.le_refl _
  | m + 1 => by
    have h := nestT_tot m
    show 0 + (1 + (tot (m + 1) (nestT m) + 0)) ≤ m + 1
    omega
theorem nestF_most (q : Src) : ∀ (fuel j : Nat) (σ : Sig), (nestF q fuel j σ).1 ≤ j + fuel
  | 0, j, σ => Nat.le_refl _
  | fuel + 1, j, σ => by
    unfold nestF
    split
    · have := nestF_most q fuel (j + 1) (pickF q 2 σ).2
      omega
    · show j ≤ j + (fuel + 1)
      omega
theorem wideF_most (q : Src) : ∀ (fuel j : Nat) (ls : List (Tm 1)) (σ : Sig), (∀ t ∈ ls, tot 1 t ≤ 0) → (wideF q fuel j ls σ).1.length ≤ ls.length + fuel ∧ ∀ t ∈ (wideF q fuel j ls σ).1, tot 1 t ≤ 0
  | 0, j, ls, σ, h => ⟨Nat.le_refl _, h⟩
  | fuel + 1, j, ls, σ, h => by
    unfold wideF
    split
    · have key : ∀ u : Tm 1, tot 1 u ≤ 0 → (wideF q fuel (j + 1) (ls ++ [u]) (pickF q 2 σ).2).1.length ≤ ls.length + (fuel + 1) ∧ ∀ t ∈ (wideF q fuel (j + 1) (ls ++ [u]) (pickF q 2 σ).2).1, tot 1 t ≤ 0 := fun u hu => by
        have hr := wideF_most q fuel (j + 1) (ls ++ [u]) (pickF q 2 σ).2 fun t ht => by
          rw [List.mem_append] at ht
          rcases ht with ht | ht
          · exact h t ht
          · simp only [List.mem_cons, List.not_mem_nil, or_false] at ht
            rw [ht]; exact hu
        refine ⟨Nat.le_trans hr.1 ?_, hr.2⟩
        simp only [List.length_append, List.length_cons, List.length_nil]
        omega
      exact key _ (Nat.le_refl _)
    · exact ⟨Nat.le_add_right _ _, h⟩

theorem tot_swap {n B : Nat} {k m k' m' : Int} {s s' : ByteArray} {ks : List (Tm n)} (h : tot (n + 1) (k, m, s, ks) ≤ B) : tot (n + 1) (k', m', s', ks) ≤ B + s'.size := by
  rw [tot_eq] at h ⊢
  omega

theorem turnF_tot {n B : Nat} (q : Src) (x k m : Int) (s : ByteArray) (ks : List (Tm n)) (σ : Sig) (h : tot (n + 1) (k, m, s, ks) ≤ B) (hB : B ≤ 1000000) : tot 101 (turnF q x k m s ks σ).1 ≤ 1048576 := by
  unfold turnF
  split
  · refine Nat.le_trans (tot_cv _ _ _) ?_
    rw [tot_eq] at h ⊢; omega
  · split
    · refine Nat.le_trans (tot_cv _ _ _) ?_
      rw [tot_eq] at h ⊢; omega
    · split
      · refine Nat.le_trans (tot_cv _ _ _) ?_
        have h1 := strV_small (arr := strs4) rfl (pickF q 4 σ).1
        rw [tot_eq] at h ⊢; omega
      · split
        · refine Nat.le_trans (tot_cv _ _ _) ?_
          have h1 : tot 2 (drawF q 1 σ).1 ≤ 606 := drawF_tot q 1 σ
          have h2 : tot 10 (cvT 2 9 (drawF q 1 σ).1) ≤ tot 2 (drawF q 1 σ).1 := tot_cv 2 9 (drawF q 1 σ).1
          have h3 : (ks.map (tot 10 ∘ cvT n 9)).sum ≤ (ks.map (tot n)).sum := sumF_le (xs := ks) fun t _ => tot_cv n 9 t
          rw [tot_eq] at h ⊢
          simp only [List.length_append, List.length_map, List.length_cons, List.length_nil, List.map_append, List.map_map, List.map_cons, List.map_nil, List.sum_append, List.sum_cons, List.sum_nil]
          omega
        · split
          · refine Nat.le_trans (tot_cv _ _ _) ?_
            have h1 := nestT_tot ((nestF q 101 1 σ).1 - 1)
            have h2 := nestF_most q 101 1 σ
            omega
          · split
            · refine Nat.le_trans (tot_cv _ _ _) ?_
              obtain ⟨h1, h2⟩ := wideF_most q 2001 1 [] σ fun t ht => by cases ht
              have h3 := sumF_most h2
              simp only [List.length_nil] at h1
              rw [tot_eq]
              have h4 : (⟨#[]⟩ : ByteArray).size = 0 := rfl
              omega
            · split
              · refine Nat.le_trans (tot_cv _ _ _) ?_
                have h1 := pickF_lt q 2 σ (by omega) (by omega)
                rw [tot_eq, strOfNums_size, List.length_replicate]
                simp only [List.length_nil, List.map_nil, List.sum_nil]
                omega
              · refine Nat.le_trans (tot_cv _ _ _) ?_
                omega

theorem sizeF_few (q : Src) (σ : Sig) : (sizeF q σ).1 ≤ 4 := by
  unfold sizeF
  split
  · have := pickF_lt q 5 σ (by omega) (by omega)
    omega
  · rename_i h
    by_cases h1 : 1 < 1 + ((q.1 / 12 : Nat) : Int) + 1
    · have := pickF_lt q _ σ h1 (by omega)
      omega
    · rw [pickF_one (by omega)]
      exact Nat.zero_le _
theorem tb_five : ∀ r, r ≤ 4 → tb (r + 1) ≤ 1000000
  | 0, _ => by decide
  | 1, _ => by decide
  | 2, _ => by decide
  | 3, _ => by decide
  | 4, _ => by decide
  | _ + 5, h => by omega
theorem anyF_tot (q : Src) (σ : Sig) : tot 101 (anyF q σ).1 ≤ 1048576 := by
  have h := drawF_tot q ((sizeF q σ).1 + 1) (sizeF q σ).2
  have hB := tb_five _ (sizeF_few q σ)
  exact turnF_tot q _ _ _ _ _ _ h hB

end Go.Proofs.YthfjgffhncogaaaGreat
/- Plain facts: the number that is made of bytes; a number's bytes, the highest first. -/
namespace Go.Proofs.YthfjgffhncogaaaGreat
open Go.RowKit

/-- The number that is made of bytes, from h on. -/
def hOn (h : Int) (l : List Int) : Int := l.foldl (fun h b => (h * 33 + b) % 4294967296) h
theorem hOn_append (h : Int) (l l' : List Int) : hOn h (l ++ l') = hOn (hOn h l) l' := by unfold hOn; rw [List.foldl_append]
theorem hOn_one (h b : Int) : hOn h [b] = (h * 33 + b) % 4294967296 := rfl
/-- In the range of 32 bits. -/
def U32 (h : Int) : Prop := 0 ≤ h ∧ h < 4294967296
theorem hOn_u32 : ∀ (l : List Int) (h : Int), U32 h → U32 (hOn h l)
  | [], h, hh => hh
  | b :: l, h, _ => by
    show U32 (hOn ((h * 33 + b) % 4294967296) l)
    exact hOn_u32 l _ ⟨by omega, by omega⟩

/-- The low bytes of a number, the highest first. -/
def beL (n : Int) : Nat → List Int
  | 0 => []
  | k + 1 => beL (n / 256) k ++ [n % 256]
theorem beL_length (n : Int) : ∀ k, (beL n k).length = k
  | 0 => rfl
  | k + 1 => by unfold beL; rw [List.length_append, beL_length (n / 256) k]; rfl
theorem two_pow8 (r : Nat) : (2 : Int) ^ (8 * (r + 1)) = 256 * 2 ^ (8 * r) := by
  rw [show 8 * (r + 1) = 8 + 8 * r by omega, Int.pow_add]; rfl
theorem div_pow8 (n : Int) (r : Nat) : n / 256 / 2 ^ (8 * r) = n / 2 ^ (8 * (r + 1)) := by
  rw [two_pow8, Int.ediv_ediv_of_nonneg (by decide)]
theorem pow8_div (n : Int) (r : Nat) : n / 2 ^ (8 * r) / 256 = n / 2 ^ (8 * (r + 1)) := by
  rw [two_pow8, Int.mul_comm, Int.ediv_ediv_of_nonneg (Int.le_of_lt (Int.pow_pos (by decide)))]
theorem beL_cons (n : Int) (k : Nat) : beL n (k + 1) = (n / 2 ^ (8 * k) % 256) :: beL n k := by
  induction k generalizing n with
  | zero => simp [beL]
  | succ k ih =>
    have h := ih (n / 256)
    rw [beL, h, List.cons_append]
    rw [div_pow8]
    rfl
theorem beL_front (n : Int) (q k : Nat) : beL (n / 2 ^ (8 * q)) (k + 1) = beL (n / 2 ^ (8 * (q + 1))) k ++ [n / 2 ^ (8 * q) % 256] := by
  rw [beL, pow8_div]
theorem beL_byte (n : Int) : ∀ k, ∀ x ∈ beL n k, 0 ≤ x ∧ x < 256
  | 0, x, h => by simp [beL] at h
  | k + 1, x, h => by
    unfold beL at h
    rcases List.mem_append.1 h with h | h
    · exact beL_byte (n / 256) k x h
    · simp at h; omega

/-- A text's letters as numbers. -/
def txtL (s : ByteArray) : List Int := s.data.toList.map fun b => (b.toNat : Int)
theorem txtL_length (s : ByteArray) : (txtL s).length = s.size := by simp [txtL]
theorem txtL_take (s : ByteArray) (i : Nat) (h : i < s.size) : (txtL s).take (i + 1) = (txtL s).take i ++ [((s[i]'h).toNat : Int)] := by
  have hl : i < (txtL s).length := by rw [txtL_length]; exact h
  rw [List.take_succ_eq_append_getElem hl]
  congr 2
  simp only [txtL, List.getElem_map]
  rfl
theorem txtL_append (a b : ByteArray) : txtL (a ++ b) = txtL a ++ txtL b := by
  simp [txtL]
theorem txtL_nums (xs : List Int) (h : ∀ x ∈ xs, 0 ≤ x ∧ x < 256) : txtL (strOfNums xs) = xs := by
  unfold txtL
  rw [strOfNums_data, List.map_map]
  conv => rhs; rw [← List.map_id xs]
  apply List.map_congr_left
  intro x hx
  have := h x hx
  simp only [Function.comp, UInt8.toNat_ofNat', id]
  omega

/-- What a term's own bytes are. -/
def nodeL (k m : Int) (s : ByteArray) (len : Nat) : List Int := [k % 256] ++ beL (m % 9223372036854775808) 8 ++ beL s.size 2 ++ txtL s ++ beL len 2
/-- The number that is made of a term, from h on. -/
def hashT : (n : Nat) → Tm n → Int → Int
  | 0, t, _ => t.elim
  | n + 1, (k, m, s, ks), h => ks.foldl (fun h t => hashT n t h) (hOn h (nodeL k m s ks.length))
def hashS {n : Nat} (ks : List (Tm n)) (h : Int) : Int := ks.foldl (fun h t => hashT n t h) h
theorem hashT_eq {n : Nat} (k m : Int) (s : ByteArray) (ks : List (Tm n)) (h : Int) : hashT (n + 1) (k, m, s, ks) h = hashS ks (hOn h (nodeL k m s ks.length)) := rfl
theorem hashT_u32 : ∀ (n : Nat) (t : Tm n) (h : Int), U32 h → U32 (hashT n t h)
  | 0, t, _, _ => t.elim
  | n + 1, (k, m, s, ks), h, hh => by
    rw [hashT_eq]
    have all : ∀ (ks : List (Tm n)) (h : Int), U32 h → U32 (hashS ks h) := fun ks => by
      induction ks with
      | nil => intro h hh; exact hh
      | cons t ks ih => intro h hh; exact ih _ (hashT_u32 n t h hh)
    exact all ks _ (hOn_u32 _ _ hh)
theorem hashS_take {n : Nat} (ks : List (Tm n)) (h : Int) (i : Nat) (hi : i < ks.length) : hashS (ks.take (i + 1)) h = hashT n ks[i] (hashS (ks.take i) h) := by
  unfold hashS; rw [List.take_succ_eq_append_getElem hi, List.foldl_append]; rfl
theorem hashS_u32 {n : Nat} (ks : List (Tm n)) : ∀ (h : Int), U32 h → U32 (hashS ks h) := by
  induction ks with
  | nil => intro h hh; exact hh
  | cons t ks ih => intro h hh; exact ih _ (hashT_u32 n t h hh)

end Go.Proofs.YthfjgffhncogaaaGreat
