/- Plain facts: what is read is no larger than its bytes; what both sides answer. -/
import Derived.Test.YthfjgffhncogaaaGreatQ36
import Derived.Test.YthfjgffhncogaaaGreatQ41
namespace Go.Proofs.YthfjgffhncogaaaGreat
open Go.RowKit Go.Deep

theorem takeB_len {n : Nat} {l x r : List Int} (h : takeB n l = some (x, r)) : x.length = n ∧ n + r.length = l.length := by
  unfold takeB at h
  split at h
  · cases h
    rename_i hn
    rw [List.length_take, List.length_drop]
    omega
  · cases h
theorem takeN_len {n q : Nat} {l r : List Int} (h : takeN n l = some (q, r)) : n + r.length = l.length := by
  unfold takeN at h
  cases hb : takeB n l with
  | none => rw [hb] at h; cases h
  | some p =>
    obtain ⟨x, r1⟩ := p
    rw [hb] at h
    cases h
    exact (takeB_len hb).2

/-- No larger than its bytes. -/
def Small {n : Nat} (f : List Int → Nat → Option (Tm n × List Int × Nat)) : Prop := ∀ l c t r c', f l c = some (t, r, c') → tot n t + 1 + r.length ≤ l.length
theorem takeR_small {n : Nat} {f : List Int → Nat → Option (Tm n × List Int × Nat)} (hf : Small f) : ∀ k l c ks r c', takeR f k l c = some (ks, r, c') → ks.length + totS ks + r.length ≤ l.length
  | 0, l, c, ks, r, c', h => by
    cases h
    simp [totS]
  | k + 1, l, c, ks, r, c', h => by
    rw [takeR] at h
    cases h1 : takeR f k l c with
    | none => rw [h1] at h; cases h
    | some p =>
      obtain ⟨xs, l1, c1⟩ := p
      rw [h1] at h
      dsimp only at h
      cases h2 : f l1 c1 with
      | none => rw [h2] at h; cases h
      | some p =>
        obtain ⟨x, l2, c2⟩ := p
        rw [h2] at h
        cases h
        have e1 := takeR_small hf k l c xs l1 c1 h1
        have e2 := hf l1 c1 x _ _ h2
        have e3 : totS (xs ++ [x]) = totS xs + tot n x := by simp [totS]
        rw [e3, List.length_append]
        simp
        omega
theorem takeK_small {n : Nat} {f : List Int → Nat → Option (Tm n × List Int × Nat)} (hf : Small f) {k m : Int} {len : Nat} {l : List Int} {c : Nat} {t : Tm (n + 1)} {r : List Int} {c' : Nat} (h : takeK f k m len l c = some (t, r, c')) : tot (n + 1) t + r.length ≤ l.length := by
  unfold takeK at h
  cases h1 : takeR f len l c with
  | none => rw [h1] at h; cases h
  | some p =>
    obtain ⟨ks, r1, c1⟩ := p
    rw [h1] at h
    cases h
    have := takeR_small hf _ _ _ _ _ _ h1
    have e : tot (n + 1) ((k, m, noText, ks) : Tm (n + 1)) = noText.size + (ks.length + totS ks) := rfl
    rw [e]
    have e2 : noText.size = 0 := rfl
    omega
theorem tot_leafT (n : Nat) (k m : Int) (s : ByteArray) : tot (n + 1) (leafT n k m s) = s.size := by
  show s.size + (0 + 0) = _
  omega
theorem nums_size (x : List Int) : (strOfNums x).size = x.length := by
  simp [strOfNums, ByteArray.size]

theorem takeT_small {n : Nat} {f : List Int → Nat → Option (Tm (n + 1) × List Int × Nat)} (hf : Small f) {tag : Int} {l : List Int} {c : Nat} {t : Tm (n + 2)} {r : List Int} {c' : Nat} (h : takeT f tag l c = some (t, r, c')) : tot (n + 2) t + r.length ≤ l.length := by
  have hz : noText.size = 0 := rfl
  unfold takeT at h
  by_cases n97 : tag = 97
  · rw [if_pos n97] at h
    cases e1 : takeN 1 l with
    | none => rw [e1] at h; cases h
    | some p =>
    obtain ⟨x1, r1⟩ := p
    rw [e1] at h
    dsimp only at h
    have g1 := takeN_len e1
    cases h
    rw [tot_leafT]
    omega
  rw [if_neg n97] at h
  by_cases n98 : tag = 98
  · rw [if_pos n98] at h
    cases e1 : takeN 1 l with
    | none => rw [e1] at h; cases h
    | some p =>
    obtain ⟨x1, r1⟩ := p
    rw [e1] at h
    dsimp only at h
    have g1 := takeN_len e1
    cases e2 : takeN 7 r1 with
    | none => rw [e2] at h; cases h
    | some p =>
    obtain ⟨x2, r2⟩ := p
    rw [e2] at h
    dsimp only at h
    have g2 := takeN_len e2
    cases h
    rw [tot_leafT]
    omega
  rw [if_neg n98] at h
  by_cases n119 : tag = 119
  · rw [if_pos n119] at h
    cases e1 : takeN 1 l with
    | none => rw [e1] at h; cases h
    | some p =>
    obtain ⟨x1, r1⟩ := p
    rw [e1] at h
    dsimp only at h
    have g1 := takeN_len e1
    cases e2 : takeB x1 r1 with
    | none => rw [e2] at h; cases h
    | some p =>
    obtain ⟨x2, r2⟩ := p
    rw [e2] at h
    dsimp only at h
    have g2 := takeB_len e2
    cases h
    rw [tot_leafT, nums_size]
    omega
  rw [if_neg n119] at h
  by_cases n114 : tag = 114
  · rw [if_pos n114] at h
    cases e1 : takeN 7 l with
    | none => rw [e1] at h; cases h
    | some p =>
    obtain ⟨x1, r1⟩ := p
    rw [e1] at h
    dsimp only at h
    have g1 := takeN_len e1
    cases h
    rw [tot_leafT]
    omega
  rw [if_neg n114] at h
  by_cases n103 : tag = 103
  · rw [if_pos n103] at h
    cases e1 : takeN 7 l with
    | none => rw [e1] at h; cases h
    | some p =>
    obtain ⟨x1, r1⟩ := p
    rw [e1] at h
    dsimp only at h
    have g1 := takeN_len e1
    cases h
    rw [tot_leafT]
    omega
  rw [if_neg n103] at h
  by_cases n112 : tag = 112
  · rw [if_pos n112] at h
    cases e1 : takeN 7 l with
    | none => rw [e1] at h; cases h
    | some p =>
    obtain ⟨x1, r1⟩ := p
    rw [e1] at h
    dsimp only at h
    have g1 := takeN_len e1
    cases e2 : takeN 2 r1 with
    | none => rw [e2] at h; cases h
    | some p =>
    obtain ⟨x2, r2⟩ := p
    rw [e2] at h
    dsimp only at h
    have g2 := takeN_len e2
    have h1 : tot (n + 2) t + r.length ≤ _ := takeK_small hf h
    omega
  rw [if_neg n112] at h
  by_cases n104 : tag = 104
  · rw [if_pos n104] at h
    cases e1 : takeN 1 l with
    | none => rw [e1] at h; cases h
    | some p =>
    obtain ⟨x1, r1⟩ := p
    rw [e1] at h
    dsimp only at h
    have g1 := takeN_len e1
    have h1 : tot (n + 2) t + r.length ≤ _ := takeK_small hf h
    omega
  rw [if_neg n104] at h
  by_cases n105 : tag = 105
  · rw [if_pos n105] at h
    cases e1 : takeN 2 l with
    | none => rw [e1] at h; cases h
    | some p =>
    obtain ⟨x1, r1⟩ := p
    rw [e1] at h
    dsimp only at h
    have g1 := takeN_len e1
    have h1 : tot (n + 2) t + r.length ≤ _ := takeK_small hf h
    omega
  rw [if_neg n105] at h
  by_cases n116 : tag = 116
  · rw [if_pos n116] at h
    cases e1 : takeN 2 l with
    | none => rw [e1] at h; cases h
    | some p =>
    obtain ⟨x1, r1⟩ := p
    rw [e1] at h
    dsimp only at h
    have g1 := takeN_len e1
    have h1 : tot (n + 2) t + r.length ≤ _ := takeK_small hf h
    omega
  rw [if_neg n116] at h
  by_cases n106 : tag = 106
  · rw [if_pos n106] at h
    cases h
    rw [tot_leafT]
    omega
  rw [if_neg n106] at h
  by_cases n107 : tag = 107
  · rw [if_pos n107] at h
    cases e1 : takeN 2 l with
    | none => rw [e1] at h; cases h
    | some p =>
    obtain ⟨x1, r1⟩ := p
    rw [e1] at h
    dsimp only at h
    have g1 := takeN_len e1
    cases e2 : takeB x1 r1 with
    | none => rw [e2] at h; cases h
    | some p =>
    obtain ⟨x2, r2⟩ := p
    rw [e2] at h
    dsimp only at h
    have g2 := takeB_len e2
    cases h
    have e : tot (n + 2) ((8, 0, noText, x2.map fun b => leafT n 1 b noText) : Tm (n + 2)) = noText.size + ((x2.map fun b => leafT n 1 b noText).length + totS (x2.map fun b => leafT n 1 b noText)) := rfl
    have e0 : totS (x2.map fun b => leafT n 1 b noText) = 0 := by
      clear g2 e e2
      unfold totS
      induction x2 with
      | nil => rfl
      | cons y ys ih => simp [tot_leafT, hz] at ih ⊢; exact ih
    rw [e, e0, List.length_map]
    omega
  rw [if_neg n107] at h
  by_cases n108 : tag = 108
  · rw [if_pos n108] at h
    cases e1 : takeN 2 l with
    | none => rw [e1] at h; cases h
    | some p =>
    obtain ⟨x1, r1⟩ := p
    rw [e1] at h
    dsimp only at h
    have g1 := takeN_len e1
    have h1 : tot (n + 2) t + r.length ≤ _ := takeK_small hf h
    omega
  rw [if_neg n108] at h
  by_cases n109 : tag = 109
  · rw [if_pos n109] at h
    cases e1 : takeN 2 l with
    | none => rw [e1] at h; cases h
    | some p =>
    obtain ⟨x1, r1⟩ := p
    rw [e1] at h
    dsimp only at h
    have g1 := takeN_len e1
    cases e2 : takeB x1 r1 with
    | none => rw [e2] at h; cases h
    | some p =>
    obtain ⟨x2, r2⟩ := p
    rw [e2] at h
    dsimp only at h
    have g2 := takeB_len e2
    cases h
    rw [tot_leafT, nums_size]
    omega
  rw [if_neg n109] at h
  cases h

theorem takeV_small : ∀ n, Small (takeV n)
  | 0 => fun l c t r c' h => by cases h
  | n + 1 => fun l c t r c' h => by
    have h' : (if 2000 < c + 1 then none else match takeN 1 l with | none => none | some (tag, r) => takeT (takeV n) tag r (c + 1)) = some (t, r, c') := h
    by_cases hc : 2000 < c + 1
    · rw [if_pos hc] at h'; cases h'
    · rw [if_neg hc] at h'
      cases e1 : takeN 1 l with
      | none => rw [e1] at h'; cases h'
      | some p =>
        obtain ⟨x1, r1⟩ := p
        rw [e1] at h'
        dsimp only at h'
        have g1 := takeN_len e1
        have g2 : tot (n + 1 + 1) t + r.length ≤ _ := takeT_small (takeV_small n) h'
        show tot (n + 1 + 1) t + 1 + r.length ≤ _
        omega

/-- What both sides answer. -/
def unpT (data : ByteArray) : Option (Tm 101) := match wholeT data with
  | some (t, _, _) => if packCode 101 t = 0 ∧ packStr 101 t = data then some t else none
  | none => none

theorem whole_small {data : ByteArray} {t : Tm 101} {r : List Int} {c : Nat} (h : wholeT data = some (t, r, c)) : tot 101 t ≤ data.size := by
  unfold wholeT at h
  cases e1 : takeN 1 (suf data 0) with
  | none => rw [e1] at h; cases h
  | some p =>
    obtain ⟨q, r1⟩ := p
    rw [e1] at h
    dsimp only at h
    have g1 := takeN_len e1
    rw [suf_length] at g1
    by_cases hq : q = 131
    · rw [if_pos hq] at h
      have g2 : tot 101 t + 1 + r.length ≤ _ := takeV_small 100 _ _ _ _ _ h
      omega
    · rw [if_neg hq] at h; cases h

set_option maxRecDepth 40000 in
theorem unp_rest {data : ByteArray} {t : Tm 101} {r : List Int} {c : Nat} (h : wholeT data = some (t, r, c)) (h0 : packCode 101 t = 0) (h1 : packStr 101 t = data) : r = [] ∧ data.size ≤ 40000 := by
  by_cases hok : okB 101 t = true
  rotate_left
  · rw [packCode_no hok] at h0; cases h0
  by_cases hl : 1 + (packT 101 t).length ≤ 40000
  rotate_left
  · rw [packCode_full hok hl] at h0; cases h0
  rw [packStr_yes hok hl] at h1
  have hb : ∀ x ∈ 131 :: packT 101 t, 0 ≤ x ∧ x < 256 := by
    intro x hx
    rcases List.mem_cons.1 hx with rfl | hx
    · exact ⟨by omega, by omega⟩
    · exact packT_byte 101 t x hx
  have ht : txtL data = 131 :: packT 101 t := by rw [← h1, txtL_nums _ hb]
  have hs : data.size = 1 + (packT 101 t).length := by rw [← txtL_length, ht, List.length_cons]; omega
  have hf : fitsB 101 t = true ∧ rightB 101 t = true := by unfold okB at hok; simpa using hok
  have hf2 : siz 101 t ≤ 2000 ∧ dep 101 t ≤ 100 := by have := hf.1; unfold fitsB at this; simpa using this
  have hw := take_any 100 t [] 0 hf.2 (show 0 + couT 101 t ≤ 2000 by have := cou_siz 101 t; omega) hf2.1 hf2.2
  rw [List.append_nil] at hw
  have hs0 : suf data 0 = 131 :: packT 101 t := by unfold suf; rw [ht]; rfl
  have hw2 : wholeT data = some (t, [], 0 + couT 101 t) := by
    unfold wholeT
    rw [hs0, takeN_one]
    exact hw
  rw [hw2] at h
  injection h with h
  injection h with _ h
  injection h with h _
  exact ⟨h.symm, by omega⟩

end Go.Proofs.YthfjgffhncogaaaGreat
/- spec.TermUnpack. -/
namespace Go.Proofs.YthfjgffhncogaaaGreat
open Go.RowKit Go.Deep

def zeroT : Value := .agg #[.int .i64 0, .int .i64 0, .string ⟨#[]⟩, .slice none 0 0]
theorem _root_.Go.RowKit.Below.four {w w' : World} {N : Nat} (h : Below N w w') {B : Nat} (hB : N ≤ B) (d0 d1 d2 d3 : Value) : Below N w (fourIn w' B d0 d1 d2 d3) := by
  have hk := fourIn_kept w' B d0 d1 d2 d3
  exact ⟨hk.os.trans h.os, hk.tape.trans h.tape, hk.output.trans h.output, Nat.le_trans h.size hk.size, fun k hk' =>
    (Below.heap_setCell _ _ _ _ (by show k ≠ B; omega)).trans ((Below.heap_setCell _ _ _ _ (by show k ≠ B; omega)).trans ((Below.heap_setCell _ _ _ _ (by show k ≠ B; omega)).trans ((Below.heap_setCell _ _ _ _ (by show k ≠ B; omega)).trans (h.block k hk'))))⟩
/-- Behind TermUnpack. -/
def UnpEnd (data : ByteArray) (w : World) (e : Ending) (w' : World) : Prop := Below w.heap.size w w' ∧
  ((∃ t d0 d1 d2 d3, unpT data = some t ∧ e = .returned (.tuple #[.agg #[d0, d1, d2, d3], .int .i64 0]) ∧ TAt (Fresh w w') w' 101 t d0 d1 d2 d3) ∨ (unpT data = none ∧ e = .returned (.tuple #[zeroT, .int .i64 4])))

theorem unp_big {data : ByteArray} (h : 40000 < data.size) : unpT data = none := by
  unfold unpT
  cases hw : wholeT data with
  | none => rfl
  | some p =>
    obtain ⟨t, r, c⟩ := p
    dsimp only
    by_cases hp : packCode 101 t = 0 ∧ packStr 101 t = data
    · have := (unp_rest hw hp.1 hp.2).2
      omega
    · rw [if_neg hp]
theorem unp_left {data : ByteArray} {t : Tm 101} {r : List Int} {c : Nat} (hw : wholeT data = some (t, r, c)) (hr : r ≠ []) : unpT data = none := by
  unfold unpT
  rw [hw]
  dsimp only
  rw [if_neg fun hp => hr (unp_rest hw hp.1 hp.2).1]
theorem unp_of {data : ByteArray} {t : Tm 101} {r : List Int} {c : Nat} (hw : wholeT data = some (t, r, c)) : unpT data = if packCode 101 t = 0 ∧ packStr 101 t = data then some t else none := by
  unfold unpT
  rw [hw]
theorem unp_no {data : ByteArray} (hw : wholeT data = none) : unpT data = none := by
  unfold unpT
  rw [hw]
theorem whole_empty {data : ByteArray} (h : data.size = 0) : wholeT data = none := by
  unfold wholeT takeN
  rw [take_no (Nat.zero_le _) (by omega)]
theorem whole_byte {data : ByteArray} (h : 0 < data.size) : wholeT data = if (data[0]'h).toNat = 131 then takeV 100 (suf data 1) 0 else none := by
  unfold wholeT takeN
  rw [take_yes (pos := 0) (n := 1) (by omega)]
  have hl : ((suf data 0).take 1).length = 1 := by rw [List.length_take, suf_length]; omega
  obtain ⟨x, hx⟩ := List.length_eq_one_iff.1 hl
  have h1 := txtL_take data 0 h
  have h0 : suf data 0 = txtL data := rfl
  rw [h0] at hx
  rw [h0, hx]
  rw [show 0 + 1 = 1 by rfl, hx] at h1
  simp at h1
  have hn : (numL [x]).toNat = (data[0]'h).toNat := by rw [h1]; simp [numL]
  dsimp only
  rw [hn]

section
variable (data : ByteArray) (w : World)

set_option maxRecDepth 40000 in
set_option maxHeartbeats 1000000 in
theorem su_early (hd : data.size ≤ 2 ^ 47) (h : 40000 < data.size ∨ data.size = 0 ∨ ∃ h : 0 < data.size, (data[0]'h).toNat ≠ 131) :
    Calls Tryz.prog 25 #[.string data] w fun e w' => UnpEnd data w e w' := by
  have HV := hide (show unpT data = none by
    rcases h with h | h | ⟨h, hb⟩
    · exact unp_big h
    · exact unp_no (whole_empty h)
    · refine unp_no ?_
      rw [whole_byte h, if_neg hb])
  by_cases h1 : 40000 < data.size
  · have h1' : (40000 : Int) < (data.size : Int) := by omega
    clear h
    go_enter Tryz.func25, Tryz.ntmps25
    go_wp2_with fail
    exact bodyPost_ret (v := .tuple #[zeroT, .int .i64 4]) (by simp [results, Tryz.results25, go_sem, zeroT]) rfl ⟨(Below.refl _ _).alloc (Nat.le_refl _) _, .inr ⟨unhide HV, rfl⟩⟩
  · have h1' : ¬ (40000 : Int) < (data.size : Int) := by omega
    by_cases h2 : data.size = 0
    · have h2' : (data.size : Int) = 0 := by omega
      clear h
      go_enter Tryz.func25, Tryz.ntmps25
      go_wp2_with fail
      exact bodyPost_ret (v := .tuple #[zeroT, .int .i64 4]) (by simp [results, Tryz.results25, go_sem, zeroT]) rfl ⟨(Below.refl _ _).alloc (Nat.le_refl _) _, .inr ⟨unhide HV, rfl⟩⟩
    · obtain ⟨h3, h4⟩ : ∃ h : 0 < data.size, (data[0]'h).toNat ≠ 131 := by
        rcases h with h | h | h
        · exact absurd h h1
        · exact absurd h h2
        · exact h
      have h2' : ¬ (data.size : Int) = 0 := by omega
      have h4' : ¬ ((data[0]'h3).toNat : Int) = 131 := by omega
      have h5' : (((data[0]'h3).toNat : Int) != 131) = true := by simp; omega
      clear h
      go_enter Tryz.func25, Tryz.ntmps25
      go_wp2_with fail
      exact bodyPost_ret (v := .tuple #[zeroT, .int .i64 4]) (by simp [results, Tryz.results25, go_sem, zeroT]) rfl ⟨(Below.refl _ _).alloc (Nat.le_refl _) _, .inr ⟨unhide HV, rfl⟩⟩

set_option maxRecDepth 40000 in
set_option maxHeartbeats 1000000 in
theorem su_main (hd : data.size ≤ 40000) (h0 : 0 < data.size) (hb : (data[0]'h0).toNat = 131) :
    Calls Tryz.prog 25 #[.string data] w fun e w' => UnpEnd data w e w' := by
  have HW := hide (show wholeT data = takeV 100 (suf data 1) 0 by rw [whole_byte h0, if_pos hb])
  obtain ⟨w0, hw0⟩ : ∃ w0, w0 = (w.alloc (.cells #[.int .i64 0, .int .i64 0, .string ⟨#[]⟩, .slice none 0 0] 26)).alloc (.cells #[.string data, .int .i64 1, .bool false, .int .i64 0, .slice none 0 0] 84) := ⟨_, rfl⟩
  have hb0 : Below w.heap.size w w0 := by rw [hw0]; exact ((Below.refl _ _).alloc (Nat.le_refl _) _).alloc (by simp) _
  have hs0 : w0.heap.size = w.heap.size + 2 := by rw [hw0]; simp
  have hr0 : Four w.heap.size w0 := by
    rw [hw0]
    exact ⟨_, _, _, _, (Below.heap_alloc _ _ _ (by simp)).trans (heap_new w _)⟩
  have ht0 : Tkr (w.heap.size + 1) 0 data 1 false w0 := by
    rw [hw0, show w.heap.size + 1 = (w.alloc (.cells #[.int .i64 0, .int .i64 0, .string ⟨#[]⟩, .slice none 0 0] 26)).heap.size by simp]
    exact heap_new _ _
  have hcall := hide (sterm_any 100 (w.heap.size + 1) 0 data 1 1 w0 ht0 h0 (by omega) rfl (by omega))
  have HW0 := hide hw0
  have HB0 := hide hb0
  have HR0 := hide hr0
  have h1' : ¬ (40000 : Int) < (data.size : Int) := by omega
  have h2' : ¬ data.size = 0 := by omega
  have h4' : ((data[0]'h0).toNat : Int) = 131 := by omega
  have h5' : (((data[0]'h0).toNat : Int) != 131) = false := by simp; omega
  clear hw0 hb0 hr0 ht0
  go_enter Tryz.func25, Tryz.ntmps25
  go_upto_region 4 with fail
  rw [← unhide HW0]
  go_wp2_with fail
  refine (unhide hcall).mono ?_
  rintro e w1 ⟨b1, ⟨t, c1, p1, d0, d1, d2, d3, ht, hp1, _, _, rfl, hT, tk1⟩ | ⟨hno, c1, p1, k1, k2, s1, a1, l1, e1, _, rfl, tk1⟩⟩
  · obtain ⟨tk, tm, ts, ta, tl, tc, rfl, rfl, rfl, rfl⟩ := hT.shape
    go_upto_region 5 with fail
    obtain ⟨w2, hw2⟩ : ∃ w2, w2 = w1.alloc (.cells #[.int .i64 tk, .int .i64 tm, .string ts, .slice ta tl tc] 26) := ⟨_, rfl⟩
    have hb2 : Below w1.heap.size w1 w2 := by rw [hw2]; exact (Below.refl _ _).alloc (Nat.le_refl _) _
    have hn2 : w2.heap[w1.heap.size]? = some (.cells #[.int .i64 tk, .int .i64 tm, .string ts, .slice ta tl tc] 26 (0, 0)) := by rw [hw2]; exact heap_new _ _
    rw [← hw2]
    have tk2 := tk1.below hb2
    have HR2 := hide (((unhide HR0).keep (b1.block _ (by omega) (by omega))).keep (hb2.block _ (by have := b1.size; omega)))
    have HB2 := hide (((unhide HB0).trans (b1.toBelow (B := w.heap.size) (by omega) (by omega))).trans (hb2.mono (by have := b1.size; omega)))
    have t2 := tk2.cells.2.2.1
    have t3 := tk2.cells.2.1
    have HWT := hide (show wholeT data = some (t, suf data p1, c1) by rw [unhide HW, ht])
    have HT2 := hide (((hT.below hb2 fun b hb => hb.2).mono fun b hb => hb) : TAt (Fresh w0 w1) w2 101 t _ _ _ _)
    have HS := hide (And.intro b1.size hb2.size)
    have HN2 := hide hn2
    have HLT := hide (show w1.heap.size < w2.heap.size from (Array.getElem?_eq_some_iff.1 hn2).1)
    clear hw2 hb2 hn2 tk2 tk1 b1 hT ht hcall HW HB0 HR0
    by_cases hp : p1 = data.size
    rotate_left
    · have hp2 : ¬ (p1 : Int) = (data.size : Int) := by omega
      have hp3 : ((p1 : Int) != (data.size : Int)) = true := by simp; omega
      have hne : suf data p1 ≠ [] := by
        intro h
        have := congrArg List.length h
        rw [suf_length] at this
        simp at this
        omega
      have HNE := hide hne
      clear hne hp
      obtain ⟨y0, y1, y2, y3, f0, f1, f2, f3, g0, g1, g2, g3⟩ := (unhide HR2).cells
      have HV := hide (unp_left (unhide HWT) (unhide HNE))
      go_wp2_with fail
      exact bodyPost_ret (v := .tuple #[zeroT, .int .i64 4]) (by simp [results, Tryz.results25, go_sem, zeroT, f0, f1, f2, f3]) rfl ⟨(unhide HB2).four (Nat.le_refl _) _ _ _ _, .inr ⟨unhide HV, rfl⟩⟩
    · subst hp
      have hp3 : ((data.size : Int) != (data.size : Int)) = false := by simp
      have hpk := hide (sPack_any t _ _ _ _ w2 ((unhide HT2).mono fun b hb => by show b < w2.heap.size; have := hb.2; have := (unhide HS).2; omega) (show tot 101 t ≤ 1048576 by have := whole_small (unhide HWT); omega))
      obtain ⟨ps, hps⟩ : ∃ ps, ps = packStr 101 t := ⟨_, rfl⟩
      obtain ⟨pc, hpc⟩ : ∃ pc, pc = packCode 101 t := ⟨_, rfl⟩
      have HUN := hide (unp_of (unhide HWT))
      rw [← hps, ← hpc] at hpk HUN
      have x0 := cell_of_heap (unhide HN2) 0
      have x1 := cell_of_heap (unhide HN2) 1
      have x2 := cell_of_heap (unhide HN2) 2
      have x3 := cell_of_heap (unhide HN2) 3
      clear hps hpc
      go_wp2_with fail
      refine (unhide hpk).mono ?_
      rintro e w3 ⟨rfl, hb3⟩
      have hlt := unhide HLT
      have HN3 := hide ((hb3.block _ hlt).trans (unhide HN2))
      have HR3 := hide ((unhide HR2).keep (hb3.block _ (unhide HR2).lt))
      have HB3 := hide ((unhide HB2).trans (hb3.mono (unhide HB2).size))
      have HT3 := hide ((unhide HT2).below hb3 fun b hb => by have := hb.2; omega)
      have HS3 := hide hb3.size
      clear x0 x1 x2 x3 t2 t3 hpk hb3 hlt
      by_cases hc0 : pc = 0
      rotate_left
      · have hc1 : (pc != 0) = true := by simp; exact hc0
        have hno : unpT data = none := by rw [unhide HUN, if_neg fun h => hc0 h.1]
        have HNO := hide hno
        clear hno
        obtain ⟨y0, y1, y2, y3, f0, f1, f2, f3, g0, g1, g2, g3⟩ := (unhide HR3).cells
        have HV := hide (unhide HNO)
        go_wp2_with fail
        exact bodyPost_ret (v := .tuple #[zeroT, .int .i64 4]) (by simp [results, Tryz.results25, go_sem, zeroT, f0, f1, f2, f3]) rfl ⟨(unhide HB3).four (Nat.le_refl _) _ _ _ _, .inr ⟨unhide HV, rfl⟩⟩
      · subst hc0
        by_cases hs : ps = data
        rotate_left
        · have hs2 : (ps.toList == data.toList) = false := toList_ne hs
          have hno : unpT data = none := by rw [unhide HUN, if_neg fun h => hs h.2]
          have HNO := hide hno
          clear hno
          obtain ⟨y0, y1, y2, y3, f0, f1, f2, f3, g0, g1, g2, g3⟩ := (unhide HR3).cells
          have HV := hide (unhide HNO)
          go_wp2_with fail
          exact bodyPost_ret (v := .tuple #[zeroT, .int .i64 4]) (by simp [results, Tryz.results25, go_sem, zeroT, f0, f1, f2, f3]) rfl ⟨(unhide HB3).four (Nat.le_refl _) _ _ _ _, .inr ⟨unhide HV, rfl⟩⟩
        · subst hs
          have HOK := hide (show unpT ps = some t by rw [unhide HUN, if_pos ⟨rfl, rfl⟩])
          have x0 := cell_of_heap (unhide HN3) 0
          have x1 := cell_of_heap (unhide HN3) 1
          have x2 := cell_of_heap (unhide HN3) 2
          have x3 := cell_of_heap (unhide HN3) 3
          obtain ⟨y0, y1, y2, y3, f0, f1, f2, f3, g0, g1, g2, g3⟩ := (unhide HR3).cells
          go_wp2_with fail
          refine bodyPost_ret (v := .tuple #[.agg #[.int .i64 tk, .int .i64 tm, .string ts, .slice ta tl tc], .int .i64 0]) (by simp [results, Tryz.results25, go_sem, f0, f1, f2, f3]) rfl ⟨(unhide HB3).four (Nat.le_refl _) _ _ _ _, .inl ⟨t, _, _, _, _, unhide HOK, rfl, ?_⟩⟩
          have hk := fourIn_kept w3 w.heap.size (.int .i64 tk) (.int .i64 tm) (.string ts) (.slice ta tl tc)
          obtain ⟨q1, q2⟩ := unhide HS
          have q3 := unhide HS3
          exact ((unhide HT3).keep fun b hb => hk.block b (by have := hb.2; omega) (by have := hb.1; omega)).mono fun b hb => ⟨by have := hb.1; omega, Nat.lt_of_lt_of_le (show b < w3.heap.size by have := hb.2; omega) hk.size⟩
  · go_upto_region 5 with fail
    obtain ⟨w2, hw2⟩ : ∃ w2, w2 = w1.alloc (.cells #[.int .i64 k1, .int .i64 k2, .string s1, .slice a1 l1 e1] 26) := ⟨_, rfl⟩
    have hb2 : Below w1.heap.size w1 w2 := by rw [hw2]; exact (Below.refl _ _).alloc (Nat.le_refl _) _
    rw [← hw2]
    have tk2 := tk1.below hb2
    have HR2 := hide (((unhide HR0).keep (b1.block _ (by omega) (by omega))).keep (hb2.block _ (by have := b1.size; omega)))
    have HB2 := hide (((unhide HB0).trans (b1.toBelow (B := w.heap.size) (by omega) (by omega))).trans (hb2.mono (by have := b1.size; omega)))
    have t2 := tk2.cells.2.2.1
    have HNO := hide (show unpT data = none from unp_no (by rw [unhide HW, hno]))
    clear hw2 hb2 tk2 tk1 b1 hno hcall HW HB0 HR0
    obtain ⟨y0, y1, y2, y3, f0, f1, f2, f3, g0, g1, g2, g3⟩ := (unhide HR2).cells
    have HV := hide (unhide HNO)
    go_wp2_with fail
    exact bodyPost_ret (v := .tuple #[zeroT, .int .i64 4]) (by simp [results, Tryz.results25, go_sem, zeroT, f0, f1, f2, f3]) rfl ⟨(unhide HB2).four (Nat.le_refl _) _ _ _ _, .inr ⟨unhide HV, rfl⟩⟩

theorem sUnpack_any (hd : data.size ≤ 2 ^ 47) : Calls Tryz.prog 25 #[.string data] w fun e w' => UnpEnd data w e w' := by
  by_cases h1 : 40000 < data.size
  · exact su_early data w hd (.inl h1)
  · by_cases h2 : data.size = 0
    · exact su_early data w hd (.inr (.inl h2))
    · have h3 : 0 < data.size := by omega
      by_cases h4 : (data[0]'h3).toNat = 131
      · exact su_main data w (by omega) h3 h4
      · exact su_early data w hd (.inr (.inr ⟨h3, h4⟩))

end
end Go.Proofs.YthfjgffhncogaaaGreat
