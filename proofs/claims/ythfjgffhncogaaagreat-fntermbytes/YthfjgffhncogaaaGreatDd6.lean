/- spec's l01DrawAny, as a function of the code: its walk. -/
import Derived.Test.YthfjgffhncogaaaGreatDd5
import Derived.Deep.RegionLaw
namespace Go.Proofs.YthfjgffhncogaaaGreat
open Go.RowKit Go.Deep

def IsNest (n : Nat) (k m : Int) (s : ByteArray) (ks : List (Tm n)) : Prop := ((k, m, s, ks) : Tm (n + 1)) = nestT n
section
variable {n r x j c : Nat} {q : Src} {k m : Int} {s s' : ByteArray} {ks : List (Tm n)} {σ σ3 σ4 σr : Sig} {y : Int} {t : Tm 2} {ls : List (Tm 1)} {X : ByteArray}
theorem nest_first : IsNest 1 8 0 ⟨#[]⟩ [(((1 : Int), (1 : Int), (⟨#[]⟩ : ByteArray), ([] : List (Tm 0))) : Tm 1)] := rfl
theorem nest_more (h : IsNest n k m s ks) : IsNest (n + 1) 8 0 ⟨#[]⟩ [((k, m, s, ks) : Tm (n + 1))] := by
  unfold IsNest at h ⊢
  rw [h]
  rfl
theorem nest_step (hj : j ≤ 101) (h : pickF q 2 σr = (x, σ4)) (hlt : (j : Int) < 100 + (x : Int)) : nestF q (102 - j) j σr = nestF q (102 - (j + 1)) (j + 1) σ4 := by
  rw [show 102 - j = (102 - (j + 1)) + 1 by omega]
  show (if (j : Int) < 100 + ((pickF q 2 σr).1 : Int) then nestF q (102 - (j + 1)) (j + 1) (pickF q 2 σr).2 else (j, (pickF q 2 σr).2)) = _
  rw [h]
  exact if_pos hlt
theorem nest_stop (hj : j ≤ 101) (h : pickF q 2 σr = (x, σ4)) (hlt : ¬ (j : Int) < 100 + (x : Int)) : nestF q (102 - j) j σr = (j, σ4) := by
  rw [show 102 - j = (101 - j) + 1 by omega]
  show (if (j : Int) < 100 + ((pickF q 2 σr).1 : Int) then nestF q (101 - j) (j + 1) (pickF q 2 σr).2 else (j, (pickF q 2 σr).2)) = _
  rw [h]
  exact if_neg hlt
theorem wide_step (hj : j ≤ 2001) (h : pickF q 2 σr = (x, σ4)) (hlt : (j : Int) < 2000 + (x : Int)) (hz : y = (j : Int) % 300) : wideF q (2002 - j) j ls σr = wideF q (2002 - (j + 1)) (j + 1) (ls ++ [(show Tm 1 from (1, y, ⟨#[]⟩, []))]) σ4 := by
  rw [show 2002 - j = (2002 - (j + 1)) + 1 by omega]
  show (if (j : Int) < 2000 + ((pickF q 2 σr).1 : Int) then wideF q (2002 - (j + 1)) (j + 1) (ls ++ [(show Tm 1 from ((1 : Int), (j : Int) % 300, (⟨#[]⟩ : ByteArray), ([] : List (Tm 0))))]) (pickF q 2 σr).2 else (ls, (pickF q 2 σr).2)) = _
  rw [h, ← hz]
  exact if_pos hlt
theorem wide_stop (hj : j ≤ 2001) (h : pickF q 2 σr = (x, σ4)) (hlt : ¬ (j : Int) < 2000 + (x : Int)) : wideF q (2002 - j) j ls σr = (ls, σ4) := by
  rw [show 2002 - j = (2001 - j) + 1 by omega]
  show (if (j : Int) < 2000 + ((pickF q 2 σr).1 : Int) then wideF q (2001 - j) (j + 1) (ls ++ [(show Tm 1 from ((1 : Int), (j : Int) % 300, (⟨#[]⟩ : ByteArray), ([] : List (Tm 0))))]) (pickF q 2 σr).2 else (ls, (pickF q 2 σr).2)) = _
  rw [h]
  exact if_neg hlt
theorem turn_kind (h : pickF q 12 σ = (x, σ4)) : turnF q 0 k m s ks σ = (cvT (n + 1) 100 ((x : Int) - 1, m, s, ks), σ4) := by
  unfold turnF
  rw [if_pos rfl, h]
theorem turn_num (h : pickF q 3 σ = (x, σ4)) (hv : intV (#[.int .i64 (-1), .int .i64 1000000000000001, .int .i64 (-1000000000000001)] : Array Value)[x]? = y) : turnF q 1 k m s ks σ = (cvT (n + 1) 100 (k, y, s, ks), σ4) := by
  have hv' : intV ints3[x]? = y := hv
  unfold turnF
  rw [if_neg (by omega), if_pos rfl, h]
  dsimp only
  rw [hv']
theorem turn_text (h : pickF q 4 σ = (x, σ4)) (hv : strV (#[.string ⟨#[65]⟩, .string ⟨#[]⟩, .string ⟨#[97, 32, 98]⟩, .string ⟨#[120]⟩] : Array Value)[x]? = s') : turnF q 2 k m s ks σ = (cvT (n + 1) 100 (k, m, s', ks), σ4) := by
  have hv' : strV strs4[x]? = s' := hv
  unfold turnF
  rw [if_neg (by omega), if_neg (by omega), if_pos rfl, h]
  dsimp only
  rw [hv']
theorem turn_more (h : drawF q 1 σ = (t, σ4)) : turnF q 3 k m s ks σ = (cvT (10 + 1) 100 (k, m, s, ks.map (cvT n 9) ++ [cvT (1 + 1) 9 t]), σ4) := by
  unfold turnF
  rw [if_neg (by omega), if_neg (by omega), if_neg (by omega), if_pos rfl, h]
theorem turn_nest {n' : Nat} {k' m' : Int} {s' : ByteArray} {ks' : List (Tm n')} (hn : n' + 1 = j) (hne : IsNest n' k' m' s' ks') (h : (j, σ4) = nestF q 101 1 σ) : turnF q 4 k m s ks σ = (cvT (n' + 1) 100 (k', m', s', ks'), σ4) := by
  subst hn
  unfold turnF
  rw [if_neg (by omega), if_neg (by omega), if_neg (by omega), if_neg (by omega), if_pos rfl, ← h]
  dsimp only
  rw [hne]
  rfl
theorem turn_wide (h : (ls, σ4) = wideF q 2001 1 [] σ) : turnF q 5 k m s ks σ = (cvT (1 + 1) 100 ((6 : Int), (0 : Int), (⟨#[]⟩ : ByteArray), ls), σ4) := by
  unfold turnF
  rw [if_neg (by omega), if_neg (by omega), if_neg (by omega), if_neg (by omega), if_neg (by omega), if_pos rfl, ← h]
theorem turn_bin (h : pickF q 2 σ = (x, σ4)) (hX : X = strOfNums (List.replicate (4000 + x) 0)) : turnF q 6 k m s ks σ = (cvT (0 + 1) 100 ((9 : Int), (0 : Int), X, ([] : List (Tm 0))), σ4) := by
  unfold turnF
  rw [if_neg (by omega), if_neg (by omega), if_neg (by omega), if_neg (by omega), if_neg (by omega), if_neg (by omega), if_pos rfl, h, hX]
theorem turn_same {z : Int} (h : 7 ≤ z) : turnF q z k m s ks σ = (cvT (n + 1) 100 (k, m, s, ks), σ) := by
  unfold turnF
  rw [if_neg (by omega), if_neg (by omega), if_neg (by omega), if_neg (by omega), if_neg (by omega), if_neg (by omega), if_neg (by omega)]
end

set_option maxRecDepth 100000 in
set_option maxHeartbeats 4000000 in
theorem anyD_any (g : Nat) (q : Src) (v : Value) (N : Nat) (σ : Sig) (w : World) (hc : CurD g q v N σ w) (hN : N ≤ 100000000) :
    Calls Tryz.prog 26 #[.pointer (some ⟨g, 0, none⟩)] w fun e w' => AnyEndD g q v N σ w e w' := by
  have hg := hc.lt
  obtain ⟨w0, hw0⟩ : ∃ w0, w0 = w.alloc (.cells #[.int .i64 0, .int .i64 0, .string ⟨#[]⟩, .slice none 0 0] 26) := ⟨_, rfl⟩
  have hs0 : StD g q v N σ w w0 := by rw [hw0]; exact ⟨hc.alloc _, (Kept.refl g w).alloc _, ⟨_, _, _, _, heap_new _ _⟩, hg⟩
  have HW0 := hide hw0
  have HS0 := hide hs0
  have hp := hide (dsizeD_any g N q v σ w0 hs0.cur (by omega))
  clear hc hs0
  go_enter Tryz.func26, Tryz.ntmps26
  go_wp2_with fail
  rw [← unhide HW0]
  clear hw0
  refine (unhide hp).mono ?_
  rintro e w1 ⟨r, σ1, hz1, rfl, hr, hc1, hk1⟩
  have HZ1 := hide hz1
  clear hz1
  have HS1 := hide ((unhide HS0).go hk1 hc1)
  have hcr := cost_five (r + 1) (by omega)
  have HCR := hide hcr
  clear hc1 hk1 hp hcr
  have hrec := hide (drawD_any (r + 1) (1 + (r : Int)) g q v (N + 2) σ1 w1 (by omega) (unhide HS1).cur (by have := unhide HCR; omega))
  go_wp2_with fail
  refine (unhide hrec).mono ?_
  rintro e w2 ⟨k, m, s, ks, c3, xs, σ2, hf2, rfl, i1, i2, i3, hX, hl, hc2, hk2⟩
  have HF2 := hide hf2
  clear hf2
  obtain ⟨ka, kc, rfl⟩ : ∃ ka kc, c3 = .slice ka ks.length kc := by
    rcases own_place hX.1 with ⟨h1, h2⟩ | ⟨G, cap, h1, _⟩
    · exact ⟨none, 0, by rw [h1, h2]⟩
    · exact ⟨_, cap, h1⟩
  have hroom := (unhide HS1).room
  have hX2 := hX.lower hroom
  have hS2 := (unhide HS1).go hk2 hc2
  have hbox : BoxD g q v (N + 2 + cost (r + 1)) σ2 w w2.heap.size (w2.alloc (.cells #[.int .i64 k, .int .i64 m, .string s, .slice ka ks.length kc] 26)) (r + 1) k m s ks (.slice ka ks.length kc) :=
    ⟨hS2.alloc _, by have := hk2.size; omega, heap_new _ _, i1, i2, i3, by
      have h1 := (hX2.up ((Below.refl w2.heap.size w2).alloc (Nat.le_refl _) (.cells #[.int .i64 k, .int .i64 m, .string s, .slice ka ks.length kc] 26)))
      have h0 := hX2.sat (by omega)
      have hS : ∀ b, (w.heap.size + 1 ≤ b ∧ b < w2.heap.size) → (w2.alloc (.cells #[.int .i64 k, .int .i64 m, .string s, .slice ka ks.length kc] 26)).heap[b]? = w2.heap[b]? := fun b hb => Below.heap_alloc _ _ _ hb.2
      have hS3 : ∀ b, (w.heap.size + 1 ≤ b ∧ b < w2.heap.size) → Sn w w2.heap.size (w2.alloc (.cells #[.int .i64 k, .int .i64 m, .string s, .slice ka ks.length kc] 26)) b := fun b hb => ⟨hb.1, by simp; omega, by omega⟩
      exact (h0.keep (R' := TAt (fun b => w.heap.size + 1 ≤ b ∧ b < w2.heap.size) _ (r + 1)) hS fun _ _ _ _ _ _ ht => ht.keep hS).mono hS3 fun _ _ _ _ _ _ ht => ht.mono hS3, by omega⟩
  have HX2 := hide hX2
  have HBX := hide hbox
  have hB2 : w.heap.size + 1 ≤ w2.heap.size := hS2.room
  have HFW := hide hl
  clear hX hX2 hS2 hbox i1 i2 i3 hc2 hk2 hrec hl
  go_wp2_with fail
  have hpk := hide (stD_pick (unhide HBX).st 24 (by have := unhide HCR; omega) (by omega) (by omega))
  refine (unhide hpk).mono ?_
  rintro e w3 ⟨z, σ3, hp3, rfl, hq, hs3, hk3⟩
  have hq : (z : Int) < 24 := by omega
  have hany := anyF_of (unhide HZ1) (unhide HF2) hp3
  have HB3 := hide ((unhide HBX).go hk3 hs3)
  have HK3 := hide hk3
  clear hs3 hk3 hpk
  obtain ⟨B, hBe⟩ : ∃ B, B = w2.heap.size := ⟨_, rfl⟩
  have HBE := hide hBe
  obtain ⟨qq, hqq⟩ : ∃ qq : Int, qq = (z : Int) := ⟨_, rfl⟩
  rw [← hqq] at hany
  have HANY := hide hany
  rw [← hBe] at HB3 ⊢
  rw [← hqq] at hq ⊢
  have hqn : 0 ≤ qq := by omega
  have hBr : w.heap.size < B := by omega
  have hBr2 : ¬ w.heap.size = B := by omega
  have hBr3 : ¬ B = w.heap.size := by omega
  clear hBe hqq hroom hany hp3
  rcases (show qq = 0 ∨ qq = 1 ∨ qq = 2 ∨ qq = 3 ∨ qq = 4 ∨ qq = 5 ∨ qq = 6 ∨ 7 ≤ qq by omega) with rfl | rfl | rfl | rfl | rfl | rfl | rfl | hq7
  · go_wp2_with fail
    refine (stD_pick (unhide HB3).st 12 (by have := unhide HCR; omega) (by omega) (by omega)).mono ?_
    rintro e w4 ⟨x, σ4, hp4, rfl, hx, hs4, hk4⟩
    have HF := hide ((unhide HANY).trans (turn_kind hp4))
    clear hp4
    have hx : (x : Int) < 12 := by omega
    have HB4 := hide ((unhide HB3).go hk4 hs4)
    obtain ⟨⟨p0, p1, p2, p3⟩, ⟨f0, f1, f2, f3⟩⟩ := (unhide HB4).cells
    obtain ⟨y0, y1, y2, y3, q0, q1, q2, q3, z0, z1, z2, z3⟩ := hs4.cells
    clear hs4 hk4
    go_wp2_with fail
    exact bodyPost_ret (v := .agg #[.int .i64 ((x : Int) - 1), .int .i64 m, .string s, .slice ka ks.length kc]) (by simp [results, Tryz.results26, go_sem, q0, q1, q2, q3]) rfl (anyD_end ((unhide HB4).put (w2 := w4.setCell ⟨B, 0, none⟩ (.int .i64 ((x : Int) - 1))) ((Kept.refl _ _).set _ _) (by simp) (Row.setHeap (unhide HB4).box 0 _) ⟨by omega, by omega⟩ (unhide HB4).m64 (unhide HB4).s47 (unhide HB4).kids (unhide HB4).few) (by have := unhide HCR; unfold anyCost; omega) (by omega) (unhide HF))
  · go_wp2_with fail
    refine (stD_pick ((unhide HB3).st.alloc _) 3 (by have := unhide HCR; omega) (by omega) (by omega)).mono ?_
    rintro e w4 ⟨x, σ4, hp4, rfl, hx, hs4, hk4⟩
    have hx : (x : Int) < 3 := by omega
    obtain ⟨n, hnv, hn1, hn2⟩ := lit_intD (r := x) (unhide HB3).st.lt hk4 rfl (by show x < 3; omega)
    have HB4 := hide ((unhide HB3).go (((Kept.refl _ _).alloc _).trans hk4) hs4)
    have HN2 := hide hn2
    have HF := hide ((unhide HANY).trans (turn_num hp4 hnv))
    clear hp4 hnv
    obtain ⟨⟨p0, p1, p2, p3⟩, ⟨f0, f1, f2, f3⟩⟩ := (unhide HB4).cells
    obtain ⟨y0, y1, y2, y3, q0, q1, q2, q3, z0, z1, z2, z3⟩ := hs4.cells
    clear hs4 hk4 hn2
    go_wp2_with fail
    exact bodyPost_ret (v := .agg #[.int .i64 k, .int .i64 n, .string s, .slice ka ks.length kc]) (by simp [results, Tryz.results26, go_sem, q0, q1, q2, q3]) rfl (anyD_end ((unhide HB4).put (w2 := w4.setCell ⟨B, 1, none⟩ (.int .i64 n)) ((Kept.refl _ _).set _ _) (by simp) (Row.setHeap (unhide HB4).box 1 _) (unhide HB4).k64 (unhide HN2) (unhide HB4).s47 (unhide HB4).kids (unhide HB4).few) (by have := unhide HCR; unfold anyCost; omega) (by omega) (unhide HF))
  · go_wp2_with fail
    refine (stD_pick ((unhide HB3).st.alloc _) 4 (by have := unhide HCR; omega) (by omega) (by omega)).mono ?_
    rintro e w4 ⟨x, σ4, hp4, rfl, hx, hs4, hk4⟩
    have hx : (x : Int) < 4 := by omega
    obtain ⟨n, hnv, hn1, hn2⟩ := lit_strD (r := x) (unhide HB3).st.lt hk4 rfl (by show x < 4; omega)
    have HB4 := hide ((unhide HB3).go (((Kept.refl _ _).alloc _).trans hk4) hs4)
    have HN2 := hide hn2
    have HF := hide ((unhide HANY).trans (turn_text hp4 hnv))
    clear hp4 hnv
    obtain ⟨⟨p0, p1, p2, p3⟩, ⟨f0, f1, f2, f3⟩⟩ := (unhide HB4).cells
    obtain ⟨y0, y1, y2, y3, q0, q1, q2, q3, z0, z1, z2, z3⟩ := hs4.cells
    clear hs4 hk4 hn2
    go_wp2_with fail
    exact bodyPost_ret (v := .agg #[.int .i64 k, .int .i64 m, .string n, .slice ka ks.length kc]) (by simp [results, Tryz.results26, go_sem, q0, q1, q2, q3]) rfl (anyD_end ((unhide HB4).put (w2 := w4.setCell ⟨B, 2, none⟩ (.string n)) ((Kept.refl _ _).set _ _) (by simp) (Row.setHeap (unhide HB4).box 2 _) (unhide HB4).k64 (unhide HB4).m64 (by have := unhide HN2; omega) (unhide HB4).kids (unhide HB4).few) (by have := unhide HCR; unfold anyCost; omega) (by omega) (unhide HF))
  · go_wp2_with fail
    have hst3 := (unhide HB3).st.drew
    have hca := drawD_any 1 1 g q v _ σ3 w3.drew (by rfl) hst3.cur (by have := unhide HCR; have e : cost 1 = 140 := rfl; omega)
    have HST3 := hide hst3
    have HCA := hide hca
    have hkw : Kept g w2 w3.drew := (((Kept.refl g w2).alloc _).trans (unhide HK3)).drew
    have HKW := hide hkw
    have hB3s : w2.heap.size < w3.drew.heap.size := by have := (unhide HB3).lt; have := unhide HBE; show w2.heap.size < w3.heap.size; omega
    have HB3S := hide hB3s
    obtain ⟨⟨p0, p1, p2, p3⟩, ⟨f0, f1, f2, f3⟩⟩ := (unhide HB3).cells
    clear hst3 hca hkw hB3s
    go_region_law (first
      | (refine step_append_ran rfl (.tmp 39) (.tmp 42) 24 24 rfl _ _ rfl rfl _ _ (unhide HR) ?_)
      | (go_simp; go_wp2_with (go_at_call 52; refine (unhide HCA).mono ?_; rintro e w5 hde; obtain ⟨t, tk, tm, ts, ta, tl, tc, σ5, hfa, rfl, ht, hc5, hk5⟩ := hde.opened; have HF := hide ((unhide HANY).trans (turn_more (n := r + 1) hfa)); clear hfa; have HS5 := hide ((unhide HST3).go hk5 hc5); have HB5 := hide ((unhide HB3).go (((Kept.refl g w3).drew).trans hk5) (unhide HS5)); obtain ⟨R, cp, w6, hr6, hs6, hb6, hx6⟩ := row_boxD (unhide HX2) (by have := unhide HFW; omega) ((unhide HKW).trans hk5) hg (unhide HB3S) hB2 ht (Nat.lt_of_lt_of_le (unhide HB3S) hk5.size) 9 (by omega) (by omega) (wz := w5.alloc _) ⟨rfl, rfl, rfl, rfl⟩ 24; rw [← unhide HBE] at hs6 hx6; have HR := hide hr6; have HS6 := hide hs6; have HB6 := hide hb6; have HX6 := hide (hx6.trans (unhide HB5).box); obtain ⟨⟨g0, g1, g2, g3⟩, _⟩ := (unhide HB5).cells; have g4 := (bcell ((Below.refl w5.heap.size w5).alloc (Nat.le_refl _) (.cells #[.int .i64 tk, .int .i64 tm, .string ts, .slice ta tl tc] 26)) B 3 (unhide HB5).lt).trans g3; have k0 := cell_of_heap (unhide HX6) 0; have k1 := cell_of_heap (unhide HX6) 1; have k2 := cell_of_heap (unhide HX6) 2; have k3 := cell_of_heap (unhide HX6) 3; have kf := frozen_of_heap (unhide HX6) 3; clear hde ht hc5 hk5 hr6 hs6 hb6 hx6)))
    all_goals
      obtain ⟨y0, y1, y2, y3, q0, q1, q2, q3, z0, z1, z2, z3⟩ := ((unhide HS5).low (unhide HB6)).cells
      clear HR
      go_wp2_with fail
      exact bodyPost_ret (v := .agg #[.int .i64 k, .int .i64 m, .string s, .slice (some ⟨R, 0, none⟩) (ks.length + 1) cp]) (by simp [results, Tryz.results26, go_sem, q0, q1, q2, q3]) rfl (anyD_end (boxD_kids ((unhide HS5).low (unhide HB6)) (unhide HB3).hB (unhide HX6) (unhide HB3).k64 (unhide HB3).m64 (unhide HB3).s47 (unhide HS6) (by rw [List.length_append, List.length_map]; have := unhide HFW; simp; omega)) (by have := unhide HCR; have e : cost 1 = 140 := rfl; unfold anyCost; omega) (by omega) (unhide HF))
  · go_wp2_with fail
    go_loopw [4] (fun iv wr => ∃ (j n : Nat) (k m : Int) (s : ByteArray) (ks : List (Tm n)) (a : Option Addr) (l c M : Nat) (σr : Sig), 1 ≤ j ∧ j ≤ 101 ∧ iv = .int .i64 j ∧ M ≤ N + 2 + cost (r + 1) + 2 + 2 * j ∧ BoxD g q v M σr w B wr n k m s ks (.slice a l c) ∧ (j = 1 ∨ (n + 1 = j ∧ IsNest n k m s ks)) ∧ nestF q (102 - j) j σr = nestF q 101 1 σ3) (fun iv _ => 102 - (intOf iv).toNat)
    case atStart => exact ⟨1, r + 1, k, m, s, ks, ka, ks.length, kc, _, σ3, by omega, by omega, rfl, by omega, unhide HB3, .inl rfl, rfl⟩
    case round =>
      obtain ⟨j, n, k', m', s', ks', a, l, c, M, σr, hj1, hj2, rfl, hM, hbx, hne, hnf⟩ := hrel
      have HNE := hide hne
      have HNF := hide hnf
      clear hne hnf
      have HM := hide hM
      have HBr := hide hbx
      clear hM hbx
      go_wp2_with fail
      refine (stD_pick (unhide HBr).st 2 (by have := unhide HCR; have := unhide HM; omega) (by omega) (by omega)).mono ?_
      rintro e w4 ⟨x, σ4, hp4, rfl, hx, hs4, hk4⟩
      have HP4 := hide hp4
      clear hp4
      have hx : (x : Int) < 2 := by omega
      have HB4 := hide ((unhide HBr).go hk4 hs4)
      clear hs4 hk4
      by_cases hlt : (j : Int) < 100 + (x : Int)
      · by_cases h1 : j = 1
        · have h1' : ((j : Int) == 1) = true := by simp [h1]
          have H1 := hide h1
          clear h1
          go_wp2_with fail
          refine (mk_int 1 w4).mono ?_
          rintro e w5 ⟨rfl, hb5⟩
          have hB5 := (unhide HB4).below hb5
          obtain ⟨⟨p0, p1, p2, p3⟩, ⟨f0, f1, f2, f3⟩⟩ := hB5.cells
          have HB6 := hide (hB5.whole (n' := 0) (k' := 1) (m' := 1) (s' := ⟨#[]⟩) (ls := []) ⟨by omega, by omega⟩ ⟨by omega, by omega⟩ (by decide) sat_nil (by simp))
          clear hb5 hB5
          go_wp2_with fail
          refine (mk_list _ 1 1 _).mono ?_
          rintro e w6 ⟨rfl, hb6⟩
          have hb7 := hb6.mono (show (put4 w5 B (.int .i64 1) (.int .i64 1) (.string ⟨#[]⟩) (.slice none 0 0)).heap.size + 1 ≤ _ by simp [put4])
          have hu := (unhide HB6).wrap hb7
          rw [put4_size] at hu
          obtain ⟨⟨p0, p1, p2, p3⟩, ⟨f0, f1, f2, f3⟩⟩ := ((unhide HB6).below (((Below.refl _ _).alloc (Nat.le_refl _) _).trans (hb7.mono (Nat.le_succ _)))).cells
          have HU := hide hu
          clear hb6 hb7 hu
          go_wp2_with fail
          go_roundw
          case rel => exact ⟨j + 1, _, 8, 0, ⟨#[]⟩, _, _, 1, 1, M + 2, σ4, by omega, by omega, by go_num, by have := unhide HM; omega, unhide HU, .inr ⟨by have := unhide H1; omega, nest_first⟩, (nest_step (by omega) (unhide HP4) hlt).symm.trans (unhide HNF)⟩
          case measure => simp [intOf]; omega
        · have h1' : ((j : Int) == 1) = false := by simp; omega
          have H1 := hide h1
          obtain ⟨⟨p0, p1, p2, p3⟩, ⟨f0, f1, f2, f3⟩⟩ := (unhide HB4).cells
          clear h1
          go_wp2_with fail
          refine (mk_list _ 1 1 _).mono ?_
          rintro e w6 ⟨rfl, hb6⟩
          have hb7 := hb6.mono (show w4.heap.size + 1 ≤ _ by simp)
          have hu := (unhide HB4).wrap hb7
          clear p0 p1 p2 p3 f0 f1 f2 f3
          obtain ⟨⟨p0, p1, p2, p3⟩, ⟨f0, f1, f2, f3⟩⟩ := ((unhide HB4).below (((Below.refl _ _).alloc (Nat.le_refl _) _).trans (hb7.mono (Nat.le_succ _)))).cells
          have HU := hide hu
          clear hb6 hb7 hu
          go_wp2_with fail
          go_roundw
          case rel => exact ⟨j + 1, _, 8, 0, ⟨#[]⟩, _, _, 1, 1, M + 2, σ4, by omega, by omega, by go_num, by have := unhide HM; omega, unhide HU, .inr (by rcases unhide HNE with h | ⟨h, hn⟩; exact absurd h (unhide H1); exact ⟨by omega, nest_more hn⟩), (nest_step (by omega) (unhide HP4) hlt).symm.trans (unhide HNF)⟩
          case measure => simp [intOf]; omega
      · obtain ⟨⟨p0, p1, p2, p3⟩, ⟨f0, f1, f2, f3⟩⟩ := (unhide HB4).cells
        obtain ⟨y0, y1, y2, y3, q0, q1, q2, q3, z0, z1, z2, z3⟩ := (unhide HB4).st.cells
        go_wp2_with fail
        exact bodyPost_ret (v := .agg #[.int .i64 k', .int .i64 m', .string s', .slice a l c]) (by simp [results, Tryz.results26, go_sem, q0, q1, q2, q3]) rfl (anyD_end (unhide HB4) (by have := unhide HCR; have := unhide HM; unfold anyCost; omega) (by rcases unhide HNE with h | ⟨h, hn⟩ <;> omega) ((unhide HANY).trans (turn_nest (by rcases unhide HNE with h | ⟨h, hn⟩; omega; exact h) (by rcases unhide HNE with h | ⟨h, hn⟩; omega; exact hn) ((nest_stop (by omega) (unhide HP4) (by omega)).symm.trans (unhide HNF)))))
  · go_wp2_with fail
    go_loopw [5, 6] (fun kv iv wr => ∃ (j M : Nat) (ls : List (Tm 1)) (xs : List Value) (σr : Sig), 1 ≤ j ∧ j ≤ 2001 ∧ iv = .int .i64 j ∧ M ≤ N + 2 + cost (r + 1) + 2 + 2 * j ∧ ls.length + 1 = j ∧ RowsX (B + 1) wr ls kv xs ∧ StD g q v M σr w wr ∧ wr.heap[B]? = some (.cells #[.int .i64 k, .int .i64 m, .string s, .slice ka ks.length kc] 26 (0, 0)) ∧ wideF q (2002 - j) j ls σr = wideF q 2001 1 [] σ3) (fun _ iv _ => 2002 - (intOf iv).toNat)
    case atStart =>
      have hlt := (unhide HB3).lt
      exact ⟨1, _, [], [], σ3, by omega, by omega, rfl, Nat.le_add_right _ _, rfl, ⟨World.ownsRow_lit (base := B + 1) w3 #[] 0 (by omega) (by unfold maxLen; omega) (by simp), CellsAt.nil⟩, (unhide HB3).st.alloc _, (Below.heap_alloc _ _ _ hlt).trans (unhide HB3).box, rfl⟩
    case round =>
      obtain ⟨j, M, ls, xs, σr, hj1, hj2, rfl, hM, hlen, hX, hS, hbx, hwf⟩ := hrel
      have HWF := hide hwf
      clear hwf
      have HM := hide hM
      have HL := hide hlen
      have HX := hide hX
      have HS := hide hS
      have HBx := hide hbx
      clear hM hlen hX hS hbx
      go_wp2_with fail
      refine (stD_pick (unhide HS) 2 (by have := unhide HCR; have := unhide HM; omega) (by omega) (by omega)).mono ?_
      rintro e w4 ⟨x, σ4, hp4, rfl, hx, hs4, hk4⟩
      have HP4 := hide hp4
      clear hp4
      have hx : (x : Int) < 2 := by omega
      have hltB : B < wr.heap.size := by
        have hb := unhide HBx
        rcases Nat.lt_or_ge B wr.heap.size with h1 | h1
        · exact h1
        · rw [Array.getElem?_eq_none h1] at hb; cases hb
      have HX4 := hide ((unhide HX).kept hk4 (by omega))
      have HS4 := hide hs4
      have HB4 := hide ((hk4.block B hltB (by omega)).trans (unhide HBx))
      have HLT4 := hide (Nat.lt_of_lt_of_le hltB hk4.size)
      clear hs4 hk4 hltB
      by_cases hlt : (j : Int) < 2000 + (x : Int)
      · go_wp2_with fail
        refine (mk_int _ w4).mono ?_
        rintro e w5 ⟨rfl, hb5⟩
        obtain ⟨z, hz⟩ : ∃ z : Int, z = (j : Int) % 300 := ⟨_, rfl⟩
        have hz2 : In64 z := ⟨by omega, by omega⟩
        rw [← hz]
        have HWN := hide ((wide_step (by omega) (unhide HP4) hlt (ls := ls) hz).symm.trans (unhide HWF))
        clear hz
        have hS5 := (unhide HS4).below hb5
        have hX5 := (unhide HX4).up hb5
        have ht : TAt (fun _ => False) w5 1 (1, z, ⟨#[]⟩, []) (.int .i64 1) (.int .i64 z) (.string ⟨#[]⟩) (.slice none 0 0) := ⟨rfl, rfl, rfl, ⟨by omega, by omega⟩, hz2, by decide, sat_nil⟩
        have hlt5 := Nat.lt_of_lt_of_le (unhide HLT4) hb5.size
        obtain ⟨R, cp, w6, hr6, hX6, hB6⟩ := row_push hX5 (by have := unhide HL; omega) ht (fun b hb => hb.elim) (wz := w5.alloc _) ⟨rfl, rfl, rfl, rfl⟩ (by omega) 24
        have hbx6 := (hB6.block B (by omega)).trans ((hb5.block B (unhide HLT4)).trans (unhide HB4))
        have hBB := (unhide HB3).hB
        have hS6 := hS5.low (hB6.mono (by omega))
        have HR6 := hide hr6
        have HX6 := hide hX6
        have HS6 := hide hS6
        have HBX6 := hide hbx6
        clear hb5 hS5 hX5 ht hlt5 hr6 hX6 hB6 hbx6 hBB hS6
        go_wp2_with (at_builtin; refine Go.Lib.wpList_append_run _ rfl (.tmp 70) (.tmp 74) 24 24 rfl _ _ rfl rfl _ _ (unhide HR6) ?_)
        go_roundw
        case rel => exact ⟨j + 1, M + 2, ls ++ [(show Tm 1 from (1, z, ⟨#[]⟩, []))], _, σ4, by omega, by omega, by go_num, by have := unhide HM; omega, by have := unhide HL; simp; omega, unhide HX6, unhide HS6, unhide HBX6, unhide HWN⟩
        case measure => simp [intOf]; omega
      · obtain ⟨ka', kc', rfl⟩ : ∃ ka' kc', u5 = .slice ka' ls.length kc' := by
          rcases own_place (unhide HX4).1 with ⟨h1, h2⟩ | ⟨G, cap, h1, _⟩
          · exact ⟨none, 0, by rw [h1, h2]⟩
          · exact ⟨_, cap, h1⟩
        go_wp2_with fail
        refine (mk_tuple ka' ls.length kc' w4).mono ?_
        rintro e w5 ⟨rfl, hb5⟩
        have hb5' := (hb5.block B (unhide HLT4)).trans (unhide HB4)
        have hS5 := (unhide HS4).below hb5
        have hX5 := ((unhide HX4).up hb5).sat (by have := unhide HL; omega)
        have hBB := (unhide HB3).hB
        have hsat : SAt (Sn w B w5) w5 (TAt (Sn w B w5) w5 1) ls (.slice ka' ls.length kc') := hX5.mono (fun b hb => ⟨by omega, hb.2, by omega⟩) fun _ _ _ _ _ _ ht => ht.mono fun b hb => ⟨by omega, hb.2, by omega⟩
        have HMADE := hide (boxD_made hS5 hBB hb5' (k := 6) (m := 0) (s := ⟨#[]⟩) ⟨by omega, by omega⟩ ⟨by omega, by omega⟩ (by decide) hsat (by have := unhide HL; omega))
        have p0 := cell_of_heap hb5' 0
        have p1 := cell_of_heap hb5' 1
        have p2 := cell_of_heap hb5' 2
        have p3 := cell_of_heap hb5' 3
        have f0 := frozen_of_heap hb5' 0
        have f1 := frozen_of_heap hb5' 1
        have f2 := frozen_of_heap hb5' 2
        have f3 := frozen_of_heap hb5' 3
        obtain ⟨y0, y1, y2, y3, q0, q1, q2, q3, z0, z1, z2, z3⟩ := hS5.cells
        clear hb5 hb5' hS5 hX5 hsat
        go_wp2_with fail
        exact bodyPost_ret (v := .agg #[.int .i64 6, .int .i64 0, .string ⟨#[]⟩, .slice ka' ls.length kc']) (by simp [results, Tryz.results26, go_sem, q0, q1, q2, q3]) rfl (anyD_end (unhide HMADE) (by have := unhide HCR; have := unhide HM; unfold anyCost; omega) (by omega) ((unhide HANY).trans (turn_wide ((wide_stop (by omega) (unhide HP4) (by omega)).symm.trans (unhide HWF)))))
  · go_wp2_with fail
    refine (stD_pick (unhide HB3).st 2 (by have := unhide HCR; omega) (by omega) (by omega)).mono ?_
    rintro e w4 ⟨x, σ4, hp4, rfl, hx, hs4, hk4⟩
    have HP4 := hide hp4
    clear hp4
    have hx : (x : Int) < 2 := by omega
    have HB4 := hide ((unhide HB3).go hk4 hs4)
    clear hs4 hk4
    have hmk := fun w : World => run_make_row' (P := Tryz.prog) 22 5 (.int .u8 0) 1 Tryz.underlying22 info_b rfl .i64 .i64 (4000 + x) (by omega) (by omega) w
    have hcast : ((4000 + x : Nat) : Int) = 4000 + (x : Int) := by omega
    rw [hcast] at hmk
    have hcv := zeros_text (4000 + x) w4
    obtain ⟨X, hX⟩ : ∃ X, X = strOfNums (List.replicate (4000 + x) 0) := ⟨_, rfl⟩
    rw [← hX] at hcv
    have HXX := hide hX
    clear hX hcast
    go_wp2_with fail
    refine (mk_bin X _).mono ?_
    rintro e w5 ⟨rfl, hb5⟩
    have HB5 := hide (((unhide HB4).below ((Below.refl _ _).alloc (Nat.le_refl _) _)).below hb5)
    obtain ⟨⟨p0, p1, p2, p3⟩, ⟨f0, f1, f2, f3⟩⟩ := (unhide HB5).cells
    obtain ⟨y0, y1, y2, y3, q0, q1, q2, q3, z0, z1, z2, z3⟩ := (unhide HB5).st.cells
    clear hb5 hmk hcv
    go_wp2_with fail
    exact bodyPost_ret (v := .agg #[.int .i64 9, .int .i64 0, .string X, .slice none 0 0]) (by simp [results, Tryz.results26, go_sem, q0, q1, q2, q3]) rfl (anyD_end ((unhide HB5).whole (n' := 0) (ls := []) ⟨by omega, by omega⟩ ⟨by omega, by omega⟩ (by rw [unhide HXX, strOfNums_size]; simp; omega) sat_nil (by simp)) (by have := unhide HCR; unfold anyCost; omega) (by omega) ((unhide HANY).trans (turn_bin (unhide HP4) (unhide HXX))))
  · have b0 : (qq == 0) = false := by simp; omega
    have b1 : (qq == 1) = false := by simp; omega
    have b2 : (qq == 2) = false := by simp; omega
    have b3 : (qq == 3) = false := by simp; omega
    have b4 : (qq == 4) = false := by simp; omega
    have b5 : (qq == 5) = false := by simp; omega
    have b6 : (qq == 6) = false := by simp; omega
    obtain ⟨⟨p0, p1, p2, p3⟩, ⟨f0, f1, f2, f3⟩⟩ := (unhide HB3).cells
    obtain ⟨y0, y1, y2, y3, q0, q1, q2, q3, z0, z1, z2, z3⟩ := (unhide HB3).st.cells
    go_wp2_with fail
    exact bodyPost_ret (v := .agg #[.int .i64 k, .int .i64 m, .string s, .slice ka ks.length kc]) (by simp [results, Tryz.results26, go_sem, q0, q1, q2, q3]) rfl (anyD_end (unhide HB3) (by have := unhide HCR; unfold anyCost; omega) (by omega) ((unhide HANY).trans (turn_same (by omega))))

end Go.Proofs.YthfjgffhncogaaaGreat
