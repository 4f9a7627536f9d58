/- laws.sameTerm: whether two trees are the same. -/
import Derived.Test.YthfjgffhncogaaaGreatQ46
import Derived.Test.YthfjgffhncogaaaGreatQ13
import Derived.Test.YthfjgffhncogaaaGreatQ41
import Derived.Deep.RegionWith
namespace Go.Proofs.YthfjgffhncogaaaGreat
open Go.RowKit

theorem sameL_all {α β : Type} (r : α → β → Bool) : ∀ (xs : List α) (ys : List β), xs.length = ys.length → (∀ i (h : i < xs.length) (h' : i < ys.length), r xs[i] ys[i] = true) → sameL r xs ys = true
  | [], [], _, _ => rfl
  | [], _ :: _, h, _ => by simp at h
  | _ :: _, [], h, _ => by simp at h
  | x :: xs, y :: ys, h, H => by
    rw [sameL, Bool.and_eq_true]
    exact ⟨H 0 (by simp) (by simp), sameL_all r xs ys (by simpa using h) fun i h1 h2 => H (i + 1) (by simpa using h1) (by simpa using h2)⟩
theorem sameL_not {α β : Type} (r : α → β → Bool) : ∀ (xs : List α) (ys : List β) (i : Nat) (h : i < xs.length) (h' : i < ys.length), r xs[i] ys[i] = false → sameL r xs ys = false
  | [], _, _, h, _, _ => by simp at h
  | _ :: _, [], _, _, h, _ => by simp at h
  | x :: xs, y :: ys, 0, _, _, e => by rw [sameL]; simp at e; rw [e]; rfl
  | x :: xs, y :: ys, i + 1, h, h', e => by rw [sameL, sameL_not r xs ys i (by simpa using h) (by simpa using h') (by simpa using e)]; simp

def SamSaid (n m : Nat) : Prop := ∀ (t : Tm n) (u : Tm m) (c0 c1 c2 c3 d0 d1 d2 d3 : Value) (w : World), TAt (Under w.heap.size) w n t c0 c1 c2 c3 → TAt (Under w.heap.size) w m u d0 d1 d2 d3 →
  Calls Tryz.prog 13 #[.agg #[c0, c1, c2, c3], .agg #[d0, d1, d2, d3]] w fun e w' => e = .returned (.bool (sameT n m t u)) ∧ Below w.heap.size w w'

set_option maxRecDepth 40000 in
set_option maxHeartbeats 2000000 in
theorem sam_of {n m : Nat} (h : SamSaid n m) : SamSaid (n + 1) (m + 1) := by
  rintro ⟨k, i, s, ks⟩ ⟨k', i', s', ls⟩ c0 c1 c2 c3 d0 d1 d2 d3 w ⟨rfl, rfl, rfl, hk, hm, hs, hks⟩ ⟨rfl, rfl, rfl, hk', hm', hs', hls⟩
  have hb2 := below_two w
  have hU := hide fun x y => hks.up (hb2 x y)
  have hV := hide fun x y => hls.up (hb2 x y)
  obtain ⟨ua, uc, rfl, -, hkl, hel⟩ := hks
  have HKL := hide hkl
  clear hkl
  obtain ⟨va, vc, rfl, -, -, hel'⟩ := hls
  have HEL := hide hel
  have HEL' := hide hel'
  clear hel hel'
  by_cases h1 : k = k'
  case neg =>
    have h1' : (k != k') = true := by simpa using h1
    have hc : sameT (n + 1) (m + 1) (k, i, s, ks) (k', i', s', ls) = false := by simp [sameT, h1]
    clear h1
    go_enter Tryz.func13, Tryz.ntmps13
    go_wp2_with fail
    go_ret
    exact ⟨ret_bool hc.symm, hb2 _ _⟩
  subst h1
  by_cases h2 : i = i'
  case neg =>
    have h2' : (i != i') = true := by simpa using h2
    have hc : sameT (n + 1) (m + 1) (k, i, s, ks) (k, i', s', ls) = false := by simp [sameT, h2]
    clear h2
    go_enter Tryz.func13, Tryz.ntmps13
    go_wp2_with fail
    go_ret
    exact ⟨ret_bool hc.symm, hb2 _ _⟩
  subst h2
  by_cases h3 : s = s'
  case neg =>
    have h3' : (s.toList == s'.toList) = false := toList_ne h3
    have hc : sameT (n + 1) (m + 1) (k, i, s, ks) (k, i, s', ls) = false := by simp [sameT, h3]
    clear h3
    go_enter Tryz.func13, Tryz.ntmps13
    go_wp2_with fail
    go_ret
    exact ⟨ret_bool hc.symm, hb2 _ _⟩
  subst h3
  by_cases hl : ks.length = ls.length
  case neg =>
    have hl' : ((ks.length : Int) != (ls.length : Int)) = true := by simpa using (by omega : ¬ (ks.length : Int) = ls.length)
    have hc : sameT (n + 1) (m + 1) (k, i, s, ks) (k, i, s, ls) = false := by
      have : sameL (sameT n m) ks ls = false := by
        cases e : sameL (sameT n m) ks ls with
        | false => rfl
        | true => exact absurd (sameL_len e) hl
      simp [sameT, this]
    clear hl
    go_enter Tryz.func13, Tryz.ntmps13
    go_wp2_with fail
    go_ret
    exact ⟨ret_bool hc.symm, hb2 _ _⟩
  have hl' : ((ks.length : Int) != (ls.length : Int)) = false := by simpa using (by omega : (ks.length : Int) = ls.length)
  have hT : sameT (n + 1) (m + 1) (k, i, s, ks) (k, i, s, ls) = sameL (sameT n m) ks ls := by simp [sameT]
  rw [hT]
  clear hT
  obtain ⟨W0, hW0⟩ : ∃ W0, W0 = (w.alloc (.cells #[.int .i64 k, .int .i64 i, .string s, .slice ua ks.length uc] 26)).alloc (.cells #[.int .i64 k, .int .i64 i, .string s, .slice va ls.length vc] 26) := ⟨_, rfl⟩
  have hs0 : W0.heap.size = w.heap.size + 2 := by rw [hW0]; simp
  have hb0 : Below w.heap.size w W0 := by rw [hW0]; exact hb2 _ _
  have hbx : ∀ wr, Below W0.heap.size W0 wr → wr.cell? ⟨w.heap.size, 3, none⟩ = some (.slice ua ks.length uc) ∧ wr.cell? ⟨w.heap.size + 1, 3, none⟩ = some (.slice va ls.length vc) := fun wr hb => by
    have g0 : W0.heap[w.heap.size]? = some (.cells #[.int .i64 k, .int .i64 i, .string s, .slice ua ks.length uc] 26 (0, 0)) := by rw [hW0, Below.heap_alloc _ _ _ (by simp)]; exact heap_new w _
    have g1 : W0.heap[w.heap.size + 1]? = some (.cells #[.int .i64 k, .int .i64 i, .string s, .slice va ls.length vc] 26 (0, 0)) := by
      rw [hW0]
      have := heap_new (w.alloc (.cells #[.int .i64 k, .int .i64 i, .string s, .slice ua ks.length uc] 26)) (.cells #[.int .i64 k, .int .i64 i, .string s, .slice va ls.length vc] 26)
      simpa using this
    exact ⟨cell_of_heap ((hb.block _ (by omega)).trans g0) 3, cell_of_heap ((hb.block _ (by omega)).trans g1) 3⟩
  have HW0 := hide hW0
  have HBX := hide hbx
  have HB0 := hide hb0
  have HS0 := hide hs0
  have HLL := hide hl
  have HH := hide h
  clear hb2 hbx hb0 hs0 hl h
  go_enter Tryz.func13, Tryz.ntmps13
  go_wp2_with fail
  rw [← unhide HW0]
  clear hW0
  go_loopw [5] (fun iv wr => ∃ j : Nat, j ≤ ks.length ∧ iv = .int .i64 j ∧ Below W0.heap.size W0 wr ∧ ∀ x (h : x < ks.length) (h' : x < ls.length), x < j → sameT n m ks[x] ls[x] = true) (fun iv _ => ks.length - (intOf iv).toNat)
  case atStart => exact ⟨0, by omega, rfl, Below.refl _ _, fun _ _ _ h => by omega⟩
  case round =>
    obtain ⟨j, hj, rfl, hb, hall⟩ := hrel
    have HALL := hide hall
    have hbw : Below w.heap.size w wr := (unhide HB0).trans (hb.mono (unhide HB0).size)
    obtain ⟨p0, r0⟩ := unhide HBX wr hb
    have HB := hide hb
    clear hall hb
    by_cases hlt : j < ks.length
    · have hlt' : j < ls.length := by have := unhide HLL; omega
      obtain ⟨b, off, d0, d1, d2, d3, rfl, hS, e0, e1, e2, e3, hr⟩ := unhide HEL j hlt
      obtain ⟨b', off', d0', d1', d2', d3', rfl, hS', e0', e1', e2', e3', hr'⟩ := unhide HEL' j hlt'
      have hwl : ∀ x : LaterW wr.heap.size wr, Below w.heap.size w x.wd := fun x => hbw.trans (x.be.mono hbw.size)
      have P0 := fun x : LaterW wr.heap.size wr => (unhide HBX x.wd ((unhide HB).trans (x.be.mono (unhide HB).size))).1
      have R0 := fun x : LaterW wr.heap.size wr => (unhide HBX x.wd ((unhide HB).trans (x.be.mono (unhide HB).size))).2
      have F0 : ∀ x : LaterW wr.heap.size wr, x.wd.cell? ⟨b, off + j * 4, none⟩ = some d0 := fun x => ((bcell (hwl x)) b _ hS).trans e0
      have F1 : ∀ x : LaterW wr.heap.size wr, x.wd.cell? ⟨b, off + j * 4 + 1, none⟩ = some d1 := fun x => ((bcell (hwl x)) b _ hS).trans e1
      have F2 : ∀ x : LaterW wr.heap.size wr, x.wd.cell? ⟨b, off + j * 4 + 2, none⟩ = some d2 := fun x => ((bcell (hwl x)) b _ hS).trans e2
      have F3 : ∀ x : LaterW wr.heap.size wr, x.wd.cell? ⟨b, off + j * 4 + 3, none⟩ = some d3 := fun x => ((bcell (hwl x)) b _ hS).trans e3
      have G0 : ∀ x : LaterW wr.heap.size wr, x.wd.cell? ⟨b', off' + j * 4, none⟩ = some d0' := fun x => ((bcell (hwl x)) b' _ hS').trans e0'
      have G1 : ∀ x : LaterW wr.heap.size wr, x.wd.cell? ⟨b', off' + j * 4 + 1, none⟩ = some d1' := fun x => ((bcell (hwl x)) b' _ hS').trans e1'
      have G2 : ∀ x : LaterW wr.heap.size wr, x.wd.cell? ⟨b', off' + j * 4 + 2, none⟩ = some d2' := fun x => ((bcell (hwl x)) b' _ hS').trans e2'
      have G3 : ∀ x : LaterW wr.heap.size wr, x.wd.cell? ⟨b', off' + j * 4 + 3, none⟩ = some d3' := fun x => ((bcell (hwl x)) b' _ hS').trans e3'
      have HWL := hide hwl
      have HR := hide hr
      have HR' := hide hr'
      have HBW := hide hbw
      have hji : ((j : Int)).toNat = j := by omega
      have hj0 : (0 : Int) ≤ (j : Int) := by omega
      have hjl : (j : Int) < (ks.length : Int) := by omega
      have hjl' : (j : Int) < (ls.length : Int) := by omega
      clear e0 e1 e2 e3 e0' e1' e2' e3' hwl hr hr' hbw
      go_wp2_with fail
      haveI hne : Nonempty (LaterW wr.heap.size wr) := ⟨⟨wr, Below.refl _ _⟩⟩
      refine wp_region_later wr.heap.size (by kernel_rfl) (by kernel_rfl) ?_
      repeat (go_big_quiet_step ((go_at_call 13; rename_i x; refine Calls.later (v := .bool (sameT n m ks[j] ls[j])) (Nat.le_refl _) (unhide HH _ _ _ _ _ _ _ _ _ _ _ (((unhide HR).below (unhide HWL x) fun b hb => hb).mono fun b hb => Nat.lt_of_lt_of_le hb (unhide HWL x).size) (((unhide HR').below (unhide HWL x) fun b hb => hb).mono fun b hb => Nat.lt_of_lt_of_le hb (unhide HWL x).size)))))
      refine wpQuiet_nil ?_
      rintro wq ⟨⟨_, hbq⟩, rfl⟩
      have hBq := (unhide HB).trans (hbq.mono (unhide HB).size)
      clear P0 R0 F0 F1 F2 F3 G0 G1 G2 G3 hne p0 r0 hbq
      cases e : sameT n m ks[j] ls[j] with
      | true =>
        have HE := hide e
        have HBQ := hide hBq
        clear e hBq
        have hcap := unhide HKL
        go_wp2_with fail
        go_roundw
        case rel => exact ⟨j + 1, hlt, by go_num, unhide HBQ, fun x h h' hx => by
          rcases Nat.lt_or_ge x j with h1 | h1
          · exact unhide HALL x h h' h1
          · obtain rfl : x = j := by omega
            exact unhide HE⟩
        case measure => simp [intOf]; omega
      | false =>
        have HE := hide e
        have HBQ := hide hBq
        clear e hBq
        go_wp2_with fail
        go_ret
        exact ⟨ret_bool (sameL_not _ _ _ j hlt hlt' (unhide HE)).symm, (unhide HB0).trans ((unhide HBQ).mono (unhide HB0).size)⟩
    · have hge : ¬ (j : Int) < (ks.length : Int) := by omega
      go_wp2_with fail
      go_ret
      exact ⟨ret_bool (sameL_all _ _ _ (unhide HLL) fun x h h' => unhide HALL x h h' (by omega)).symm, hbw⟩

theorem sam_any : ∀ n m, SamSaid n m
  | 0, _ => fun t => t.elim
  | _ + 1, 0 => fun _ u => u.elim
  | n + 1, m + 1 => sam_of (sam_any n m)

end Go.Proofs.YthfjgffhncogaaaGreat
/- The law of terms' bytes: its own walk. -/
namespace Go.Proofs.YthfjgffhncogaaaGreat
open Go.RowKit Go.Deep

section
variable {t : Tm 101} (w : World)
theorem unp_back (h : packCode 101 t = 0) : Calls Tryz.prog 19 #[.string (packStr 101 t)] w fun e w' => Below w.heap.size w w' ∧ ∃ k1 k2 s a l cap, e = .returned (.tuple #[.agg #[.int .i64 k1, .int .i64 k2, .string s, .slice a l cap], .int .i64 0]) ∧
    TAt (Fresh w w') w' 101 t (.int .i64 k1) (.int .i64 k2) (.string s) (.slice a l cap) := by
  have hu := back_same h
  refine (iUnpack_any _ w (by have := (pack_size h).2; omega)).mono ?_
  rintro e w' ⟨hb, ⟨u, d0, d1, d2, d3, h1, rfl, ht, _⟩ | ⟨h1, rfl⟩⟩
  · rw [hu] at h1
    cases h1
    obtain ⟨k1, k2, s, a, l, cap, rfl, rfl, rfl, rfl⟩ := kids_shape ht
    exact ⟨hb, k1, k2, s, a, l, cap, rfl, ht⟩
  · rw [hu] at h1; cases h1
theorem sam_self (c0 c1 c2 c3 d0 d1 d2 d3 : Value) (h1 : TAt (Under w.heap.size) w 101 t c0 c1 c2 c3) (h2 : TAt (Under w.heap.size) w 101 t d0 d1 d2 d3) :
    Calls Tryz.prog 13 #[.agg #[c0, c1, c2, c3], .agg #[d0, d1, d2, d3]] w fun e w' => e = .returned (.bool true) ∧ Below w.heap.size w w' := by
  refine (sam_any 101 101 t t _ _ _ _ _ _ _ _ w h1 h2).mono ?_
  rintro e w' ⟨rfl, hb⟩
  exact ⟨by rw [sameT_self], hb⟩
theorem unp_none {data : ByteArray} (hd : data.size ≤ 2 ^ 47) (hu : unpT data = none) : Calls Tryz.prog 19 #[.string data] w fun e w' => Below w.heap.size w w' ∧ e = .returned (.tuple #[.agg #[.int .i64 0, .int .i64 0, .string ⟨#[]⟩, .slice none 0 0], .int .i64 4]) := by
  refine (iUnpack_any _ w hd).mono ?_
  rintro e w' ⟨hb, ⟨u, d0, d1, d2, d3, h1, rfl, ht, _⟩ | ⟨h1, rfl⟩⟩
  · rw [hu] at h1; cases h1
  · exact ⟨hb, rfl⟩
end

set_option maxRecDepth 40000 in
set_option maxHeartbeats 2000000 in
theorem law10_any (L : Nat) (v : Value) (w : World) (hc : CodeIn w L v) :
    Calls Tryz.prog 4 #[v] w fun e w' => e = .returned (.bool true) ∧ Below w.heap.size w w' := by
  obtain ⟨va, vc, rfl⟩ : ∃ va vc, v = .slice va L vc := by obtain ⟨a, cap, h, _⟩ := hc; exact ⟨a, cap, h⟩
  by_cases hL : 1048576 < L
  · have hb := hide (big_any va L vc w)
    have hdec : decide (1048576 < L) = true := by simpa using hL
    rw [hdec] at hb
    clear hc hL hdec
    go_enter Tryz.func4, Tryz.ntmps4
    go_wp2_with fail
    refine (unhide hb).mono ?_
    rintro e w' ⟨rfl, rfl⟩
    go_wp2_with fail
    go_ret
    exact ⟨rfl, Below.refl _ _⟩
  have hb := hide (big_any va L vc w)
  have hdec : decide (1048576 < L) = false := by simpa using hL
  rw [hdec] at hb
  obtain ⟨cb, hcd⟩ := hc.told
  have hdr := hide (fun w' (hb : Below w.heap.size w w') => dpackD_any (L, cb) _ w' (hcd.up hb) (by show L ≤ 1048576; omega))
  have htt : tot 101 (drawnT (L, cb)) ≤ 1048576 := anyF_tot _ _
  generalize drawnT (L, cb) = t at hdr htt
  have HTT := hide htt
  clear hc hcd hL hdec htt
  go_enter Tryz.func4, Tryz.ntmps4
  go_wp2_with fail
  refine (unhide hb).mono ?_
  rintro e w' ⟨rfl, rfl⟩
  clear hb
  go_wp2_with fail
  refine ((unhide hdr) w' (Below.refl _ _)).mono ?_
  rintro e w1 ⟨⟨k1, k2, s1, a1, l1, c1, rfl, ht1⟩, hb1⟩
  have HP := hide (sPack_any t _ _ _ _ w1 (ht1.mono fun b hb => hb.2) (unhide HTT))
  have HB1 := hide hb1
  clear ht1 hb1
  go_wp2_with fail
  refine (unhide HP).mono ?_
  rintro e w2 ⟨rfl, hb2⟩
  have hw2 := (unhide HB1).trans (hb2.mono (unhide HB1).size)
  have HB2 := hide hw2
  clear hb2 hw2 HP
  go_wp2_with fail
  refine ((unhide hdr) w2 (unhide HB2)).mono ?_
  rintro e w3 ⟨⟨m1, m2, s3, a3, l3, c3, rfl, ht3⟩, hb3⟩
  have HP := hide (iPack_any t _ _ _ _ w3 (ht3.mono fun b hb => hb.2))
  have hw3 := (unhide HB2).trans (hb3.mono (unhide HB2).size)
  have HB3 := hide hw3
  clear ht3 hb3 hw3
  go_wp2_with fail
  refine (unhide HP).mono ?_
  rintro e w4 ⟨rfl, hb4⟩
  have hw4 := (unhide HB3).trans (hb4.mono (unhide HB3).size)
  have HB4 := hide hw4
  clear hb4 hw4 HP
  by_cases hpc : packCode 101 t = 0
  rotate_left
  · generalize packCode 101 t = pc at hpc ⊢
    generalize packStr 101 t = ps
    have h1 : (pc != 0) = true := by simpa using hpc
    have h2 : (pc != pc) = false := by simp
    have h3 : (ps.toList == ps.toList) = true := by simp
    clear hpc
    go_wp2_with fail
    go_ret
    exact ⟨rfl, unhide HB4⟩
  have HU0 := hide (fun w => unp_back w hpc)
  have hsz := pack_size hpc
  have hmore := hide (fun w => unp_none w (data := packStr 101 t ++ ⟨#[97]⟩) (by have h5 := congrArg List.length (txtL_append (packStr 101 t) ⟨#[97]⟩); simp only [List.length_append, txtL_length] at h5; have h6 : (⟨#[97]⟩ : ByteArray).size = 1 := rfl; omega) (back_more hpc))
  obtain ⟨x, hx⟩ := txtL_last (s := packStr 101 t) (by omega)
  have hless := hide (fun w => unp_none w (data := (packStr 101 t).extract 0 ((packStr 101 t).size - 1)) (by rw [ByteArray.size_extract]; omega) (back_less hpc hx))
  have hs1 : 1 ≤ (packStr 101 t).size := by omega
  have hs2 : (packStr 101 t).size ≤ 40000 := hsz.2
  clear hx hsz
  rw [hpc]
  generalize packStr 101 t = ps at HU0 hmore hless hs1 hs2 ⊢
  have h3 : (ps.toList == ps.toList) = true := by simp
  clear hpc
  go_wp2_with fail
  refine ((unhide HU0) w4).mono ?_
  rintro e w5 ⟨hb5, n1, n2, s5, a5, l5, c5, rfl, ht5⟩
  have hw5 := (unhide HB4).trans (hb5.mono (unhide HB4).size)
  have HB5 := hide hw5
  have HT5 := hide (ht5.mono fun b hb => hb.2 : TAt (Under w5.heap.size) w5 101 t (.int .i64 n1) (.int .i64 n2) (.string s5) (.slice a5 l5 c5))
  clear hb5 hw5 ht5
  have hA := hide ((((Below.refl w5.heap.size w5).alloc (Nat.le_refl _) (.cells #[.int .i64 n1, .int .i64 n2, .string s5, .slice a5 l5 c5] 26))).drew)
  have hwA := (unhide HB5).trans ((unhide hA).mono (unhide HB5).size)
  have HDR := hide ((unhide hdr) _ hwA)
  have HWA := hide hwA
  have hAs : w5.heap.size + 1 = (w5.alloc (.cells #[.int .i64 n1, .int .i64 n2, .string s5, .slice a5 l5 c5] 26)).drew.heap.size := (World.size_alloc _ _).symm
  have HAS := hide hAs
  clear hwA hAs
  go_wp2_with fail
  go_region_with (first
    | (go_at_call 17; refine (unhide HDR).mono ?_; rintro e w6 ⟨⟨p1, p2, s6, a6, l6, c6, rfl, ht6⟩, hb6⟩; have HT6 := hide (ht6.mono fun b hb => hb.2 : TAt (Under w6.heap.size) w6 101 t (.int .i64 p1) (.int .i64 p2) (.string s6) (.slice a6 l6 c6)); have H6 := hide hb6; obtain ⟨J0, J1, J2, J3⟩ := box4 w5 (.int .i64 n1) (.int .i64 n2) (.string s5) (.slice a5 l5 c5) 26 ((Below.refl (w5.heap.size + 1) (w5.alloc _)).drew.trans (hb6.mono (by rw [unhide HAS]; exact Nat.le_refl _))); clear ht6 hb6)
    | (go_at_call 13; refine (sam_self _ _ _ _ _ _ _ _ _ ((unhide HT5).up ((unhide hA).trans ((unhide H6).mono (unhide hA).size))) (unhide HT6)).mono ?_; rintro e w7 ⟨rfl, hb7⟩; have H7 := hide hb7; clear hb7))
  all_goals
    go_wp2_with fail
    refine ((unhide hmore) w7).mono ?_
    rintro e w8 ⟨hb8, rfl⟩
    have hw6 := (unhide HWA).trans ((unhide H6).mono (unhide HWA).size)
    have hw7 := hw6.trans ((unhide H7).mono hw6.size)
    have hw8 := hw7.trans (hb8.mono hw7.size)
    have HB8 := hide hw8
    have v1 : IntKind.i64.wrap ((ps.size : Int) - 1) = (ps.size : Int) - 1 := by rw [IntKind.wrap_i64]; omega
    have v2 : (0 : Int) ≤ (ps.size : Int) - 1 := by omega
    have v3 : (ps.size : Int) - 1 ≤ (ps.size : Int) := by omega
    have v4 : ((ps.size : Int) - 1).toNat = ps.size - 1 := by omega
    clear hb8 hw6 hw7 hw8 J0 J1 J2 J3
    go_wp2_with fail
    have hbz := (Below.refl w8.heap.size w8).alloc (Nat.le_refl _) (.cells #[.int .i64 0, .int .i64 0, .string ⟨#[]⟩, .slice none 0 0] 26)
    have HBZ := hide ((unhide HB8).trans (hbz.mono (unhide HB8).size))
    clear hbz
    refine ((unhide hless) _).mono ?_
    rintro e w9 ⟨hb9, rfl⟩
    have HB9 := hide ((unhide HBZ).trans (hb9.mono (unhide HBZ).size))
    clear hb9
    go_wp2_with fail
    go_ret
    exact ⟨rfl, (unhide HB9).alloc (unhide HB9).size _⟩

end Go.Proofs.YthfjgffhncogaaaGreat
