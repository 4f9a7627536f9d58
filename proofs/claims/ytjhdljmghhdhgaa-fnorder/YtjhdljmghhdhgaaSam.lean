/- laws.sameTerm: whether two trees are the same. -/
import Derived.Test.YtjhdljmghhdhgaaTot
namespace Go.Proofs.Ytjhdljmghhdhgaa
open Go.RowKit

theorem sameL_all {α β : Type} (r : α → β → Bool) : ∀ (xs : List α) (ys : List β), xs.length = ys.length → (∀ i (h : i < xs.length) (h' : i < ys.length), r xs[i] ys[i] = true) → sameL r xs ys = true
  | [], [], _, _ => rfl
  | [], _ :: _, h, _ => by simp at h
  | _ :: _, [], h, _ => by simp at h
  | x :: xs, y :: ys, h, H => by
    rw [sameL, Bool.and_eq_true]
    exact ⟨H 0 (by simp) (by simp), sameL_all r xs ys (by simpa using h) fun i h1 h2 => H (i + 1) (by simpa using h1) (by simpa using h2)⟩
theorem sameL_not {α β : Type} (r : α → β → Bool) : ∀ (xs : List α) (ys : List β) (i : Nat) (h : i < xs.length) (h' : i < ys.length), r xs[i] ys[i] = false → sameL r xs ys = false
  | [], _, _, h, _, _ => by simp at h
  | _ :: _, [], _, _, h, _ => by simp at h
  | x :: xs, y :: ys, 0, _, _, e => by rw [sameL]; simp at e; rw [e]; rfl
  | x :: xs, y :: ys, i + 1, h, h', e => by rw [sameL, sameL_not r xs ys i (by simpa using h) (by simpa using h') (by simpa using e)]; simp

def SamSaid (n m : Nat) : Prop := ∀ (t : Tm n) (u : Tm m) (c0 c1 c2 c3 d0 d1 d2 d3 : Value) (w : World), TAt (Under w.heap.size) w n t c0 c1 c2 c3 → TAt (Under w.heap.size) w m u d0 d1 d2 d3 →
  Calls Try.prog 13 #[.agg #[c0, c1, c2, c3], .agg #[d0, d1, d2, d3]] w fun e w' => e = .returned (.bool (sameT n m t u)) ∧ Below w.heap.size w w'

set_option maxRecDepth 40000 in
set_option maxHeartbeats 2000000 in
theorem sam_of {n m : Nat} (h : SamSaid n m) : SamSaid (n + 1) (m + 1) := by
  rintro ⟨k, i, s, ks⟩ ⟨k', i', s', ls⟩ c0 c1 c2 c3 d0 d1 d2 d3 w ⟨rfl, rfl, rfl, hk, hm, hs, hks⟩ ⟨rfl, rfl, rfl, hk', hm', hs', hls⟩
  have hb2 := below_two w
  have hU := hide fun x y => hks.up (hb2 x y)
  have hV := hide fun x y => hls.up (hb2 x y)
  obtain ⟨ua, uc, rfl, -, hkl, hel⟩ := hks
  have HKL := hide hkl
  clear hkl
  obtain ⟨va, vc, rfl, -, -, hel'⟩ := hls
  have HEL := hide hel
  have HEL' := hide hel'
  clear hel hel'
  by_cases h1 : k = k'
  case neg =>
    have h1' : (k != k') = true := by simpa using h1
    have hc : sameT (n + 1) (m + 1) (k, i, s, ks) (k', i', s', ls) = false := by simp [sameT, h1]
    clear h1
    go_enter Try.func13, Try.ntmps13
    go_wp2_with fail
    go_ret
    exact ⟨ret_bool hc.symm, hb2 _ _⟩
  subst h1
  by_cases h2 : i = i'
  case neg =>
    have h2' : (i != i') = true := by simpa using h2
    have hc : sameT (n + 1) (m + 1) (k, i, s, ks) (k, i', s', ls) = false := by simp [sameT, h2]
    clear h2
    go_enter Try.func13, Try.ntmps13
    go_wp2_with fail
    go_ret
    exact ⟨ret_bool hc.symm, hb2 _ _⟩
  subst h2
  by_cases h3 : s = s'
  case neg =>
    have h3' : (s.toList == s'.toList) = false := toList_ne h3
    have hc : sameT (n + 1) (m + 1) (k, i, s, ks) (k, i, s', ls) = false := by simp [sameT, h3]
    clear h3
    go_enter Try.func13, Try.ntmps13
    go_wp2_with fail
    go_ret
    exact ⟨ret_bool hc.symm, hb2 _ _⟩
  subst h3
  by_cases hl : ks.length = ls.length
  case neg =>
    have hl' : ((ks.length : Int) != (ls.length : Int)) = true := by simpa using (by omega : ¬ (ks.length : Int) = ls.length)
    have hc : sameT (n + 1) (m + 1) (k, i, s, ks) (k, i, s, ls) = false := by
      have : sameL (sameT n m) ks ls = false := by
        cases e : sameL (sameT n m) ks ls with
        | false => rfl
        | true => exact absurd (sameL_len e) hl
      simp [sameT, this]
    clear hl
    go_enter Try.func13, Try.ntmps13
    go_wp2_with fail
    go_ret
    exact ⟨ret_bool hc.symm, hb2 _ _⟩
  have hl' : ((ks.length : Int) != (ls.length : Int)) = false := by simpa using (by omega : (ks.length : Int) = ls.length)
  have hT : sameT (n + 1) (m + 1) (k, i, s, ks) (k, i, s, ls) = sameL (sameT n m) ks ls := by simp [sameT]
  rw [hT]
  clear hT
  obtain ⟨W0, hW0⟩ : ∃ W0, W0 = (w.alloc (.cells #[.int .i64 k, .int .i64 i, .string s, .slice ua ks.length uc] 26)).alloc (.cells #[.int .i64 k, .int .i64 i, .string s, .slice va ls.length vc] 26) := ⟨_, rfl⟩
  have hs0 : W0.heap.size = w.heap.size + 2 := by rw [hW0]; simp
  have hb0 : Below w.heap.size w W0 := by rw [hW0]; exact hb2 _ _
  have hbx : ∀ wr, Below W0.heap.size W0 wr → wr.cell? ⟨w.heap.size, 3, none⟩ = some (.slice ua ks.length uc) ∧ wr.cell? ⟨w.heap.size + 1, 3, none⟩ = some (.slice va ls.length vc) := fun wr hb => by
    have g0 : W0.heap[w.heap.size]? = some (.cells #[.int .i64 k, .int .i64 i, .string s, .slice ua ks.length uc] 26 (0, 0)) := by rw [hW0, Below.heap_alloc _ _ _ (by simp)]; exact heap_new w _
    have g1 : W0.heap[w.heap.size + 1]? = some (.cells #[.int .i64 k, .int .i64 i, .string s, .slice va ls.length vc] 26 (0, 0)) := by
      rw [hW0]
      have := heap_new (w.alloc (.cells #[.int .i64 k, .int .i64 i, .string s, .slice ua ks.length uc] 26)) (.cells #[.int .i64 k, .int .i64 i, .string s, .slice va ls.length vc] 26)
      simpa using this
    exact ⟨cell_of_heap ((hb.block _ (by omega)).trans g0) 3, cell_of_heap ((hb.block _ (by omega)).trans g1) 3⟩
  have HW0 := hide hW0
  have HBX := hide hbx
  have HB0 := hide hb0
  have HS0 := hide hs0
  have HLL := hide hl
  have HH := hide h
  clear hb2 hbx hb0 hs0 hl h
  go_enter Try.func13, Try.ntmps13
  go_wp2_with fail
  rw [← unhide HW0]
  clear hW0
  go_loopw [5] (fun iv wr => ∃ j : Nat, j ≤ ks.length ∧ iv = .int .i64 j ∧ Below W0.heap.size W0 wr ∧ ∀ x (h : x < ks.length) (h' : x < ls.length), x < j → sameT n m ks[x] ls[x] = true) (fun iv _ => ks.length - (intOf iv).toNat)
  case atStart => exact ⟨0, by omega, rfl, Below.refl _ _, fun _ _ _ h => by omega⟩
  case round =>
    obtain ⟨j, hj, rfl, hb, hall⟩ := hrel
    have HALL := hide hall
    have hbw : Below w.heap.size w wr := (unhide HB0).trans (hb.mono (unhide HB0).size)
    obtain ⟨p0, r0⟩ := unhide HBX wr hb
    have HB := hide hb
    clear hall hb
    by_cases hlt : j < ks.length
    · have hlt' : j < ls.length := by have := unhide HLL; omega
      obtain ⟨b, off, d0, d1, d2, d3, rfl, hS, e0, e1, e2, e3, hr⟩ := unhide HEL j hlt
      obtain ⟨b', off', d0', d1', d2', d3', rfl, hS', e0', e1', e2', e3', hr'⟩ := unhide HEL' j hlt'
      have hwl : ∀ x : LaterW wr.heap.size wr, Below w.heap.size w x.wd := fun x => hbw.trans (x.be.mono hbw.size)
      have P0 := fun x : LaterW wr.heap.size wr => (unhide HBX x.wd ((unhide HB).trans (x.be.mono (unhide HB).size))).1
      have R0 := fun x : LaterW wr.heap.size wr => (unhide HBX x.wd ((unhide HB).trans (x.be.mono (unhide HB).size))).2
      have F0 : ∀ x : LaterW wr.heap.size wr, x.wd.cell? ⟨b, off + j * 4, none⟩ = some d0 := fun x => ((bcell (hwl x)) b _ hS).trans e0
      have F1 : ∀ x : LaterW wr.heap.size wr, x.wd.cell? ⟨b, off + j * 4 + 1, none⟩ = some d1 := fun x => ((bcell (hwl x)) b _ hS).trans e1
      have F2 : ∀ x : LaterW wr.heap.size wr, x.wd.cell? ⟨b, off + j * 4 + 2, none⟩ = some d2 := fun x => ((bcell (hwl x)) b _ hS).trans e2
      have F3 : ∀ x : LaterW wr.heap.size wr, x.wd.cell? ⟨b, off + j * 4 + 3, none⟩ = some d3 := fun x => ((bcell (hwl x)) b _ hS).trans e3
      have G0 : ∀ x : LaterW wr.heap.size wr, x.wd.cell? ⟨b', off' + j * 4, none⟩ = some d0' := fun x => ((bcell (hwl x)) b' _ hS').trans e0'
      have G1 : ∀ x : LaterW wr.heap.size wr, x.wd.cell? ⟨b', off' + j * 4 + 1, none⟩ = some d1' := fun x => ((bcell (hwl x)) b' _ hS').trans e1'
      have G2 : ∀ x : LaterW wr.heap.size wr, x.wd.cell? ⟨b', off' + j * 4 + 2, none⟩ = some d2' := fun x => ((bcell (hwl x)) b' _ hS').trans e2'
      have G3 : ∀ x : LaterW wr.heap.size wr, x.wd.cell? ⟨b', off' + j * 4 + 3, none⟩ = some d3' := fun x => ((bcell (hwl x)) b' _ hS').trans e3'
      have HWL := hide hwl
      have HR := hide hr
      have HR' := hide hr'
      have HBW := hide hbw
      have hji : ((j : Int)).toNat = j := by omega
      have hj0 : (0 : Int) ≤ (j : Int) := by omega
      have hjl : (j : Int) < (ks.length : Int) := by omega
      have hjl' : (j : Int) < (ls.length : Int) := by omega
      clear e0 e1 e2 e3 e0' e1' e2' e3' hwl hr hr' hbw
      go_wp2_with fail
      haveI hne : Nonempty (LaterW wr.heap.size wr) := ⟨⟨wr, Below.refl _ _⟩⟩
      refine wp_region_later wr.heap.size (by kernel_rfl) (by kernel_rfl) ?_
      repeat (go_big_quiet_step ((go_at_call 13; rename_i x; refine Calls.later (v := .bool (sameT n m ks[j] ls[j])) (Nat.le_refl _) (unhide HH _ _ _ _ _ _ _ _ _ _ _ (((unhide HR).below (unhide HWL x) fun b hb => hb).mono fun b hb => Nat.lt_of_lt_of_le hb (unhide HWL x).size) (((unhide HR').below (unhide HWL x) fun b hb => hb).mono fun b hb => Nat.lt_of_lt_of_le hb (unhide HWL x).size)))))
      refine wpQuiet_nil ?_
      rintro wq ⟨⟨_, hbq⟩, rfl⟩
      have hBq := (unhide HB).trans (hbq.mono (unhide HB).size)
      clear P0 R0 F0 F1 F2 F3 G0 G1 G2 G3 hne p0 r0 hbq
      cases e : sameT n m ks[j] ls[j] with
      | true =>
        have HE := hide e
        have HBQ := hide hBq
        clear e hBq
        have hcap := unhide HKL
        go_wp2_with fail
        go_roundw
        case rel => exact ⟨j + 1, hlt, by go_num, unhide HBQ, fun x h h' hx => by
          rcases Nat.lt_or_ge x j with h1 | h1
          · exact unhide HALL x h h' h1
          · obtain rfl : x = j := by omega
            exact unhide HE⟩
        case measure => simp [intOf]; omega
      | false =>
        have HE := hide e
        have HBQ := hide hBq
        clear e hBq
        go_wp2_with fail
        go_ret
        exact ⟨ret_bool (sameL_not _ _ _ j hlt hlt' (unhide HE)).symm, (unhide HB0).trans ((unhide HBQ).mono (unhide HB0).size)⟩
    · have hge : ¬ (j : Int) < (ks.length : Int) := by omega
      go_wp2_with fail
      go_ret
      exact ⟨ret_bool (sameL_all _ _ _ (unhide HLL) fun x h h' => unhide HALL x h h' (by omega)).symm, hbw⟩

theorem sam_any : ∀ n m, SamSaid n m
  | 0, _ => fun t => t.elim
  | _ + 1, 0 => fun _ u => u.elim
  | n + 1, m + 1 => sam_of (sam_any n m)

end Go.Proofs.Ytjhdljmghhdhgaa
