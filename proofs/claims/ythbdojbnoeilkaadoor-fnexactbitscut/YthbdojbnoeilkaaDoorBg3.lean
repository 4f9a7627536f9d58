/- impl's get: bits as a number. -/
import Derived.Test.YthbdojbnoeilkaaDoorBp2
import Derived.Test.YthbdojbnoeilkaaDoorBgp
namespace Go.Proofs.YthbdojbnoeilkaaDoor
open Go.RowKit Go.Deep

/-- Bit i from bit f on. -/
abbrev gbit (s : ByteArray) (f i : Nat) : Bool := decide (bit s (f + i) = 1)

set_option maxRecDepth 100000 in
set_option maxHeartbeats 1000000 in
theorem iget_any (n : Int) (s : ByteArray) (f size : Nat) (sg li : Bool) (w : World) (hm : Masks 0 w) (hs : size ≤ 49) (hf : f + size ≤ 8 * s.size) (hss : s.size ≤ 1048576) :
    Calls Tryd.prog 33 #[.agg #[.int .i64 size, .bool sg, .bool li], .agg #[.int .i64 n, .string s], .int .i64 f] w fun e w' => e = .returned (.int .i64 (signed sg size (orN (gbit s f) size li size))) ∧ Below w.heap.size w w' := by
  have Hm := hide hm
  obtain ⟨W0, hW0⟩ : ∃ W0, W0 = (w.alloc (.cells #[.int .i64 size, .bool sg, .bool li] 53)).alloc (.cells #[.int .i64 n, .string s] 26) := ⟨_, rfl⟩
  have hs0 : W0.heap.size = w.heap.size + 2 := by rw [hW0]; simp
  have hb0 : Below w.heap.size w W0 := by rw [hW0]; exact ((Below.refl w.heap.size w).alloc (Nat.le_refl _) _).alloc (by simp) _
  have F : ∀ w', Below W0.heap.size W0 w' → w'.cell? ⟨w.heap.size, 0, none⟩ = some (.int .i64 size) ∧ w'.cell? ⟨w.heap.size, 1, none⟩ = some (.bool sg) ∧ w'.cell? ⟨w.heap.size, 2, none⟩ = some (.bool li) := fun w' hb => by
    rw [hW0] at hb
    exact box3 w _ _ _ _ (Nat.lt_succ_self _) ((((Below.refl (w.heap.size + 1) (w.alloc (.cells #[.int .i64 size, .bool sg, .bool li] 53))).alloc (by simp) _)).trans (hb.mono (by simp)))
  have G : ∀ w', Below W0.heap.size W0 w' → w'.cell? ⟨w.heap.size + 1, 0, none⟩ = some (.int .i64 n) ∧ w'.cell? ⟨w.heap.size + 1, 1, none⟩ = some (.string s) := fun w' hb => by
    have h := box2 (w.alloc (.cells #[.int .i64 size, .bool sg, .bool li] 53)) (.int .i64 n) (.string s) 26 (w' := w') (by rw [hW0] at hb; simpa using hb)
    simp only [World.size_alloc] at h
    exact h
  obtain ⟨f0, f1, f2⟩ := F W0 (Below.refl _ _)
  have HF := hide F
  have HG := hide G
  have Hb0 := hide hb0
  have HW := hide hW0
  clear hm F G hb0
  go_enter Tryd.func33, Tryd.ntmps33
  go_wp2_with fail
  rw [← unhide HW]
  clear hW0 f0 f1 f2
  go_loopw [7, 8, 11] (fun vv jv iv wr => ∃ k : Nat, k ≤ size ∧ iv = .int .i64 k ∧ vv = .int .i64 (orN (gbit s f) size li k) ∧ Below W0.heap.size W0 wr) (fun _ _ iv _ => size - (intOf iv).toNat)
  case atStart => exact ⟨0, Nat.zero_le _, rfl, rfl, Below.refl _ _⟩
  case round =>
    obtain ⟨k, hk, rfl, rfl, hb⟩ := hrel
    have hlo := Nat.lt_of_lt_of_le (orN_lt (gbit s f) size li k hk) (Nat.pow_le_pow_right (by decide) hs)
    obtain ⟨f0, f1, f2⟩ := unhide HF wr hb
    obtain ⟨g0, g1⟩ := unhide HG wr hb
    have Hb := hide hb
    by_cases hlt : k < size
    · have hS := hide (orN_set (gbit s f) size li k)
      have hK := hide (orN_skip (gbit s f) size li k)
      have hP := pw_lt size li k hlt
      obtain ⟨P, hPe⟩ : ∃ P, P = pw size li k := ⟨_, rfl⟩
      have hpow := hide (power_any size sg li k)
      rw [← hPe] at hP hpow hS
      obtain ⟨v, hv⟩ : ∃ v, v = orN (gbit s f) size li k := ⟨_, rfl⟩
      rw [← hv] at hlo hS hK ⊢
      have HV := hide hv
      have hor := hide (i64_or v P hlo (by omega))
      have hp1 := two_pow_lo P
      have hp2 := two_pow_hi P (by omega)
      have hset := hide (isSet_any n s (f + k) wr ((unhide Hm).keep ((unhide Hb0).trans ((unhide Hb).mono (unhide Hb0).size))) (by omega) (by omega))
      clear hb hv hPe
      go_wp2_with fail
      refine (unhide hset).mono ?_
      rintro e w1 ⟨rfl, hb1⟩
      have hB1 := (unhide Hb).trans (hb1.mono (unhide Hb).size)
      obtain ⟨f0, f1, f2⟩ := unhide HF w1 hB1
      obtain ⟨g0, g1⟩ := unhide HG w1 hB1
      have HB1 := hide hB1
      clear hb1 hB1
      go_wp2_with (go_at_call 38; refine (unhide hpow w1 hlt hs).mono ?_; rintro e w2 ⟨rfl, hb2⟩; have HB2 := hide hb2; clear hb2)
      · have h1 : bit s (f + k) = 1 := by assumption
        have hx : gbit s f k = true := decide_eq_true h1
        clear h1
        go_roundw
        case rel => exact ⟨k + 1, by omega, by go_num, by rw [unhide hS hx, unhide hor], (unhide HB1).trans ((unhide HB2).mono (unhide HB1).size)⟩
        case measure => simp [intOf]; omega
      · have h1 : ¬ bit s (f + k) = 1 := by assumption
        have hx : gbit s f k = false := decide_eq_false h1
        clear h1
        go_roundw
        case rel => exact ⟨k + 1, by omega, by go_num, by rw [unhide hK hx], unhide HB1⟩
        case measure => simp [intOf]; omega
    · have hkn : k = size := by omega
      subst hkn
      have hlk := orN_lt (gbit s f) k li k (Nat.le_refl _)
      obtain ⟨v, hv⟩ : ∃ v, v = orN (gbit s f) k li k := ⟨_, rfl⟩
      rw [← hv] at hlo hlk ⊢
      have HV := hide hv
      have hlo' : v ≤ 562949953421312 := by have h49 : (2 : Nat) ^ 49 = 562949953421312 := by decide
                                            omega
      have htop := hide (fun h => top_bit v k h hlk)
      have hp1 := two_pow_lo (k - 1)
      have hp2 := two_pow_hi (k - 1) (by omega)
      have hq1 := two_pow_lo k
      have hq2 := two_pow_hi k hs
      have Hlk := hide hlk
      clear hv hlk hlo hb
      go_wp2_with fail
      all_goals
        go_ret
        refine ⟨?_, (unhide Hb0).trans ((unhide Hb).mono (unhide Hb0).size)⟩
        rw [← unhide HV]
        first
          | rw [signed_top (unhide Hlk) ‹_› ‹_› ‹_›]; rfl
          | rw [signed_low (unhide Hlk) ‹_› ‹_›]; rfl
          | rw [signed_zero ‹_›]; rfl
          | rw [signed_no (by simpa using ‹¬ sg = true›)]; rfl
          | rw [signed_no ‹_›]; rfl

/-- Whether some bits are all there. -/
def holdB (n f k : Int) : Bool := decide (0 ≤ f ∧ 0 ≤ k ∧ k ≤ n - f)
theorem holdB_yes {n f k : Int} (h : 0 ≤ f ∧ 0 ≤ k ∧ k ≤ n - f) : holdB n f k = true := decide_eq_true h
theorem holdB_no {n f k : Int} (h : ¬ (0 ≤ f ∧ 0 ≤ k ∧ k ≤ n - f)) : holdB n f k = false := decide_eq_false h

set_option maxRecDepth 100000 in
theorem holds_any (n : Int) (s : ByteArray) (f k : Int) (w : World) (hn0 : 0 ≤ n) (hn : n ≤ 32000) (hf0 : -9223372036854775808 ≤ f) (hf1 : f ≤ 9223372036854775807) :
    Calls Tryd.prog 27 #[.agg #[.int .i64 n, .string s], .int .i64 f, .int .i64 k] w fun e w' => e = .returned (.bool (holdB n f k)) ∧ Below w.heap.size w w' := by
  have hbx := hide ((Below.refl w.heap.size w).alloc (Nat.le_refl _) (.cells #[.int .i64 n, .string s] 26))
  by_cases h1 : 0 ≤ f
  · by_cases h2 : 0 ≤ k
    · by_cases h3 : k ≤ n - f
      · have hr := hide (holdB_yes ⟨h1, h2, h3⟩)
        go_enter Tryd.func27, Tryd.ntmps27
        go_wp2_with fail
        go_ret
        exact ⟨by rw [unhide hr]; simp, unhide hbx⟩
      · have hr := hide (holdB_no (n := n) (f := f) (k := k) (fun h => h3 h.2.2))
        go_enter Tryd.func27, Tryd.ntmps27
        go_wp2_with fail
        go_ret
        exact ⟨by rw [unhide hr]; simp, unhide hbx⟩
    · have hr := hide (holdB_no (n := n) (f := f) (k := k) (fun h => h2 h.2.1))
      go_enter Tryd.func27, Tryd.ntmps27
      go_wp2_with fail
      go_ret
      exact ⟨by rw [unhide hr]; simp, unhide hbx⟩
  · have hr := hide (holdB_no (n := n) (f := f) (k := k) (fun h => h1 h.1))
    go_enter Tryd.func27, Tryd.ntmps27
    go_wp2_with fail
    go_ret
    exact ⟨by rw [unhide hr]; simp, unhide hbx⟩

end Go.Proofs.YthbdojbnoeilkaaDoor
