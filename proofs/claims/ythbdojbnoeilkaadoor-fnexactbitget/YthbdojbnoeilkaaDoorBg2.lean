/- spec.l02Get, little: bits as a number, in pieces of eight. -/
import Derived.Test.YthbdojbnoeilkaaDoorBg1
import Derived.Test.YthbdojbnoeilkaaDoorBcs
namespace Go.Proofs.YthbdojbnoeilkaaDoor
open Go.RowKit Go.Deep

set_option maxRecDepth 100000 in
set_option maxHeartbeats 1000000 in
theorem getLittle_any (v : Value) (xs : List Int) (L : Nat) (sg : Bool) (w : World) (hv : RowAt w v xs) (hx : ∀ x ∈ xs, x = 0 ∨ x = 1) (hl : xs.length = L) (hL : L ≤ 49) :
    Calls Tryd.prog 32 #[v, .bool sg, .bool true] w fun e w' => e = .returned (.int .i64 (signed sg L (orN (xbit xs) L true L))) ∧ Below w.heap.size w w' := by
  obtain ⟨a, cap, hvv, hcap, _⟩ := id hv
  subst hvv
  rw [hl] at hcap hv ⊢
  have Hv := hide hv
  have Hx := hide hx
  have Hl := hide hl
  clear hv hx hl
  go_enter Tryd.func32, Tryd.ntmps32
  go_wp2_with fail
  go_loopw [7, 8, 9] (fun nv wv iv wr => ∃ p : Nat, 8 * p < L + 8 ∧ iv = .int .i64 (8 * (p : Int)) ∧ wv = .int .i64 (8 * (p : Int)) ∧ nv = .int .i64 (totN (xbit xs) L p) ∧ Below w.heap.size w wr) (fun _ _ iv _ => L + 8 - (intOf iv).toNat)
  case atStart => exact ⟨0, by omega, rfl, rfl, rfl, Below.refl _ _⟩
  case round =>
    obtain ⟨p, hp, rfl, rfl, rfl, hb⟩ := hrel
    have hle := tot_bounds (xbit xs) L p hL
    by_cases hlt : 8 * p < L
    · have hne : ¬ cap = 8 * p := by omega
      have hS := hide (tot_step (xbit xs) L p)
      have hT := tot_bounds (xbit xs) L (p + 1) hL
      rw [unhide hS] at hT
      obtain ⟨n, hn⟩ : ∃ n, n = totN (xbit xs) L p := ⟨_, rfl⟩
      rw [← hn] at hle hT ⊢
      have HN := hide hn
      have HT := hide hT
      have Hvr := hide ((unhide Hv).keep hb)
      have HB := hide hb
      clear hn hb hT
      by_cases h8 : L < 8 * p + 8
      · have h8' : decide ((L : Int) < 8 * (p : Int) + 8) = true := by simp; omega
        go_wp2_with fail
        refine (getBig_any _ (piece xs (8 * p) (L - 8 * p)) (L - 8 * p) false wr ((unhide Hvr).slice (8 * p) (L - 8 * p) (by rw [unhide Hl]; omega) (piece_length xs (8 * p) (L - 8 * p)) (fun i hi => piece_getD xs (8 * p) (L - 8 * p) i hi) _ (fun _ b off h => by rw [h]; exact congrArg some (Go.WideShapes.add_plain b off (8 * p)))) (piece_01 (unhide Hx) (8 * p) (L - 8 * p)) (piece_length xs (8 * p) (L - 8 * p)) (by omega)).mono ?_
        rintro e w1 ⟨rfl, hb1⟩
        rw [signed_no rfl, hN_piece]
        have hT := unhide HT
        have hSS := unhide hS
        rw [show min (8 * p + 8) L - 8 * p = L - 8 * p by omega] at hT hSS
        obtain ⟨r, hr⟩ : ∃ r, r = hN (fun j => xbit xs (8 * p + j)) (L - 8 * p) := ⟨_, rfl⟩
        rw [← hr] at hT hSS ⊢
        have hp1 := two_pow_lo (8 * p)
        have hr0 : (0 : Int) ≤ (r : Int) * 2 ^ (8 * p) := Int.mul_nonneg (by omega) (by omega)
        have HS := hide hSS
        have HB1 := hide hb1
        clear hr hb1 hSS
        go_wp2_with fail
        go_roundw
        case rel => exact ⟨p + 1, by omega, by go_num, by go_num, by rw [unhide HS, ← unhide HN], (unhide HB).trans ((unhide HB1).mono (unhide HB).size)⟩
        case measure => simp [intOf]; omega
      · have h8' : decide ((L : Int) < 8 * (p : Int) + 8) = false := by simp; omega
        go_wp2_with fail
        refine (getBig_any _ (piece xs (8 * p) (8)) (8) false wr ((unhide Hvr).slice (8 * p) (8) (by rw [unhide Hl]; omega) (piece_length xs (8 * p) (8)) (fun i hi => piece_getD xs (8 * p) (8) i hi) _ (fun _ b off h => by rw [h]; exact congrArg some (Go.WideShapes.add_plain b off (8 * p)))) (piece_01 (unhide Hx) (8 * p) (8)) (piece_length xs (8 * p) (8)) (by omega)).mono ?_
        rintro e w1 ⟨rfl, hb1⟩
        rw [signed_no rfl, hN_piece]
        have hT := unhide HT
        have hSS := unhide hS
        rw [show min (8 * p + 8) L - 8 * p = 8 by omega] at hT hSS
        obtain ⟨r, hr⟩ : ∃ r, r = hN (fun j => xbit xs (8 * p + j)) (8) := ⟨_, rfl⟩
        rw [← hr] at hT hSS ⊢
        have hp1 := two_pow_lo (8 * p)
        have hr0 : (0 : Int) ≤ (r : Int) * 2 ^ (8 * p) := Int.mul_nonneg (by omega) (by omega)
        have HS := hide hSS
        have HB1 := hide hb1
        clear hr hb1 hSS
        go_wp2_with fail
        go_roundw
        case rel => exact ⟨p + 1, by omega, by go_num, by go_num, by rw [unhide HS, ← unhide HN], (unhide HB).trans ((unhide HB1).mono (unhide HB).size)⟩
        case measure => simp [intOf]; omega
    · have hr := hide (little_eq (xbit xs) L p (by omega))
      obtain ⟨n, hn⟩ : ∃ n, n = totN (xbit xs) L p := ⟨_, rfl⟩
      rw [← hn] at hle ⊢
      have HN := hide hn
      have hp1 := two_pow_lo (L - 1)
      have hp2 := two_pow_hi (L - 1) (by omega)
      have hq1 := two_pow_lo L
      have hq2 := two_pow_hi L hL
      clear hn
      go_wp2_with fail
      all_goals
        go_ret
        refine ⟨?_, hb⟩
        rw [← unhide hr, ← unhide HN]
        first
          | rw [signed_neg ‹_› ‹_› ‹_›]; rfl
          | rw [signed_lt ‹_›]; rfl
          | rw [signed_zero ‹_›]; rfl
          | rw [signed_no (by simpa using ‹¬ sg = true›)]; rfl
          | rw [signed_no ‹_›]; rfl

end Go.Proofs.YthbdojbnoeilkaaDoor
