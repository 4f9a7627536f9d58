/- spec.l02Get: bits as a number. -/
import Derived.Test.YthbdojbnoeilkaaDoorBis
import Derived.Test.YthbdojbnoeilkaaDoorBgp
namespace Go.Proofs.YthbdojbnoeilkaaDoor
open Go.RowKit Go.Deep

set_option maxRecDepth 100000 in
set_option maxHeartbeats 1000000 in
theorem getBig_any (v : Value) (xs : List Int) (L : Nat) (sg : Bool) (w : World) (hv : RowAt w v xs) (hx : ∀ x ∈ xs, x = 0 ∨ x = 1) (hl : xs.length = L) (hL : L ≤ 49) :
    Calls Tryd.prog 32 #[v, .bool sg, .bool false] w fun e w' => e = .returned (.int .i64 (signed sg L (hN (xbit xs) L))) ∧ Below w.heap.size w w' := by
  obtain ⟨a, cap, rfl, hcap, hel⟩ := hv
  rw [hl] at hcap hel ⊢
  have Hel := hide hel
  have Hx := hide hx
  clear hel hx hl
  go_enter Tryd.func32, Tryd.ntmps32
  go_wp2_with fail
  go_loopw [7, 11] (fun nv iv wr => ∃ k : Nat, k ≤ L ∧ iv = .int .i64 k ∧ nv = .int .i64 (hN (xbit xs) k) ∧ Below w.heap.size w wr) (fun _ iv _ => L - (intOf iv).toNat)
  case atStart => exact ⟨0, Nat.zero_le _, rfl, rfl, Below.refl _ _⟩
  case round =>
    obtain ⟨k, hk, rfl, rfl, hb⟩ := hrel
    have hle := hN_le (xbit xs) k (by omega)
    by_cases hlt : k < L
    · obtain ⟨b, off, rfl, hblk, hc⟩ := unhide Hel k hlt
      have hcr := (hb.cell (p := ⟨b, off + k, none⟩) hblk).trans hc
      have h01 := getD_01 (unhide Hx) k
      have HS := hide (hN_step (unhide Hx) k)
      obtain ⟨x, hxe⟩ : ∃ x, x = xs.getD k 0 := ⟨_, rfl⟩
      rw [← hxe] at hcr h01
      have HE := hide hxe
      clear hc hxe
      obtain ⟨n, hn⟩ : ∃ n, n = hN (xbit xs) k := ⟨_, rfl⟩
      rw [← hn] at hle ⊢
      have HN := hide hn
      clear hn
      go_wp2_with fail
      go_roundw
      case rel => exact ⟨k + 1, by omega, by go_num, by rw [← unhide HS, ← unhide HN, ← unhide HE], hb⟩
      case measure => simp [intOf]; omega
    · have hkn : k = L := by omega
      subst hkn
      obtain ⟨n, hn⟩ : ∃ n, n = hN (xbit xs) k := ⟨_, rfl⟩
      rw [← hn] at hle ⊢
      have HN := hide hn
      clear hn
      have hp1 := two_pow_lo (k - 1)
      have hp2 := two_pow_hi (k - 1) (by omega)
      have hq1 := two_pow_lo k
      have hq2 := two_pow_hi k hL
      go_wp2_with fail
      all_goals
        go_ret
        refine ⟨?_, hb⟩
        rw [← unhide HN]
        first
          | rw [signed_neg ‹_› ‹_› ‹_›]; rfl
          | rw [signed_lt ‹_›]; rfl
          | rw [signed_zero ‹_›]; rfl
          | rw [signed_no (by simpa using ‹¬ sg = true›)]; rfl
          | rw [signed_no ‹_›]; rfl

end Go.Proofs.YthbdojbnoeilkaaDoor
