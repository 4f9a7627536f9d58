/- spec.BitsOK and impl.BitsOK. -/
import Derived.Test.YtbljelopgalkgaaDoorBis
import Derived.Test.YtbljelopgalkgaaDoorBpu
import Derived.BigQuiet
import Derived.Deep.RegionWith
namespace Go.Proofs.YtbljelopgalkgaaDoor
open Go.RowKit Go.Deep

set_option maxRecDepth 100000 in
set_option maxHeartbeats 1000000 in
theorem sOK_any (n : Int) (s : ByteArray) (w : World) :
    Calls Tryd.prog 9 #[.agg #[.int .i64 n, .string s]] w fun e w' => e = .returned (.bool (okS n s)) ∧ Below w.heap.size w w' := by
  by_cases h1 : n < 0
  · have hr := hide (okS_false (n := n) (s := s) (by unfold okLen; omega))
    go_enter Tryd.func9, Tryd.ntmps9
    go_wp2_with fail
    go_ret
    exact ⟨by rw [unhide hr]; rfl, (Below.refl w.heap.size w).alloc (Nat.le_refl _) _⟩
  by_cases h2 : 32000 < n
  · have hr := hide (okS_false (n := n) (s := s) (by unfold okLen; omega))
    go_enter Tryd.func9, Tryd.ntmps9
    go_wp2_with fail
    go_ret
    exact ⟨by rw [unhide hr]; rfl, (Below.refl w.heap.size w).alloc (Nat.le_refl _) _⟩
  by_cases h3 : (s.size : Int) = (n + 7) / 8
  · obtain ⟨N, rfl⟩ := Int.eq_ofNat_of_zero_le (show 0 ≤ n by omega)
    have hbx := fun x : Obj => (Below.refl w.heap.size w).alloc (Nat.le_refl _) x
    have hr := hide (okS_true (n := N) (s := s) ⟨by omega, by omega, h3⟩)
    have hbd : Below (w.heap.size + 1) (w.alloc (.cells #[.int .i64 N, .string s] 26)) (w.alloc (.cells #[.int .i64 N, .string s] 26)).drew := (Below.refl _ _).drew
    have Hbd := hide hbd
    clear hbd
    have hfd := field1
    obtain ⟨S, hS⟩ : ∃ S, strB (bitsOf s N) = S := ⟨_, rfl⟩
    have HS := hide hS
    clear hS
    go_enter Tryd.func9, Tryd.ntmps9
    go_wp2_with fail
    go_region_with (first
      | (go_at_call 22; refine (row_any N s _ (by omega) (by omega)).mono ?_; rintro e w1 ⟨v, rfl, hv, hb1⟩; have hB1 := (unhide Hbd).trans (hb1.mono (by simp)); obtain ⟨g0, g1⟩ := box2 w _ _ _ hB1; have HV := hide (RowAt.of_own (xs := bitsOf s N) (by rw [bitsOf_length]; exact hv)); have HB1 := hide hB1; clear hv hb1 hB1)
      | (go_at_call 21; refine (pack_as _ (bitsOf s N) N S _ (unhide HV) (bits_01 s N) (bitsOf_length s N) (by omega) (unhide HS)).mono ?_; rintro e w2 ⟨rfl, hb2⟩; have hB2 := (unhide HB1).trans (hb2.mono (by have := (unhide HB1).size; simpa using this)); obtain ⟨g2, g3⟩ := box2 w _ _ _ hB2; have HB2 := hide hB2; clear hb2 hB2))
    all_goals
      go_wp2_with fail
      go_ret
      refine ⟨?_, (hbx _).trans ((unhide HB2).mono (by omega))⟩
      rw [unhide hr, Int.toNat_natCast, unhide HS]
      rfl
  · have hr := hide (okS_false (n := n) (s := s) (by unfold okLen; omega))
    go_enter Tryd.func9, Tryd.ntmps9
    go_wp2_with fail
    go_ret
    exact ⟨by rw [unhide hr]; rfl, (Below.refl w.heap.size w).alloc (Nat.le_refl _) _⟩

end Go.Proofs.YtbljelopgalkgaaDoor
