/- impl.BitsOK. -/
import Derived.Test.YtbljelopgalkgaaDoorBis
import Derived.Test.YtbljelopgalkgaaDoorBpu
import Derived.BigQuiet
import Derived.Deep.RegionWith
import Derived.WalkSmall
namespace Go.Proofs.YtbljelopgalkgaaDoor
open Go.RowKit Go.Deep

set_option maxRecDepth 100000 in
set_option maxHeartbeats 1000000 in
theorem iOK_any (n : Int) (s : ByteArray) (w : World) (hm : Masks 0 w) (hs : s.size ≤ 1048576) :
    Calls Tryd.prog 11 #[.agg #[.int .i64 n, .string s]] w fun e w' => e = .returned (.bool (okS n s)) ∧ Below w.heap.size w w' := by
  by_cases h1 : n < 0
  · have hr := hide (okS_false (n := n) (s := s) (by unfold okLen; omega))
    clear hm
    go_enter Tryd.func11, Tryd.ntmps11
    go_wp2_with fail
    go_quiet (fail)
    go_wp2_with fail
    go_ret
    exact ⟨by rw [unhide hr]; rfl, below_drewN ((Below.refl w.heap.size w).alloc (Nat.le_refl _) _) _⟩
  by_cases h2 : 32000 < n
  · have hr := hide (okS_false (n := n) (s := s) (by unfold okLen; omega))
    clear hm
    go_enter Tryd.func11, Tryd.ntmps11
    go_wp2_with fail
    go_quiet (fail)
    go_wp2_with fail
    go_ret
    exact ⟨by rw [unhide hr]; rfl, below_drewN ((Below.refl w.heap.size w).alloc (Nat.le_refl _) _) _⟩
  obtain ⟨N, rfl⟩ := Int.eq_ofNat_of_zero_le (show 0 ≤ n by omega)
  have G0 : ∀ x : LaterW (w.heap.size + 1) (w.alloc (.cells #[.int .i64 N, .string s] 26)), x.wd.cell? ⟨w.heap.size, 0, none⟩ = some (.int .i64 N) := fun x => (box2 w _ _ _ x.be).1
  have G1 : ∀ x : LaterW (w.heap.size + 1) (w.alloc (.cells #[.int .i64 N, .string s] 26)), x.wd.cell? ⟨w.heap.size, 1, none⟩ = some (.string s) := fun x => (box2 w _ _ _ x.be).2
  have hbx := (Below.refl w.heap.size w).alloc (Nat.le_refl _) (.cells #[.int .i64 N, .string s] 26)
  have Hbx := hide hbx
  have Hm := hide hm
  have hne : Nonempty (LaterW (w.heap.size + 1) (w.alloc (.cells #[.int .i64 N, .string s] 26))) := ⟨⟨_, Below.refl _ _⟩⟩
  clear hbx hm
  have ha : (decide ((32000 : Int) < N)) = false := by simp; omega
  have hb : (decide ((N : Int) < 0)) = false := by simp
  go_enter Tryd.func11, Tryd.ntmps11
  go_wp2_with fail
  refine wp_region_later (w.heap.size + 1) (by kernel_rfl) (by kernel_rfl) ?_
  repeat (go_big_quiet_step ((go_at_call 23; rename_i x; refine Calls.later (v := .int .i64 (((N : Int) + 7) / 8)) (by simp) (bf_any N _ (by omega) (by omega)))))
  refine wpQuiet_nil ?_
  rintro wq ⟨⟨_, hq⟩, rfl⟩
  clear G0 G1 hne
  obtain ⟨g0, g1⟩ := box2 w _ _ _ hq
  have Hq := hide hq
  clear hq
  by_cases h3 : (s.size : Int) = ((N : Int) + 7) / 8
  · have h3' : ((s.size : Int) != ((N : Int) + 7) / 8) = false := by simp [h3]
    have hr := hide (okS_iff N s ⟨by omega, by omega, h3⟩)
    have H3 := hide h3
    have hle : (N : Int) ≤ 8 * s.size := by omega
    clear h3
    have hss : s.size ≤ 1048576 := hs
    go_wp2_with fail
    rw [h3']
    clear h3'
    go_loopw [3, 28] (fun jv iv wr => ∃ k : Nat, (k : Int) ≤ 8 * s.size - N ∧ iv = .int .i64 k ∧ Hid (∀ i, N ≤ i → i < N + k → bit s i = 0) ∧ Below (w.heap.size + 1) (w.alloc (.cells #[.int .i64 N, .string s] 26)) wr) (fun _ iv _ => 8 * s.size - N - (intOf iv).toNat)
    case atStart => exact ⟨0, by omega, rfl, hide fun i h1 h2 => by omega, unhide Hq⟩
    case round =>
      obtain ⟨k, hk, rfl, hz, hb⟩ := hrel
      obtain ⟨e0, e1⟩ := box2 w _ _ _ hb
      have hsz := hb.size
      simp only [World.size_alloc] at hsz
      clear g0 g1
      by_cases hlt : (k : Int) < 8 * s.size - N
      · have hb0 := (Below.refl w.heap.size w).alloc (Nat.le_refl _) (.cells #[.int .i64 N, .string s] 26) |>.trans (hb.mono (by omega))
        have hI := hide (isSet_any N s (N + k) wr ((unhide Hm).keep hb0) (by omega) (by omega))
        have HB := hide hb
        have HB0 := hide hb0
        clear hb hb0
        go_wp2_with (go_at_call 24; refine (unhide hI).mono ?_; rintro e w1 ⟨rfl, hb1⟩; have HB1 := hide hb1; clear hb1)
        · have h1 : bit s (N + k) = 1 := by assumption
          have hf : okS N s = false := by
            rw [← Bool.not_eq_true, unhide hr]
            intro H
            have := H (N + k) (by omega) (by omega)
            omega
          go_ret
          exact ⟨by rw [hf]; rfl, (unhide HB0).trans ((unhide HB1).mono (unhide HB0).size)⟩
        · have h1 : ¬ bit s (N + k) = 1 := by assumption
          have h0 : bit s (N + k) = 0 := by have := bit_01 s (N + k); omega
          have hz' : Hid (∀ i, N ≤ i → i < N + (k + 1) → bit s i = 0) := hide fun i h1 h2 => by
            by_cases h : i = N + k
            · rw [h]; exact h0
            · exact unhide hz i h1 (by omega)
          clear h0 h1
          go_roundw
          case rel => exact ⟨k + 1, by omega, by go_num, hz', (unhide HB).trans ((unhide HB1).mono (by omega))⟩
          case measure => simp [intOf]; omega
      · have hkn : (k : Int) = 8 * s.size - N := by omega
        have hall : okS N s = true := (unhide hr).2 fun i h1 h2 => unhide hz i h1 (by omega)
        have HA := hide hall
        clear hall hkn
        go_wp2_with fail
        go_ret
        exact ⟨by rw [unhide HA]; rfl, (unhide Hbx).trans (hb.mono (by omega))⟩
  · have h3' : ((s.size : Int) != ((N : Int) + 7) / 8) = true := by simp [h3]
    have hr := hide (okS_false (n := N) (s := s) (by unfold okLen; omega))
    go_wp2_with fail
    go_ret
    exact ⟨by rw [unhide hr]; rfl, (unhide Hbx).trans ((unhide Hq).mono (by omega))⟩

end Go.Proofs.YtbljelopgalkgaaDoor
