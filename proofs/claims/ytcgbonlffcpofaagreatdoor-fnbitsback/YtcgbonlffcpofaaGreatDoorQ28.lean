/- impl's openAtEnd; a segment's match. -/
import Derived.Test.YtcgbonlffcpofaaGreatDoorQ21
import Derived.Test.YtcgbonlffcpofaaGreatDoorQ26
import Derived.Test.YtcgbonlffcpofaaGreatDoorBc2
import Derived.Test.YtcgbonlffcpofaaGreatDoorDw4h
import Derived.Deep.RegionHeld3
import Derived.Test.YtcgbonlffcpofaaGreatDoorQ9
import Derived.Test.YtcgbonlffcpofaaGreatDoorQ8
import Derived.BigQuiet
import Derived.Deep.RegionWith
import Derived.WalkSmall
namespace Go.Proofs.YtcgbonlffcpofaaGreatDoor
open Go.RowKit Go.Deep

/-- At most the last part takes all that there is. -/
def opnP {n : Nat} (gs : List (SgT n)) : Prop := ∀ i (h : i < gs.length), gs[i].2.1 = -1 → i + 1 = gs.length

/-- What stands behind openAtEnd. -/
def OpnEnd {n : Nat} (gs : List (SgT n)) (w : World) (e : Ending) (w' : World) : Prop := ∃ b, e = .returned (.bool b) ∧ (b = true ↔ opnP gs) ∧ Below w.heap.size w w'

section
variable {n : Nat} (gs : List (SgT n)) (v : Value) (w : World)
set_option maxRecDepth 40000 in
set_option maxHeartbeats 2000000 in
theorem openAtEnd_any (hv : SgsAt (Under w.heap.size) w n gs v) : Calls Tryz.prog 22 #[v] w fun e w' => OpnEnd gs w e w' := by
  obtain ⟨a, cap, rfl, hcap⟩ : ∃ a cap, v = .slice a gs.length cap ∧ gs.length ≤ 2 ^ 47 := by obtain ⟨a, cap, h, _, h2, _⟩ := hv; exact ⟨a, cap, h, h2⟩
  go_enter Tryz.func22, Tryz.ntmps22
  go_wp2_with fail
  go_loopw [7] (fun iv wr => ∃ k : Nat, k ≤ gs.length ∧ iv = .int .i64 k ∧ Below w.heap.size w wr ∧ ∀ i (hi : i < gs.length), i < k → gs[i].2.1 = -1 → i + 1 = gs.length) (fun iv _ => gs.length - (intOf iv).toNat)
  case atStart => exact ⟨0, by omega, rfl, Below.refl _ _, fun i _ hi => absurd hi (by omega)⟩
  case round =>
    obtain ⟨k, hk, rfl, hb, hall⟩ := hrel
    by_cases hlt : k < gs.length
    · obtain ⟨b, off, kk, km, ks, ku, rfl, hS, e0, e1, e2, e3, e4, e5, e6, e7, e8, i1, i2, i3, hr⟩ := (hv.up hb).at k hlt
      obtain ⟨g1, g2, g3, g4, g5, t, hgk⟩ : ∃ g1 g2 g3 g4 g5 t, gs[k] = ((g1, g2, g3, g4, g5, t) : SgT n) := ⟨_, _, _, _, _, _, rfl⟩
      rw [hgk] at e0 e1 e2 e3 e4 hr
      dsimp only at e0 e1 e2 e3 e4 hr
      obtain ⟨_, _, _, ua, ul, uc, h1, h2, h3, rfl⟩ := hr.shape
      have HC := hide (fun w => isOpen_any g1 g2 g3 g4 g5 kk km ks ua ul uc w)
      have HGK := hide hgk
      have HB := hide hb
      have hk1 : IntKind.i64.wrap ((k : Int) + 1) = (k : Int) + 1 := by rw [IntKind.wrap_i64]; omega
      clear hr hb h1 h2 h3 i1 i2 i3 hgk
      go_wp2_with fail
      refine ((unhide HC) _).mono ?_
      rintro e w1 ⟨rfl, hb1⟩
      have hw1 := (unhide HB).trans ((((Below.refl wr.heap.size wr).alloc (Nat.le_refl _) _).trans (hb1.mono (by simp))).mono (unhide HB).size)
      have HW := hide hw1
      clear hb1 hw1
      by_cases hopen : g2 = -1
      · subst hopen
        have ht : ((-1 : Int) == -1) = true := rfl
        rw [ht]
        clear ht
        by_cases hlast : (k : Int) + 1 < (gs.length : Int)
        · have HANS := hide (show ¬ opnP gs from fun h => by have := h k hlt (by rw [unhide HGK]); omega)
          go_wp2_with fail
          go_ret
          exact ⟨false, rfl, ⟨fun h => (by cases h), fun h => absurd h (unhide HANS)⟩, unhide HW⟩
        · go_wp2_with fail
          go_roundw
          case rel => exact ⟨k + 1, hlt, by go_num, unhide HW, fun i hi hik hg => by
            rcases (show i < k ∨ i = k by omega) with h | rfl
            · exact hall i hi h hg
            · omega⟩
          case measure => simp [intOf]; omega
      · have ht : (g2 == -1) = false := by simpa using hopen
        rw [ht]
        have HOPN := hide hopen
        clear ht hopen
        go_wp2_with fail
        go_roundw
        case rel => exact ⟨k + 1, hlt, by go_num, unhide HW, fun i hi hik hg => by
          rcases (show i < k ∨ i = k by omega) with h | rfl
          · exact hall i hi h hg
          · rw [unhide HGK] at hg; exact absurd hg (unhide HOPN)⟩
        case measure => simp [intOf]; omega
    · have HANS := hide (show opnP gs from fun i hi hg => hall i hi (by omega) hg)
      have HB := hide hb
      clear hall hb
      go_wp2_with fail
      go_ret
      exact ⟨true, rfl, ⟨fun _ => unhide HANS, fun _ => rfl⟩, unhide HB⟩
end

section
variable (g1 g2 g3 : Int) (g4 g5 : Bool) (k m : Int) (s0 : ByteArray) (ua : Option Addr) (ul uc : Nat) (w : World)

set_option maxRecDepth 40000 in
set_option maxHeartbeats 2000000 in
theorem smatch_int (L : Int) (s : ByteArray) (f W : Nat) (nn : Int) (hm : Masks 0 w) (p1 : 1 ≤ g3) (p2 : g3 ≤ 256) (p3 : -1 ≤ g2) (p4 : g2 ≤ 32000) (hW : g2 * g3 = (W : Int)) (h49 : W ≤ 49) (hf : f + W ≤ 8 * s.size) (hss : s.size ≤ 1048576) :
    Calls Tryz.prog 24 #[sgV 1 g2 g3 g4 g5 k m s0 ua ul uc, .agg #[.int .i64 L, .string s], .int .i64 f, .int .i64 nn] w
      fun e w' => e = .returned (.agg #[.int .i64 1, .int .i64 (signed g4 W (orN (gbit s f) W g5 W)), .string ⟨#[]⟩, .slice none 0 0]) ∧ Below w.heap.size w w' := by
  have HA := asField_any 1 g2 g3 g4 g5 k m s0 ua ul uc
  rw [hW] at HA
  have HAA := hide (fun w => HA w p1 p2 p3 p4)
  have HGT := hide (fun w' (hb : Below w.heap.size w w') => iget_any L s f W g4 g5 w' (hm.keep hb) h49 hf hss)
  generalize signed g4 W (orN (gbit s f) W g5 W) = V at HGT ⊢
  obtain ⟨W0, hW0⟩ : ∃ W0, W0 = ((w.alloc (sgO 1 g2 g3 g4 g5 k m s0 ua ul uc)).alloc (.cells #[.int .i64 L, .string s] 27)).alloc (.cells #[.int .i64 0, .int .i64 0, .string ⟨#[]⟩, .slice none 0 0] 32) := ⟨_, rfl⟩
  have hb0 : Below w.heap.size w W0 := by rw [hW0]; exact (below_two _ _ _).alloc (by simp; omega) _
  obtain ⟨n0, n1, n2⟩ := three_news w (sgO 1 g2 g3 g4 g5 k m s0 ua ul uc) (.cells #[.int .i64 L, .string s] 27) (.cells #[.int .i64 0, .int .i64 0, .string ⟨#[]⟩, .slice none 0 0] 32)
  rw [← hW0] at n0 n1 n2
  have hs0 : W0.heap.size = w.heap.size + 3 := by rw [hW0]; simp
  have HW := hide hW0
  have hk : ∀ w', Below W0.heap.size W0 w' → w'.heap[w.heap.size]? = some (sgO 1 g2 g3 g4 g5 k m s0 ua ul uc) ∧ w'.heap[w.heap.size + 1]? = some (.cells #[.int .i64 L, .string s] 27) ∧ w'.heap[w.heap.size + 1 + 1]? = some (.cells #[.int .i64 0, .int .i64 0, .string ⟨#[]⟩, .slice none 0 0] 32) :=
    fun w' hb => ⟨(hb.block _ (by omega)).trans n0, (hb.block _ (by omega)).trans n1, (hb.block _ (by omega)).trans n2⟩
  have HK := hide hk
  have HB0 := hide hb0
  clear HA hk hb0 n0 n1 n2 hm p1 p2 p3 p4 hW
  unfold sgV
  go_enter Tryz.func24, Tryz.ntmps24
  go_wp2_with fail
  rw [← unhide HW]
  clear hW0
  have hbz := hide ((Below.refl W0.heap.size W0).drew)
  have hcs : ∀ w' : World, (∀ b, b < w.heap.size + 2 → w'.heap[b]? = W0.heap[b]?) → ((w'.cell? ⟨w.heap.size, 0, none⟩ = some (.int .i64 1) ∧ w'.cell? ⟨w.heap.size, 1, none⟩ = some (.int .i64 g2) ∧ w'.cell? ⟨w.heap.size, 2, none⟩ = some (.int .i64 g3) ∧ w'.cell? ⟨w.heap.size, 3, none⟩ = some (.bool g4) ∧ w'.cell? ⟨w.heap.size, 4, none⟩ = some (.bool g5) ∧
      w'.cell? ⟨w.heap.size, 5, none⟩ = some (.int .i64 k) ∧ w'.cell? ⟨w.heap.size, 6, none⟩ = some (.int .i64 m) ∧ w'.cell? ⟨w.heap.size, 7, none⟩ = some (.string s0) ∧ w'.cell? ⟨w.heap.size, 8, none⟩ = some (.slice ua ul uc)) ∧ (w'.cell? ⟨w.heap.size + 1, 0, none⟩ = some (.int .i64 L) ∧ w'.cell? ⟨w.heap.size + 1, 1, none⟩ = some (.string s))) := fun w' hb => by
    obtain ⟨h0, h1, _⟩ := unhide HK W0 (Below.refl _ _)
    have h0 := (hb _ (by omega)).trans h0
    have h1 := (hb _ (by omega)).trans h1
    have c := cell_of_heap h0
    have d := cell_of_heap h1
    exact ⟨⟨c 0, c 1, c 2, c 3, c 4, c 5, c 6, c 7, c 8⟩, d 0, d 1⟩
  have HCS := hide hcs
  clear hcs
  go_region_held3 (fun w' => (w'.cell? ⟨w.heap.size, 0, none⟩ = some (.int .i64 1) ∧ w'.cell? ⟨w.heap.size, 1, none⟩ = some (.int .i64 g2) ∧ w'.cell? ⟨w.heap.size, 2, none⟩ = some (.int .i64 g3) ∧ w'.cell? ⟨w.heap.size, 3, none⟩ = some (.bool g4) ∧ w'.cell? ⟨w.heap.size, 4, none⟩ = some (.bool g5) ∧
      w'.cell? ⟨w.heap.size, 5, none⟩ = some (.int .i64 k) ∧ w'.cell? ⟨w.heap.size, 6, none⟩ = some (.int .i64 m) ∧ w'.cell? ⟨w.heap.size, 7, none⟩ = some (.string s0) ∧ w'.cell? ⟨w.heap.size, 8, none⟩ = some (.slice ua ul uc)) ∧ (w'.cell? ⟨w.heap.size + 1, 0, none⟩ = some (.int .i64 L) ∧ w'.cell? ⟨w.heap.size + 1, 1, none⟩ = some (.string s)))
    (first | exact unhide HCS _ (fun b hb => (unhide hbz).block b (by omega)) | exact unhide HCS _ (fun b hb => ((put4_kept w2 (w.heap.size + 1 + 1) _ _ _ _).block b (by have := (unhide hbz).size; omega) (by omega)).trans ((unhide hbz).block b (by omega))))
    (first
      | (go_at_call 33; refine ((unhide HAA) _).mono ?_; rintro e w1 ⟨rfl, hb1⟩; have hbz := hide ((unhide hbz).trans (hb1.mono (unhide hbz).size)); clear hb1)
      | (go_at_call 41; refine ((unhide HGT) _ ((unhide HB0).trans ((unhide hbz).mono (unhide HB0).size))).mono ?_; rintro e w2 ⟨rfl, hb2⟩; have hbz := hide ((unhide hbz).trans (hb2.mono (unhide hbz).size)); have hh := (unhide HK _ (unhide hbz)).2.2; have r0 := cell_of_heap hh 0; have r1 := cell_of_heap hh 1; have r2 := cell_of_heap hh 2; have r3 := cell_of_heap hh 3; have f0 := frozen_of_heap hh 0; have f1 := frozen_of_heap hh 1; have f2 := frozen_of_heap hh 2; have f3 := frozen_of_heap hh 3; clear hb2 hh))
  go_wp2_with fail
  exact bodyPost_ret (v := .agg #[.int .i64 1, .int .i64 V, .string ⟨#[]⟩, .slice none 0 0]) (by simp [results, Tryz.results24, go_sem, r0, r1, r2, r3]) rfl
    ⟨rfl, (unhide HB0).trans ((((((unhide hbz).mono (show w.heap.size ≤ W0.heap.size by omega)).setCell (p := ⟨w.heap.size + 1 + 1, 0, none⟩) (by show w.heap.size ≤ w.heap.size + 1 + 1; omega) _).setCell (p := ⟨w.heap.size + 1 + 1, 1, none⟩) (by show w.heap.size ≤ w.heap.size + 1 + 1; omega) _).setCell (p := ⟨w.heap.size + 1 + 1, 2, none⟩) (by show w.heap.size ≤ w.heap.size + 1 + 1; omega) _).setCell (p := ⟨w.heap.size + 1 + 1, 3, none⟩) (by show w.heap.size ≤ w.heap.size + 1 + 1; omega) _)⟩

set_option maxRecDepth 40000 in
set_option maxHeartbeats 2000000 in
theorem smatch_bin (L : Int) (s : ByteArray) (f W : Nat) (hm : Masks 0 w) (hg : g1 ≠ 1) (hf : f + W ≤ 8 * s.size) (hss : s.size ≤ 1048576) (hW : W ≤ 100000) :
    Calls Tryz.prog 24 #[sgV g1 g2 g3 g4 g5 k m s0 ua ul uc, .agg #[.int .i64 L, .string s], .int .i64 f, .int .i64 W] w
      fun e w' => e = .returned (.agg #[.int .i64 9, .int .i64 0, .string (strB (cutBits s f W)), .slice none 0 0]) ∧ Below w.heap.size w w' := by
  have HCT := hide (fun w' (hb : Below w.heap.size w w') => icut_any L s f W w' (hm.keep hb) hf hss hW)
  generalize strB (cutBits s f W) = S at HCT ⊢
  obtain ⟨W0, hW0⟩ : ∃ W0, W0 = ((w.alloc (sgO g1 g2 g3 g4 g5 k m s0 ua ul uc)).alloc (.cells #[.int .i64 L, .string s] 27)).alloc (.cells #[.int .i64 0, .int .i64 0, .string ⟨#[]⟩, .slice none 0 0] 32) := ⟨_, rfl⟩
  have hb0 : Below w.heap.size w W0 := by rw [hW0]; exact (below_two _ _ _).alloc (by simp; omega) _
  obtain ⟨n0, n1, n2⟩ := three_news w (sgO g1 g2 g3 g4 g5 k m s0 ua ul uc) (.cells #[.int .i64 L, .string s] 27) (.cells #[.int .i64 0, .int .i64 0, .string ⟨#[]⟩, .slice none 0 0] 32)
  rw [← hW0] at n0 n1 n2
  have hs0 : W0.heap.size = w.heap.size + 3 := by rw [hW0]; simp
  have HW := hide hW0
  have hh := fun w' (hb : Below W0.heap.size W0 w') => (hb.block (w.heap.size + 1 + 1) (by omega)).trans n2
  have hg1 : (g1 == 1) = false := by simpa using hg
  have HH := hide hh
  have HB0 := hide hb0
  clear hh hb0 n0 n1 n2 hm hf hss hW hg
  unfold sgV
  go_enter Tryz.func24, Tryz.ntmps24
  go_wp2_with fail
  rw [← unhide HW]
  clear hW0
  refine ((unhide HCT) W0 (unhide HB0)).mono ?_
  rintro e w1 ⟨rfl, hb1⟩
  have hq := unhide HH w1 hb1
  have r0 := cell_of_heap hq 0
  have r1 := cell_of_heap hq 1
  have r2 := cell_of_heap hq 2
  have r3 := cell_of_heap hq 3
  have f0 := frozen_of_heap hq 0
  have f1 := frozen_of_heap hq 1
  have f2 := frozen_of_heap hq 2
  have f3 := frozen_of_heap hq 3
  have hfd := field1
  have HB1 := hide hb1
  clear hq hb1
  go_wp2_with fail
  clear hfd
  exact bodyPost_ret (v := .agg #[.int .i64 9, .int .i64 0, .string S, .slice none 0 0]) (by simp [results, Tryz.results24, go_sem, r0, r1, r2, r3]) rfl
    ⟨rfl, (unhide HB0).trans ((((((unhide HB1).mono (show w.heap.size ≤ W0.heap.size by omega)).setCell (p := ⟨w.heap.size + 1 + 1, 0, none⟩) (by show w.heap.size ≤ w.heap.size + 1 + 1; omega) _).setCell (p := ⟨w.heap.size + 1 + 1, 1, none⟩) (by show w.heap.size ≤ w.heap.size + 1 + 1; omega) _).setCell (p := ⟨w.heap.size + 1 + 1, 2, none⟩) (by show w.heap.size ≤ w.heap.size + 1 + 1; omega) _).setCell (p := ⟨w.heap.size + 1 + 1, 3, none⟩) (by show w.heap.size ≤ w.heap.size + 1 + 1; omega) _)⟩
end

end Go.Proofs.YtcgbonlffcpofaaGreatDoor
/- impl.BitsOK. -/
namespace Go.Proofs.YtcgbonlffcpofaaGreatDoor
open Go.RowKit Go.Deep

set_option maxRecDepth 100000 in
set_option maxHeartbeats 1000000 in
theorem iBOK_any (n : Int) (s : ByteArray) (w : World) (hm : Masks 0 w) (hs : s.size ≤ 1048576) :
    Calls Tryz.prog 21 #[.agg #[.int .i64 n, .string s]] w fun e w' => e = .returned (.bool (okS n s)) ∧ Below w.heap.size w w' := by
  by_cases h1 : n < 0
  · have hr := hide (okS_false (n := n) (s := s) (by unfold okLen; omega))
    clear hm
    go_enter Tryz.func21, Tryz.ntmps21
    go_wp2_with fail
    go_quiet (fail)
    go_wp2_with fail
    go_ret
    exact ⟨by rw [unhide hr]; rfl, below_drewN ((Below.refl w.heap.size w).alloc (Nat.le_refl _) _) _⟩
  by_cases h2 : 32000 < n
  · have hr := hide (okS_false (n := n) (s := s) (by unfold okLen; omega))
    clear hm
    go_enter Tryz.func21, Tryz.ntmps21
    go_wp2_with fail
    go_quiet (fail)
    go_wp2_with fail
    go_ret
    exact ⟨by rw [unhide hr]; rfl, below_drewN ((Below.refl w.heap.size w).alloc (Nat.le_refl _) _) _⟩
  obtain ⟨N, rfl⟩ := Int.eq_ofNat_of_zero_le (show 0 ≤ n by omega)
  have G0 : ∀ x : LaterW (w.heap.size + 1) (w.alloc (.cells #[.int .i64 N, .string s] 27)), x.wd.cell? ⟨w.heap.size, 0, none⟩ = some (.int .i64 N) := fun x => (box2 w _ _ _ x.be).1
  have G1 : ∀ x : LaterW (w.heap.size + 1) (w.alloc (.cells #[.int .i64 N, .string s] 27)), x.wd.cell? ⟨w.heap.size, 1, none⟩ = some (.string s) := fun x => (box2 w _ _ _ x.be).2
  have hbx := (Below.refl w.heap.size w).alloc (Nat.le_refl _) (.cells #[.int .i64 N, .string s] 27)
  have Hbx := hide hbx
  have Hm := hide hm
  have hne : Nonempty (LaterW (w.heap.size + 1) (w.alloc (.cells #[.int .i64 N, .string s] 27))) := ⟨⟨_, Below.refl _ _⟩⟩
  clear hbx hm
  have ha : (decide ((32000 : Int) < N)) = false := by simp; omega
  have hb : (decide ((N : Int) < 0)) = false := by simp
  go_enter Tryz.func21, Tryz.ntmps21
  go_wp2_with fail
  refine wp_region_later (w.heap.size + 1) (by kernel_rfl) (by kernel_rfl) ?_
  repeat (go_big_quiet_step ((go_at_call 36; rename_i x; refine Calls.later (v := .int .i64 (((N : Int) + 7) / 8)) (by simp) (bf_any N _ (by omega) (by omega)))))
  refine wpQuiet_nil ?_
  rintro wq ⟨⟨_, hq⟩, rfl⟩
  clear G0 G1 hne
  obtain ⟨g0, g1⟩ := box2 w _ _ _ hq
  have Hq := hide hq
  clear hq
  by_cases h3 : (s.size : Int) = ((N : Int) + 7) / 8
  · have h3' : ((s.size : Int) != ((N : Int) + 7) / 8) = false := by simp [h3]
    have hr := hide (okS_iff N s ⟨by omega, by omega, h3⟩)
    have H3 := hide h3
    have hle : (N : Int) ≤ 8 * s.size := by omega
    clear h3
    have hss : s.size ≤ 1048576 := hs
    go_wp2_with fail
    rw [h3']
    clear h3'
    go_loopw [3, 28] (fun jv iv wr => ∃ k : Nat, (k : Int) ≤ 8 * s.size - N ∧ iv = .int .i64 k ∧ Hid (∀ i, N ≤ i → i < N + k → bit s i = 0) ∧ Below (w.heap.size + 1) (w.alloc (.cells #[.int .i64 N, .string s] 27)) wr) (fun _ iv _ => 8 * s.size - N - (intOf iv).toNat)
    case atStart => exact ⟨0, by omega, rfl, hide fun i h1 h2 => by omega, unhide Hq⟩
    case round =>
      obtain ⟨k, hk, rfl, hz, hb⟩ := hrel
      obtain ⟨e0, e1⟩ := box2 w _ _ _ hb
      have hsz := hb.size
      simp only [World.size_alloc] at hsz
      clear g0 g1
      by_cases hlt : (k : Int) < 8 * s.size - N
      · have hb0 := (Below.refl w.heap.size w).alloc (Nat.le_refl _) (.cells #[.int .i64 N, .string s] 27) |>.trans (hb.mono (by omega))
        have hI := hide (isSet_any N s (N + k) wr ((unhide Hm).keep hb0) (by omega) (by omega))
        have HB := hide hb
        have HB0 := hide hb0
        clear hb hb0
        go_wp2_with (go_at_call 38; refine (unhide hI).mono ?_; rintro e w1 ⟨rfl, hb1⟩; have HB1 := hide hb1; clear hb1)
        · have h1 : bit s (N + k) = 1 := by assumption
          have hf : okS N s = false := by
            rw [← Bool.not_eq_true, unhide hr]
            intro H
            have := H (N + k) (by omega) (by omega)
            omega
          go_ret
          exact ⟨by rw [hf]; rfl, (unhide HB0).trans ((unhide HB1).mono (unhide HB0).size)⟩
        · have h1 : ¬ bit s (N + k) = 1 := by assumption
          have h0 : bit s (N + k) = 0 := by have := bit_01 s (N + k); omega
          have hz' : Hid (∀ i, N ≤ i → i < N + (k + 1) → bit s i = 0) := hide fun i h1 h2 => by
            by_cases h : i = N + k
            · rw [h]; exact h0
            · exact unhide hz i h1 (by omega)
          clear h0 h1
          go_roundw
          case rel => exact ⟨k + 1, by omega, by go_num, hz', (unhide HB).trans ((unhide HB1).mono (by omega))⟩
          case measure => simp [intOf]; omega
      · have hkn : (k : Int) = 8 * s.size - N := by omega
        have hall : okS N s = true := (unhide hr).2 fun i h1 h2 => unhide hz i h1 (by omega)
        have HA := hide hall
        clear hall hkn
        go_wp2_with fail
        go_ret
        exact ⟨by rw [unhide HA]; rfl, (unhide Hbx).trans (hb.mono (by omega))⟩
  · have h3' : ((s.size : Int) != ((N : Int) + 7) / 8) = true := by simp [h3]
    have hr := hide (okS_false (n := N) (s := s) (by unfold okLen; omega))
    go_wp2_with fail
    go_ret
    exact ⟨by rw [unhide hr]; rfl, (unhide Hbx).trans ((unhide Hq).mono (by omega))⟩

end Go.Proofs.YtcgbonlffcpofaaGreatDoor
