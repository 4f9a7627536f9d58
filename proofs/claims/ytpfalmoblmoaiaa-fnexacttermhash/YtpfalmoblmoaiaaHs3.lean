/- spec's l01Hash, by induction on the depth. -/
import Derived.Test.YtpfalmoblmoaiaaHs2
namespace Go.Proofs.Ytpfalmoblmoaiaa
open Go.RowKit

def HtSaid (n : Nat) : Prop := ∀ (t : Tm n) (c0 c1 c2 c3 : Value) (h : Int) (w : World), TAt (Under w.heap.size) w n t c0 c1 c2 c3 → U32 h →
  Calls Try.prog 41 #[.int .i64 h, .agg #[c0, c1, c2, c3]] w fun e w' => e = .returned (.int .i64 (hashT n t h)) ∧ Below w.heap.size w w'

theorem strOfNums_size (xs : List Int) : (strOfNums xs).size = xs.length := by
  rw [← txtL_length]
  simp only [txtL, List.length_map, strOfNums_data]

theorem ht_steps (h k m : Int) (s : ByteArray) (len : Nat) (hh : U32 h) (hs : s.size ≤ 2 ^ 47) (hl : len ≤ 2 ^ 47) : ∃ B1 B2 B3 B4 : ByteArray,
    (∀ w, Calls Try.prog 62 #[.int .i64 k] w fun e w' => e = .returned (.string B1) ∧ Below w.heap.size w w') ∧
    (∀ w, Calls Try.prog 63 #[.int .i64 (m % 9223372036854775808), .int .i64 8] w fun e w' => e = .returned (.string B2) ∧ Below w.heap.size w w') ∧
    (∀ w, Calls Try.prog 63 #[.int .i64 s.size, .int .i64 2] w fun e w' => e = .returned (.string B3) ∧ Below w.heap.size w w') ∧
    (∀ w, Calls Try.prog 63 #[.int .i64 len, .int .i64 2] w fun e w' => e = .returned (.string B4) ∧ Below w.heap.size w w') ∧
    (∀ w, Calls Try.prog 61 #[.int .i64 h, .string (B1 ++ B2 ++ B3 ++ s ++ B4)] w fun e w' => e = .returned (.int .i64 (hOn h (nodeL k m s len))) ∧ Below w.heap.size w w') ∧
    ¬ 9223372036854775807 < B1.size + B2.size ∧ ¬ 9223372036854775807 < B1.size + B2.size + B3.size ∧ ¬ 9223372036854775807 < B1.size + B2.size + B3.size + s.size ∧ ¬ 9223372036854775807 < B1.size + B2.size + B3.size + s.size + B4.size := by
  refine ⟨_, _, _, _, fun w => byte_any k w, fun w => bytes_any _ 8 w (by omega) (by omega) (by omega), fun w => bytes_any _ 2 w (by omega) (by omega) (by omega), fun w => bytes_any _ 2 w (by omega) (by omega) (by omega), fun w => ?_, ?_⟩
  rotate_left
  · simp only [strOfNums_size, beL_length, List.length_cons, List.length_nil]
    omega
  have e : nodeL k m s len = txtL (strOfNums [k % 256] ++ strOfNums (beL (m % 9223372036854775808) 8) ++ strOfNums (beL s.size 2) ++ s ++ strOfNums (beL len 2)) := by
    rw [txtL_append, txtL_append, txtL_append, txtL_append, txtL_nums _ (by simp; omega), txtL_nums _ (beL_byte _ _), txtL_nums _ (beL_byte _ _), txtL_nums _ (beL_byte _ _)]
    rfl
  rw [e]
  refine hashOn_any h _ w hh ?_
  simp only [ByteArray.size_append, strOfNums_size, beL_length, List.length_cons, List.length_nil]
  omega

theorem mod_neg {m : Int} (h0 : -9223372036854775808 ≤ m) (h : m < 0) : m + 4611686018427387904 + 4611686018427387904 = m % 9223372036854775808 := by omega
theorem mod_pos {m : Int} (h0 : m ≤ 9223372036854775807) (h : 0 ≤ m) : m = m % 9223372036854775808 := by omega

set_option maxRecDepth 40000 in
set_option maxHeartbeats 1000000 in
theorem ht_of {n : Nat} (hn : HtSaid n) : HtSaid (n + 1) := by
  rintro ⟨k, m, s, ks⟩ c0 c1 c2 c3 h w ⟨rfl, rfl, rfl, hk, hm, hs, hks⟩ hh
  rw [hashT_eq]
  obtain ⟨a, cap, rfl, hlen, hcap, hel⟩ := hks
  obtain ⟨B1, B2, B3, B4, s1, s2, s3, s4, s5, z1, z2, z3, z4⟩ := ht_steps h k m s ks.length hh hs (by omega)
  have u5 := hOn_u32 (nodeL k m s ks.length) h hh
  obtain ⟨g5, hg5⟩ : ∃ g, g = hOn h (nodeL k m s ks.length) := ⟨_, rfl⟩
  rw [← hg5] at s5 u5 ⊢
  have S1 := hide s1
  have S2 := hide s2
  have S3 := hide s3
  have S4 := hide s4
  have S5 := hide s5
  have U5 := hide u5
  have HEL := hide hel
  obtain ⟨hm0, hm1⟩ := hm
  clear hg5 hel s1 s2 s3 s4 s5 u5
  by_cases hneg : m < 0
  all_goals
    go_enter Try.func41, Try.ntmps41
    go_wp2_with fail
    obtain ⟨N, hN⟩ : ∃ N, N = m % 9223372036854775808 := ⟨_, rfl⟩
    rw [← hN] at S2
    first
      | (have hq := mod_pos hm1 (by omega); rw [← hN] at hq; rw [← hq] at S2)
      | (have hq := mod_neg hm0 hneg; rw [← hN] at hq; rw [hq])
    clear hq
    obtain ⟨W0, hW0⟩ : ∃ W0, W0 = w.alloc (.cells #[.int .i64 k, .int .i64 m, .string s, .slice a ks.length cap] 26) := ⟨_, rfl⟩
    have hs0 : W0.heap.size = w.heap.size + 1 := by rw [hW0]; simp
    have hb0 : Below w.heap.size w W0 := by rw [hW0]; exact (Below.refl w.heap.size w).alloc (Nat.le_refl _) _
    have g0 : W0.heap[w.heap.size]? = some (.cells #[.int .i64 k, .int .i64 m, .string s, .slice a ks.length cap] 26 (0, 0)) := by rw [hW0]; exact heap_new w _
    rw [← hW0]
    clear hW0 hN
    have hF : ∀ w', Below (w.heap.size + 1) W0 w' → w'.cell? ⟨w.heap.size, 0, none⟩ = some (.int .i64 k) ∧ w'.cell? ⟨w.heap.size, 1, none⟩ = some (.int .i64 m) ∧
        w'.cell? ⟨w.heap.size, 2, none⟩ = some (.string s) ∧ w'.cell? ⟨w.heap.size, 3, none⟩ = some (.slice a ks.length cap) := fun w' hb =>
      have g := (hb.block _ (Nat.lt_succ_self _)).trans g0
      ⟨cell_of_heap g 0, cell_of_heap g 1, cell_of_heap g 2, cell_of_heap g 3⟩
    have hle : w.heap.size + 1 ≤ W0.heap.size := by omega
    have HF := hide hF
    have HB0 := hide hb0
    have F0 : ∀ x : LaterW (w.heap.size + 1) W0, x.wd.cell? ⟨w.heap.size, 0, none⟩ = some (.int .i64 k) := fun x => (hF _ x.be).1
    have F2 : ∀ x : LaterW (w.heap.size + 1) W0, x.wd.cell? ⟨w.heap.size, 2, none⟩ = some (.string s) := fun x => (hF _ x.be).2.2.1
    have F3 : ∀ x : LaterW (w.heap.size + 1) W0, x.wd.cell? ⟨w.heap.size, 3, none⟩ = some (.slice a ks.length cap) := fun x => (hF _ x.be).2.2.2
    clear hF g0 hb0
    haveI hne : Nonempty (LaterW (w.heap.size + 1) W0) := ⟨⟨W0, Below.refl _ _⟩⟩
    refine wp_region_later (w.heap.size + 1) (by kernel_rfl) (by kernel_rfl) ?_
    repeat (go_big_quiet_step (first
      | (go_at_call 62; rename_i x; exact Calls.later' x hle (unhide S1))
      | (go_at_call_of 63 (8 : Int); rename_i x; exact Calls.later' x hle (unhide S2))
      | (go_at_call_of 63 s; rename_i x; exact Calls.later' x hle (unhide S3))
      | (go_at_call_of 63 ks; rename_i x; exact Calls.later' x hle (unhide S4))
      | (go_at_call 61; rename_i x; exact Calls.later' x hle (unhide S5))))
    refine wpQuiet_nil ?_
    rintro w2 ⟨⟨_, hb2⟩, rfl⟩
    have HB2 := hide hb2
    clear F0 F2 F3 hb2 z1 z2 z3 z4
    go_wp2_with fail
    go_loopw [0, 6] (fun hv iv wr => ∃ i : Nat, i ≤ ks.length ∧ iv = .int .i64 i ∧ hv = .int .i64 (hashS (ks.take i) g5) ∧ Below (w.heap.size + 1) W0 wr) (fun _ iv _ => ks.length - (intOf iv).toNat)
    case atStart => exact ⟨0, by omega, rfl, rfl, unhide HB2⟩
    case round =>
      obtain ⟨i, hi, rfl, rfl, hb0⟩ := hrel
      have hb : Below w.heap.size w wr := (unhide HB0).trans (hb0.mono (Nat.le_succ _))
      have hk3 := (unhide HF _ hb0).2.2.2
      have HB := hide hb0
      clear hb0
      by_cases hlt : i < ks.length
      · obtain ⟨b, off, d0, d1, d2, d3, rfl, hS, e0, e1, e2, e3, hr⟩ := unhide HEL i hlt
        obtain ⟨l0, l1, l2, l3, l4, l5, rfl, rfl, rfl, rfl⟩ := hr.shape
        have hbc := bcell hb
        have f0 := (hbc b _ hS).trans e0
        have f1 := (hbc b _ hS).trans e1
        have f2 := (hbc b _ hS).trans e2
        have f3 := (hbc b _ hS).trans e3
        have HT := hide (hashS_take ks g5 i hlt)
        have hu := hide (hashS_u32 (ks.take i) g5 (unhide U5))
        obtain ⟨g, hg⟩ : ∃ g, g = hashS (ks.take i) g5 := ⟨_, rfl⟩
        rw [← hg] at hu ⊢
        have HG := hide hg
        have HR := hide (hr.up hb)
        clear hbc e0 e1 e2 e3 hg hr hb
        go_wp2_with (go_at_call 41; refine (hn _ _ _ _ _ g _ (unhide HR) (unhide hu)).mono ?_; rintro e w3 ⟨rfl, hb3⟩; have HB3 := hide hb3; clear hb3)
        go_roundw
        case rel => exact ⟨i + 1, hlt, by go_num, by rw [unhide HT, ← unhide HG], (unhide HB).trans ((unhide HB3).mono (by have := (unhide HB).size; omega))⟩
        case measure => simp [intOf]; omega
      · have hkk : i = ks.length := by omega
        subst hkk
        rw [List.take_length]
        go_wp2_with fail
        go_ret
        exact ⟨rfl, hb⟩

theorem ht_any : ∀ n, HtSaid n
  | 0 => fun t => t.elim
  | n + 1 => ht_of (ht_any n)

end Go.Proofs.Ytpfalmoblmoaiaa
