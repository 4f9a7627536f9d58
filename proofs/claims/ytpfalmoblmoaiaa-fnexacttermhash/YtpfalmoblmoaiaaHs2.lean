/- impl's addTerm, by induction on the depth. -/
import Derived.Test.YtpfalmoblmoaiaaHs1
import Derived.Test.YtpfalmoblmoaiaaEq
import Derived.Deep.RegionWith
namespace Go.Proofs.Ytpfalmoblmoaiaa
open Go.RowKit

def HsSaid (n : Nat) : Prop := ∀ (t : Tm n) (c0 c1 c2 c3 : Value) (h : Int) (w : World), TAt (Under w.heap.size) w n t c0 c1 c2 c3 → U32 h →
  Calls Try.prog 43 #[.int .u32 h, .agg #[c0, c1, c2, c3]] w fun e w' => e = .returned (.int .u32 (hashT n t h)) ∧ Below w.heap.size w w'

theorem Calls.later' {P : Program} {f : FuncId} {args : Array Value} {B : Nat} {w : World} (x : LaterW B w) {v : Value} (hB : B ≤ w.heap.size)
    (h : ∀ w, Calls P f args w fun e w' => e = .returned v ∧ Below w.heap.size w w') : Calls P f args x.wd fun e w'' => e = .returned v ∧ ∃ y : LaterW B w, w'' = y.wd :=
  Calls.later hB (h x.wd)

theorem hs_steps (h k m : Int) (s : ByteArray) (len : Nat) (hh : U32 h) (hs : s.size ≤ 9223372036854775807) : ∃ g1 g2 g3 g4 : Int,
    (∀ w, Calls Try.prog 64 #[.int .u32 h, .int .u8 (k % 256)] w fun e w' => e = .returned (.int .u32 g1) ∧ Below w.heap.size w w') ∧
    (∀ w, Calls Try.prog 65 #[.int .u32 g1, .int .i64 (m % 9223372036854775808), .int .i64 8] w fun e w' => e = .returned (.int .u32 g2) ∧ Below w.heap.size w w') ∧
    (∀ w, Calls Try.prog 65 #[.int .u32 g2, .int .i64 s.size, .int .i64 2] w fun e w' => e = .returned (.int .u32 g3) ∧ Below w.heap.size w w') ∧
    (∀ w, Calls Try.prog 66 #[.int .u32 g3, .string s] w fun e w' => e = .returned (.int .u32 g4) ∧ Below w.heap.size w w') ∧
    (∀ w, Calls Try.prog 65 #[.int .u32 g4, .int .i64 len, .int .i64 2] w fun e w' => e = .returned (.int .u32 (hOn h (nodeL k m s len))) ∧ Below w.heap.size w w') := by
  have u1 : U32 ((h * 33 + k % 256) % 4294967296) := ⟨by omega, by omega⟩
  have u2 := hOn_u32 (beL (m % 9223372036854775808) 8) _ u1
  have u3 := hOn_u32 (beL s.size 2) _ u2
  have u4 := hOn_u32 (txtL s) _ u3
  refine ⟨_, _, _, _, fun w => add_any h _ w hh (by omega) (by omega), fun w => addNumber_any _ _ 8 w u1 (by omega), fun w => addNumber_any _ _ 2 w u2 (by omega),
    fun w => addText_any _ s w u3 hs, fun w => ?_⟩
  have e : hOn h (nodeL k m s len) = hOn (hOn (hOn (hOn ((h * 33 + k % 256) % 4294967296) (beL (m % 9223372036854775808) 8)) (beL s.size 2)) (txtL s)) (beL len 2) := by
    unfold nodeL
    rw [hOn_append, hOn_append, hOn_append, hOn_append, hOn_one]
  rw [e]
  exact addNumber_any _ _ 2 w u4 (by omega)

theorem and_max (m : Int) : bits BinOp.and IntKind.i64 m 9223372036854775807 = m % 9223372036854775808 := by
  show IntKind.i64.wrap ((BitVec.ofInt 64 m &&& BitVec.ofInt 64 9223372036854775807).toNat : Int) = _
  have h2 : (BitVec.ofInt 64 9223372036854775807).toNat = 2 ^ 63 - 1 := by decide +kernel
  rw [BitVec.toNat_and, h2, Nat.and_two_pow_sub_one_eq_mod, BitVec.toNat_ofInt, IntKind.wrap_i64]
  omega

set_option maxHeartbeats 1000000 in
theorem hs_of {n : Nat} (hn : HsSaid n) : HsSaid (n + 1) := by
  rintro ⟨k, m, s, ks⟩ c0 c1 c2 c3 h w ⟨rfl, rfl, rfl, hk, hm, hs, hks⟩ hh
  rw [hashT_eq]
  obtain ⟨a, cap, rfl, hlen, hcap, hel⟩ := hks
  obtain ⟨g1, g2, g3, g4, s1, s2, s3, s4, s5⟩ := hs_steps h k m s ks.length hh (by omega)
  have u5 := hOn_u32 (nodeL k m s ks.length) h hh
  obtain ⟨g5, hg5⟩ : ∃ g, g = hOn h (nodeL k m s ks.length) := ⟨_, rfl⟩
  rw [← hg5] at s5 u5 ⊢
  have S1 := hide s1
  have S2 := hide s2
  have S3 := hide s3
  have S4 := hide s4
  have S5 := hide s5
  have U5 := hide u5
  have HEL := hide hel
  clear hg5 hel s1 s2 s3 s4 s5 u5
  go_enter Try.func43, Try.ntmps43
  go_wp2_with fail
  obtain ⟨W0, hW0⟩ : ∃ W0, W0 = w.alloc (.cells #[.int .i64 k, .int .i64 m, .string s, .slice a ks.length cap] 26) := ⟨_, rfl⟩
  have hs0 : W0.heap.size = w.heap.size + 1 := by rw [hW0]; simp
  have hb0 : Below w.heap.size w W0 := by rw [hW0]; exact (Below.refl w.heap.size w).alloc (Nat.le_refl _) _
  have g0 : W0.heap[w.heap.size]? = some (.cells #[.int .i64 k, .int .i64 m, .string s, .slice a ks.length cap] 26 (0, 0)) := by rw [hW0]; exact heap_new w _
  rw [← hW0]
  clear hW0
  have hF : ∀ w', Below (w.heap.size + 1) W0 w' → w'.cell? ⟨w.heap.size, 0, none⟩ = some (.int .i64 k) ∧ w'.cell? ⟨w.heap.size, 1, none⟩ = some (.int .i64 m) ∧
      w'.cell? ⟨w.heap.size, 2, none⟩ = some (.string s) ∧ w'.cell? ⟨w.heap.size, 3, none⟩ = some (.slice a ks.length cap) := fun w' hb =>
    have g := (hb.block _ (Nat.lt_succ_self _)).trans g0
    ⟨cell_of_heap g 0, cell_of_heap g 1, cell_of_heap g 2, cell_of_heap g 3⟩
  have hle : w.heap.size + 1 ≤ W0.heap.size := by omega
  have HF := hide hF
  have HB0 := hide hb0
  have F0 : ∀ x : LaterW (w.heap.size + 1) W0, x.wd.cell? ⟨w.heap.size, 0, none⟩ = some (.int .i64 k) := fun x => (hF _ x.be).1
  have F1 : ∀ x : LaterW (w.heap.size + 1) W0, x.wd.cell? ⟨w.heap.size, 1, none⟩ = some (.int .i64 m) := fun x => (hF _ x.be).2.1
  clear hF g0 hb0
  haveI hne : Nonempty (LaterW (w.heap.size + 1) W0) := ⟨⟨W0, Below.refl _ _⟩⟩
  refine wp_region_later (w.heap.size + 1) (by kernel_rfl) (by kernel_rfl) ?_
  repeat (go_big_quiet_step (first
    | (go_at_call 64; rename_i x; exact Calls.later' x hle (unhide S1))
    | (go_at_call 65; rename_i x; have hx := (unhide S2); rw [← and_max] at hx; exact Calls.later' x hle hx)))
  refine wpQuiet_nil ?_
  rintro w1 ⟨⟨_, hb1⟩, rfl⟩
  have F2 : ∀ x : LaterW (w.heap.size + 1) w1, x.wd.cell? ⟨w.heap.size, 2, none⟩ = some (.string s) := fun x => (unhide HF _ (hb1.trans x.be)).2.2.1
  have F3 : ∀ x : LaterW (w.heap.size + 1) w1, x.wd.cell? ⟨w.heap.size, 3, none⟩ = some (.slice a ks.length cap) := fun x => (unhide HF _ (hb1.trans x.be)).2.2.2
  have hle1 : w.heap.size + 1 ≤ w1.heap.size := by have := hb1.size; omega
  have HB1 := hide hb1
  clear F0 F1 hb1
  haveI hne1 : Nonempty (LaterW (w.heap.size + 1) w1) := ⟨⟨w1, Below.refl _ _⟩⟩
  go_wp2_with fail
  refine wp_region_later (w.heap.size + 1) (by kernel_rfl) (by kernel_rfl) ?_
  repeat (go_big_quiet_step (first
    | (go_at_call_of 65 g2; rename_i x; exact Calls.later' x hle1 (unhide S3))
    | (go_at_call_of 65 g4; rename_i x; exact Calls.later' x hle1 (unhide S5))
    | (go_at_call 66; rename_i x; exact Calls.later' x hle1 (unhide S4))))
  refine wpQuiet_nil ?_
  rintro w2 ⟨⟨_, hb2⟩, rfl⟩
  have HB2 := hide ((unhide HB1).trans hb2)
  have f3 := (unhide HF _ (unhide HB2)).2.2.2
  have HW2 := hide ((unhide HB0).trans ((unhide HB2).mono (Nat.le_succ _)))
  clear F2 F3 hb2
  go_wp2_with fail
  clear f3
  go_loopw [0, 31] (fun hv iv wr => ∃ i : Nat, i ≤ ks.length ∧ iv = .int .i64 i ∧ hv = .int .u32 (hashS (ks.take i) g5) ∧ Below w.heap.size w wr) (fun _ iv _ => ks.length - (intOf iv).toNat)
  case atStart => exact ⟨0, by omega, rfl, rfl, unhide HW2⟩
  case round =>
    obtain ⟨i, hi, rfl, rfl, hb⟩ := hrel
    by_cases hlt : i < ks.length
    · obtain ⟨b, off, d0, d1, d2, d3, rfl, hS, e0, e1, e2, e3, hr⟩ := unhide HEL i hlt
      obtain ⟨l0, l1, l2, l3, l4, l5, rfl, rfl, rfl, rfl⟩ := hr.shape
      have hbc := bcell hb
      have f0 := (hbc b _ hS).trans e0
      have f1 := (hbc b _ hS).trans e1
      have f2 := (hbc b _ hS).trans e2
      have f3 := (hbc b _ hS).trans e3
      have HT := hide (hashS_take ks g5 i hlt)
      have hu := hide (hashS_u32 (ks.take i) g5 (unhide U5))
      obtain ⟨g, hg⟩ : ∃ g, g = hashS (ks.take i) g5 := ⟨_, rfl⟩
      rw [← hg] at hu ⊢
      have HG := hide hg
      have HR := hide hr
      have HB := hide hb
      clear hbc e0 e1 e2 e3 hg hr hb
      go_wp2_with (go_at_call 43; refine (hn _ _ _ _ _ g _ (((unhide HR).up (unhide HB)).up ((Below.refl _ _).alloc (Nat.le_refl _) _)) (unhide hu)).mono ?_; rintro e w3 ⟨rfl, hb3⟩; have HB3 := hide hb3; clear hb3)
      go_roundw
      case rel => exact ⟨i + 1, hlt, by go_num, by rw [unhide HT, ← unhide HG], ((unhide HB).alloc (unhide HB).size _).trans ((unhide HB3).mono (by have := (unhide HB).size; simp; omega))⟩
      case measure => simp [intOf]; omega
    · have hkk : i = ks.length := by omega
      subst hkk
      rw [List.take_length]
      go_wp2_with fail
      go_ret
      exact ⟨rfl, hb⟩

theorem hs_any : ∀ n, HsSaid n
  | 0 => fun t => t.elim
  | n + 1 => hs_of (hs_any n)

end Go.Proofs.Ytpfalmoblmoaiaa
