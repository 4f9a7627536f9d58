/- toSeg, toSegS: segments over to the program's own. -/
import Derived.Test.YthikciimaegphaaGreatDoorQ24
import Derived.Test.YthikciimaegphaaGreatDoorQ8
namespace Go.Proofs.YthikciimaegphaaGreatDoor
open Go.RowKit

theorem fits_v {w : World} (x y z : Obj) : Below w.heap.size w (((w.alloc x).alloc y).alloc z) := ((below_two w x y)).alloc (by simp; omega) _

set_option maxRecDepth 40000 in
set_option maxHeartbeats 2000000 in
theorem toSeg_any {n : Nat} (g1 g2 g3 : Int) (g4 g5 : Bool) (t : Tm n) (c0 c1 c2 c3 : Value) (w : World) (ht : TAt (Under w.heap.size) w n t c0 c1 c2 c3) (hl : tot n t ≤ 1048576) :
    Calls Tryz.prog 20 #[.agg #[.int .i64 g1, .int .i64 g2, .int .i64 g3, .bool g4, .bool g5, c0, c1, c2, c3]] w fun e w' => ∃ k m s ua ul uc, e = .returned (.agg #[.int .i64 g1, .int .i64 g2, .int .i64 g3, .bool g4, .bool g5, .int .i64 k, .int .i64 m, .string s, .slice ua ul uc]) ∧
      TAt (Fresh w w') w' n t (.int .i64 k) (.int .i64 m) (.string s) (.slice ua ul uc) ∧ Below w.heap.size w w' := by
  obtain ⟨k0, m0, s0, a0, l0, q0, rfl, rfl, rfl, rfl⟩ := ht.shape
  have HT := hide (fun w' (hb : Below w.heap.size w w') => to_any n t _ _ _ _ w' (ht.up hb) hl)
  clear ht
  go_enter Tryz.func20, Tryz.ntmps20
  go_wp2_with fail
  obtain ⟨W3, hW3⟩ : ∃ W3, W3 = (((w.alloc (.cells #[.int .i64 g1, .int .i64 g2, .int .i64 g3, .bool g4, .bool g5, .int .i64 k0, .int .i64 m0, .string s0, .slice a0 l0 q0] 49)).alloc (.cells #[.int .i64 0, .int .i64 0, .int .i64 0, .bool false, .bool false, .int .i64 0, .int .i64 0, .string ⟨#[]⟩, .slice none 0 0] 40)).alloc
    (.cells #[.int .i64 g1, .int .i64 g2, .int .i64 g3, .bool g4, .bool g5, .int .i64 0, .int .i64 0, .string ⟨#[]⟩, .slice none 0 0] 40)) := ⟨_, rfl⟩
  obtain ⟨_, n1, n2⟩ := three_news w (.cells #[.int .i64 g1, .int .i64 g2, .int .i64 g3, .bool g4, .bool g5, .int .i64 k0, .int .i64 m0, .string s0, .slice a0 l0 q0] 49) (.cells #[.int .i64 0, .int .i64 0, .int .i64 0, .bool false, .bool false, .int .i64 0, .int .i64 0, .string ⟨#[]⟩, .slice none 0 0] 40)
    (.cells #[.int .i64 g1, .int .i64 g2, .int .i64 g3, .bool g4, .bool g5, .int .i64 0, .int .i64 0, .string ⟨#[]⟩, .slice none 0 0] 40)
  have hb3 : Below w.heap.size w W3 := by rw [hW3]; exact fits_v _ _ _
  have hs3 : W3.heap.size = w.heap.size + 3 := by rw [hW3]; simp
  rw [← hW3] at n1 n2 ⊢
  clear hW3
  refine ((unhide HT) W3 hb3).mono ?_
  rintro e w1 ⟨d0, d1, d2, d3, rfl, hd, hb1⟩
  obtain ⟨k, m, s, ua, ul, uc, rfl, rfl, rfl, rfl⟩ := hd.shape
  have q1 := (hb1.block (w.heap.size + 1) (by omega)).trans n1
  have q2 := (hb1.block (w.heap.size + 1 + 1) (by omega)).trans n2
  have c1 := cell_of_heap q1
  have c2 := cell_of_heap q2
  have f1 := frozen_of_heap q1
  have f2 := frozen_of_heap q2
  obtain ⟨V1, hV1⟩ : ∃ V1, V1 = setL w1 (w.heap.size + 1 + 1) 5 [.int .i64 k, .int .i64 m, .string s, .slice ua ul uc] := ⟨_, rfl⟩
  obtain ⟨V2, hV2⟩ : ∃ V2, V2 = setL V1 (w.heap.size + 1) 0 [.int .i64 g1, .int .i64 g2, .int .i64 g3, .bool g4, .bool g5, .int .i64 k, .int .i64 m, .string s, .slice ua ul uc] := ⟨_, rfl⟩
  obtain ⟨_, _, p1, p2, p3⟩ := setL_facts (N := 9) (e := 40) [.int .i64 k, .int .i64 m, .string s, .slice ua ul uc] (w := w1) (B := w.heap.size + 1 + 1) (o := 5) ⟨_, q2, rfl⟩ (by simp)
  rw [← hV1] at p1 p2 p3
  obtain ⟨_, _, r1, r2, r3⟩ := setL_facts (N := 9) (e := 40) [.int .i64 g1, .int .i64 g2, .int .i64 g3, .bool g4, .bool g5, .int .i64 k, .int .i64 m, .string s, .slice ua ul uc] (w := V1) (B := w.heap.size + 1) (o := 0) ⟨_, (p2 (w.heap.size + 1) (by omega)).trans q1, rfl⟩ (by simp)
  rw [← hV2] at r1 r2 r3
  have hs1 := hb1.size
  have hT : TAt (Fresh w V2) V2 n t (.int .i64 k) (.int .i64 m) (.string s) (.slice ua ul uc) :=
    (hd.keep fun b hb => (r2 b (by have := hb.1; omega)).trans (p2 b (by have := hb.1; omega))).mono fun b hb => ⟨by have := hb.1; omega, by have := hb.2; omega⟩
  have hB : Below w.heap.size w V2 := ((hb3.trans (hb1.mono (by omega))).trans (p1.mono (by omega))).trans (r1.mono (by omega))
  have HTT := hide hT
  have HB := hide hB
  have HV := hide (hV2.trans (by rw [hV1]))
  clear hT hB p1 p2 p3 r1 r2 r3 hV1 hV2 hd hb1 hb3 n1 n2 q1 q2
  go_wp2_with fail
  have key : ∀ W', W' = V2 → TAt (Fresh w W') W' n t (.int .i64 k) (.int .i64 m) (.string s) (.slice ua ul uc) ∧ Below w.heap.size w W' := fun W' e => by rw [e]; exact ⟨unhide HTT, unhide HB⟩
  refine bodyPost_ret (v := .agg #[.int .i64 g1, .int .i64 g2, .int .i64 g3, .bool g4, .bool g5, .int .i64 k, .int .i64 m, .string s, .slice ua ul uc]) (by simp [results, Tryz.results20, go_sem, c1]) rfl ⟨k, m, s, ua, ul, uc, rfl, key _ ?_⟩
  exact ((unhide HV).trans rfl).symm

def zero9 : Array Value := #[.int .i64 0, .int .i64 0, .int .i64 0, .bool false, .bool false, .int .i64 0, .int .i64 0, .string ⟨#[]⟩, .slice none 0 0]
theorem run_mkSeg (n : Nat) (hn : n ≤ 1048576) (w : World) : (Instr.makeSlice 28 (.int .i64 n) (.int .i64 n)).run Tryz.prog w =
    .ok (.slice (some ⟨w.heap.size, 0, none⟩) n n) (w.alloc (.cells (madeCells zero9 (n * 9)) 40)) := by
  have := run_make (P := Tryz.prog) w 28 40 (Tryz.prog.types[40]!) (.agg zero9) (by kernel_rfl) (by kernel_rfl) (by kernel_rfl) .i64 .i64 n n (by omega) (Int.le_refl _)
    (by rw [show (Tryz.prog.types[40]!).bytes = 88 from by kernel_rfl]; omega) (by omega)
  rw [this, show (Tryz.prog.types[40]!).size = 9 from by kernel_rfl]
  rfl

/-- The first k segments over, in block B. -/
def SegsTo {n : Nat} (B : Nat) (gs : List (SgT n)) (k : Nat) (w wr : World) : Prop := Below B w wr ∧ Row B 40 (gs.length * 9) wr ∧
  ∀ j (hj : j < gs.length), j < k → ∃ ds, ds.length = 9 ∧ (∀ i, i < 9 → wr.cell? ⟨B, j * 9 + i, none⟩ = ds[i]?) ∧ SgAt (fun b => B < b ∧ b < wr.heap.size) wr n gs[j] ds
theorem SegsTo.next {n B k : Nat} {gs : List (SgT n)} {w wr w1 : World} (h : SegsTo B gs k w wr) (hk : k < gs.length) (hb1 : Below wr.heap.size wr w1) {ds : List Value} (hl : ds.length = 9) (hg : SgAt (Fresh wr w1) w1 n gs[k] ds) :
    SegsTo B gs (k + 1) w (setL w1 B (k * 9) ds) := by
  obtain ⟨hb, hrow, hall⟩ := h
  have hrow1 := hrow.keep (hb1.block _ hrow.lt)
  have hm : (k + 1) * 9 ≤ gs.length * 9 := Nat.mul_le_mul_right 9 hk
  obtain ⟨s1, s2, s3, s4, s5⟩ := setL_facts ds hrow1 (o := k * 9) (by omega)
  have hlt := hrow.lt
  refine ⟨(hb.trans (hb1.mono (by omega))).trans s3, s1, fun j hj hjk => ?_⟩
  by_cases hjk2 : j = k
  · subst hjk2
    exact ⟨ds, hl, fun i hi => s2 i (by omega), (hg.keep fun b hb => s4 b (by have := hb.1; omega)).mono fun b hb => ⟨by have := hb.1; omega, by rw [s5]; exact hb.2⟩⟩
  · obtain ⟨es, e1, e2, e3⟩ := hall j hj (by omega)
    have hm2 : (j + 1) * 9 ≤ k * 9 := Nat.mul_le_mul_right 9 (by omega)
    refine ⟨es, e1, fun i hi => ?_, (e3.keep fun b hb => (s4 b (by have := hb.1; omega)).trans (hb1.block b hb.2)).mono fun b hb => ⟨hb.1, by rw [s5]; exact Nat.lt_of_lt_of_le hb.2 hb1.size⟩⟩
    exact (setL_low ds (by omega)).trans ((World.cell?_of_block (w := wr) (hb1.block B hrow.lt)).trans (e2 i hi))

set_option maxRecDepth 40000 in
set_option maxHeartbeats 2000000 in
theorem toSegS_any {n : Nat} (gs : List (SgT n)) (v : Value) (w : World) (hv : SgsAt (Under w.heap.size) w n gs v) (htot : gs.length + totG gs ≤ 1048576) :
    Calls Tryz.prog 7 #[v] w fun e w' => ∃ u, e = .returned u ∧ SgsAt (Fresh w w') w' n gs u ∧ Below w.heap.size w w' := by
  obtain ⟨a, cap, rfl, hcap⟩ : ∃ a cap, v = .slice a gs.length cap ∧ gs.length ≤ 2 ^ 47 := by obtain ⟨a, cap, h, _, h2, _⟩ := hv; exact ⟨a, cap, h, h2⟩
  have hmk := run_mkSeg gs.length (by omega)
  go_enter Tryz.func7, Tryz.ntmps7
  go_wp2_with fail
  clear hmk
  go_loopw [4] (fun iv wr => ∃ k : Nat, k ≤ gs.length ∧ iv = .int .i64 k ∧ SegsTo w.heap.size gs k w wr) (fun iv _ => gs.length - (intOf iv).toNat)
  case atStart =>
    refine ⟨0, by omega, rfl, (Below.refl _ _).alloc (Nat.le_refl _) _, ?_, fun j _ hj => absurd hj (by omega)⟩
    have := Row.new (e := 40) w (madeCells zero9 (gs.length * 9))
    rwa [size_madeCells] at this
  case round =>
    obtain ⟨k, hk, rfl, hto⟩ := hrel
    by_cases hlt : k < gs.length
    · have hb := hto.1
      have hrow := hto.2.1
      obtain ⟨b, off, kk, km, ks, ku, rfl, hS, e0, e1, e2, e3, e4, e5, e6, e7, e8, i1, i2, i3, hr⟩ := (hv.up hb).at k hlt
      have ht : tot n gs[k].2.2.2.2.2 ≤ 1048576 := by
        have := totG_take gs k hlt
        have := totG_le gs (k + 1)
        omega
      have HTO := hide hto
      have hgk : ∃ g1 g2 g3 g4 g5 t, gs[k] = ((g1, g2, g3, g4, g5, t) : SgT n) := ⟨_, _, _, _, _, _, rfl⟩
      obtain ⟨g1, g2, g3, g4, g5, t, hgk⟩ := hgk
      rw [hgk] at e0 e1 e2 e3 e4 hr ht i1 i2 i3
      dsimp only at e0 e1 e2 e3 e4 hr ht i1 i2 i3
      have HC := hide (toSeg_any g1 g2 g3 g4 g5 t _ _ _ _ wr hr ht)
      have HGK := hide hgk
      clear hr hto ht hgk
      go_wp2_with fail
      refine (unhide HC).mono ?_
      rintro e w1 ⟨k1, m1, s1, ua, ul, uc, rfl, hT, hb1⟩
      have hrow1 := hrow.keep (hb1.block _ hrow.lt)
      have hm : (k + 1) * 9 ≤ gs.length * 9 := Nat.mul_le_mul_right 9 hlt
      obtain ⟨v0, x0⟩ := hrow1.cell (o := k * 9) (by omega)
      obtain ⟨v1, x1⟩ := hrow1.cell (o := k * 9 + 1) (by omega)
      obtain ⟨v2, x2⟩ := hrow1.cell (o := k * 9 + 2) (by omega)
      obtain ⟨v3, x3⟩ := hrow1.cell (o := k * 9 + 3) (by omega)
      obtain ⟨v4, x4⟩ := hrow1.cell (o := k * 9 + 4) (by omega)
      obtain ⟨v5, x5⟩ := hrow1.cell (o := k * 9 + 5) (by omega)
      obtain ⟨v6, x6⟩ := hrow1.cell (o := k * 9 + 6) (by omega)
      obtain ⟨v7, x7⟩ := hrow1.cell (o := k * 9 + 7) (by omega)
      obtain ⟨v8, x8⟩ := hrow1.cell (o := k * 9 + 8) (by omega)
      have z := hrow1.frozen
      have key : ∀ W', W' = setL w1 w.heap.size (k * 9) [.int .i64 g1, .int .i64 g2, .int .i64 g3, .bool g4, .bool g5, .int .i64 k1, .int .i64 m1, .string s1, .slice ua ul uc] → SegsTo w.heap.size gs (k + 1) w W' := fun W' e => by
        rw [e]
        exact (unhide HTO).next hlt hb1 rfl ⟨_, _, _, _, by rw [unhide HGK], by rw [unhide HGK]; exact i1, by rw [unhide HGK]; exact i2, by rw [unhide HGK]; exact i3, by rw [unhide HGK]; exact hT⟩
      have KEY := hide key
      clear e0 e1 e2 e3 e4 e5 e6 e7 e8 hT hb1 key hrow1 hb
      go_wp2_with fail
      go_roundw
      case rel => exact ⟨k + 1, hlt, by go_num, unhide KEY _ rfl⟩
      case measure => simp [intOf]; omega
    · have hkk : k = gs.length := by omega
      subst hkk
      obtain ⟨hb, hrow, hall⟩ := hto
      have hlt2 := hrow.lt
      go_wp2_with fail
      go_ret
      refine ⟨_, rfl, ⟨_, _, rfl, Nat.le_refl _, by omega, fun i hi => ?_⟩, hb⟩
      obtain ⟨ds, e1, e2, e3⟩ := hall i hi hi
      exact ⟨_, 0, ds, rfl, ⟨Nat.le_refl _, hlt2⟩, e1, fun j hj => by rw [Nat.zero_add]; exact e2 j hj, e3.mono fun b hb => ⟨by have := hb.1; omega, hb.2⟩⟩

end Go.Proofs.YthikciimaegphaaGreatDoor
/- eqSeg, eqSegS where both are the same segments. -/
namespace Go.Proofs.YthikciimaegphaaGreatDoor
open Go.RowKit

set_option maxRecDepth 40000 in
set_option maxHeartbeats 2000000 in
theorem eqSeg_any {n : Nat} (g1 g2 g3 : Int) (g4 g5 : Bool) (t : Tm n) (c0 c1 c2 c3 d0 d1 d2 d3 : Value) (w : World) (ht : TAt (Under w.heap.size) w n t c0 c1 c2 c3) (hu : TAt (Under w.heap.size) w n t d0 d1 d2 d3) :
    Calls Tryz.prog 26 #[.agg #[.int .i64 g1, .int .i64 g2, .int .i64 g3, .bool g4, .bool g5, c0, c1, c2, c3], .agg #[.int .i64 g1, .int .i64 g2, .int .i64 g3, .bool g4, .bool g5, d0, d1, d2, d3]] w fun e w' => e = .returned (.bool true) ∧ Below w.heap.size w w' := by
  obtain ⟨k0, m0, s0, a0, l0, q0, rfl, rfl, rfl, rfl⟩ := ht.shape
  obtain ⟨k1, m1, s1, a1, l1, q1, rfl, rfl, rfl, rfl⟩ := hu.shape
  have HE := hide (fun w' (hb : Below w.heap.size w w') => eq_any n t _ _ _ _ _ _ _ _ w' (ht.up hb) (hu.up hb))
  have e1 : (g1 != g1) = false := by simp
  have e2 : (g2 != g2) = false := by simp
  have e3 : (g3 != g3) = false := by simp
  have e4 : (g4 != g4) = false := by simp
  have e5 : (g5 != g5) = false := by simp
  clear ht hu
  go_enter Tryz.func26, Tryz.ntmps26
  go_wp2_with fail
  refine ((unhide HE) _ (below_two _ _ _)).mono ?_
  rintro e w' ⟨rfl, hb2⟩
  go_wp2_with fail
  go_ret
  exact ⟨rfl, (below_two _ _ _).trans (hb2.mono (by simp; omega))⟩

set_option maxRecDepth 40000 in
set_option maxHeartbeats 2000000 in
theorem eqSegS_any {n : Nat} (gs : List (SgT n)) (u v : Value) (w : World) (hu : SgsAt (Under w.heap.size) w n gs u) (hv : SgsAt (Under w.heap.size) w n gs v) :
    Calls Tryz.prog 10 #[u, v] w fun e w' => e = .returned (.bool true) ∧ Below w.heap.size w w' := by
  obtain ⟨a, cap, rfl, hcap⟩ : ∃ a cap, u = .slice a gs.length cap ∧ gs.length ≤ 2 ^ 47 := by obtain ⟨a, cap, h, _, h2, _⟩ := hu; exact ⟨a, cap, h, h2⟩
  obtain ⟨a', cap', rfl⟩ : ∃ a cap, v = .slice a gs.length cap := by obtain ⟨a, cap, h, _⟩ := hv; exact ⟨a, cap, h⟩
  have hl1 : ((gs.length : Int) != (gs.length : Int)) = false := by simp
  go_enter Tryz.func10, Tryz.ntmps10
  go_wp2_with fail
  go_loopw [5] (fun iv wr => ∃ k : Nat, k ≤ gs.length ∧ iv = .int .i64 k ∧ Below w.heap.size w wr) (fun iv _ => gs.length - (intOf iv).toNat)
  case atStart => exact ⟨0, by omega, rfl, Below.refl _ _⟩
  case round =>
    obtain ⟨k, hk, rfl, hb⟩ := hrel
    by_cases hlt : k < gs.length
    · have hcu := fun x : LaterW w.heap.size wr => (hu.up (hb.trans x.be)).at k hlt
      have hcv := fun x : LaterW w.heap.size wr => (hv.up (hb.trans x.be)).at k hlt
      obtain ⟨b, off, k1, m1, s1, u1, rfl, hS, e0, e1, e2, e3, e4, e5, e6, e7, e8, i1, i2, i3, ht⟩ := hu.at k hlt
      obtain ⟨b', off', k1', m1', s1', u1', rfl, hS', e0', e1', e2', e3', e4', e5', e6', e7', e8', _, _, _, ht'⟩ := hv.at k hlt
      generalize gs[k] = g at e0 e1 e2 e3 e4 ht i1 i2 i3 e0' e1' e2' e3' e4' ht'
      obtain ⟨g1, g2, g3, g4, g5, t⟩ := g
      dsimp only at e0 e1 e2 e3 e4 ht i1 i2 i3 e0' e1' e2' e3' e4' ht'
      have cc := fun (x : LaterW w.heap.size wr) (b o : Nat) (hS : Under w.heap.size b) => (bcell (hb.trans x.be)) b o hS
      have F0 := fun x => (cc x b _ hS).trans e0
      have F1 := fun x => (cc x b _ hS).trans e1
      have F2 := fun x => (cc x b _ hS).trans e2
      have F3 := fun x => (cc x b _ hS).trans e3
      have F4 := fun x => (cc x b _ hS).trans e4
      have F5 := fun x => (cc x b _ hS).trans e5
      have F6 := fun x => (cc x b _ hS).trans e6
      have F7 := fun x => (cc x b _ hS).trans e7
      have F8 := fun x => (cc x b _ hS).trans e8
      have G0 := fun x => (cc x b' _ hS').trans e0'
      have G1 := fun x => (cc x b' _ hS').trans e1'
      have G2 := fun x => (cc x b' _ hS').trans e2'
      have G3 := fun x => (cc x b' _ hS').trans e3'
      have G4 := fun x => (cc x b' _ hS').trans e4'
      have G5 := fun x => (cc x b' _ hS').trans e5'
      have G6 := fun x => (cc x b' _ hS').trans e6'
      have G7 := fun x => (cc x b' _ hS').trans e7'
      have G8 := fun x => (cc x b' _ hS').trans e8'
      clear e0 e1 e2 e3 e4 e5 e6 e7 e8 e0' e1' e2' e3' e4' e5' e6' e7' e8' hcu hcv cc
      go_wp2_with fail
      haveI hne : Nonempty (LaterW w.heap.size wr) := ⟨⟨wr, Below.refl _ _⟩⟩
      refine wp_region_later w.heap.size (by kernel_rfl) (by kernel_rfl) ?_
      repeat (go_big_quiet_step ((go_at_call 26; rename_i x; refine Calls.later (v := .bool true) hb.size (eqSeg_any g1 g2 g3 g4 g5 t _ _ _ _ _ _ _ _ _ (ht.up (hb.trans x.be)) (ht'.up (hb.trans x.be))))))
      refine wpQuiet_nil ?_
      rintro _ ⟨⟨wq, hq⟩, rfl⟩
      go_wp2_with fail
      go_roundw
      case rel => exact ⟨k + 1, hlt, by go_num, hb.trans hq⟩
      case measure => simp [intOf]; omega
    · go_wp2_with fail
      go_ret
      exact ⟨rfl, hb⟩

end Go.Proofs.YthikciimaegphaaGreatDoor
