/- spec's l01With, as a function of the terms. -/
import Derived.Test.YtcgbonlffcpofaaGreatDoorDw3h
namespace Go.Proofs.YtcgbonlffcpofaaGreatDoor
open Go.RowKit Go.Deep

section
variable {n : Nat}
def withM (t1 t2 a : Tm n) (s : List (Tm n) × Bool) : List (Tm n) × Bool := if s.2 = false ∧ cmpT n n t1 a ≤ 0 then (s.1 ++ [t1, t2], true) else s
def withN (t1 t2 a b : Tm n) (s : List (Tm n) × Bool) : List (Tm n) × Bool := if cmpT n n t1 a = 0 then withM t1 t2 a s else ((withM t1 t2 a s).1 ++ [a, b], (withM t1 t2 a s).2)
def withF (t1 t2 : Tm n) (ks : List (Tm n)) : Nat → List (Tm n) × Bool
  | 0 => ([], false)
  | j + 1 => withN t1 t2 (ks.getD (2 * j) t1) (ks.getD (2 * j + 1) t1) (withF t1 t2 ks j)
def withR (t1 t2 : Tm n) (ks : List (Tm n)) (p : Nat) : List (Tm n) := if (withF t1 t2 ks p).2 = true then (withF t1 t2 ks p).1 else (withF t1 t2 ks p).1 ++ [t1, t2]
variable {t1 t2 a : Tm n} {s : List (Tm n) × Bool} {ls ks : List (Tm n)} {b : Bool} {j p : Nat}
theorem withM_put (h : s = (ls, false)) (hz : cmpT n n t1 a ≤ 0) : withM t1 t2 a s = (ls ++ [t1, t2], true) := by subst h; exact if_pos ⟨rfl, hz⟩
theorem withM_had (h : s = (ls, true)) : withM t1 t2 a s = (ls, true) := by subst h; exact if_neg fun g => by cases g.1
theorem withM_not (h : s = (ls, b)) (hz : ¬ cmpT n n t1 a ≤ 0) : withM t1 t2 a s = (ls, b) := by subst h; exact if_neg fun g => hz g.2
theorem withR_yes (h : withF t1 t2 ks p = (ls, true)) : ls = withR t1 t2 ks p := by unfold withR; rw [h]; rfl
theorem withR_no (h : withF t1 t2 ks p = (ls, false)) : ls ++ [t1, t2] = withR t1 t2 ks p := by unfold withR; rw [h]; rfl
theorem getD_at {i : Nat} (h : i < ks.length) (d : Tm n) : ks.getD i d = ks[i] := by rw [List.getD_eq_getElem?_getD, List.getElem?_eq_getElem h]; rfl
theorem withF_same (h : 2 * j + 1 < ks.length) (hz : cmpT n n t1 (ks[2 * j]'(by omega)) = 0) (hM : withM t1 t2 (ks[2 * j]'(by omega)) (withF t1 t2 ks j) = (ls, b)) : withF t1 t2 ks (j + 1) = (ls, b) := by
  show withN t1 t2 (ks.getD (2 * j) t1) (ks.getD (2 * j + 1) t1) (withF t1 t2 ks j) = _
  rw [getD_at (by omega), getD_at h]
  exact (if_pos hz).trans hM
theorem withF_more (h : 2 * j + 1 < ks.length) (hz : ¬ cmpT n n t1 (ks[2 * j]'(by omega)) = 0) (hM : withM t1 t2 (ks[2 * j]'(by omega)) (withF t1 t2 ks j) = (ls, b)) :
    withF t1 t2 ks (j + 1) = (ls ++ [ks[2 * j]'(by omega), ks[2 * j + 1]], b) := by
  show withN t1 t2 (ks.getD (2 * j) t1) (ks.getD (2 * j + 1) t1) (withF t1 t2 ks j) = _
  rw [getD_at (by omega), getD_at h]
  exact (if_neg hz).trans (by rw [hM])
end

/-- The row under way, and whether the pair was put. -/
def WithInvD {n : Nat} (base : Nat) (W0 : World) (j : Nat) (s : List (Tm n) × Bool) (v put : Value) (wr : World) : Prop :=
  ∃ (ls : List (Tm n)) (xs : List Value) (q : Nat) (b : Bool), s = (ls, b) ∧ put = .bool b ∧ ls.length = 2 * q ∧ q ≤ j + b.toNat ∧ RowsX base wr ls v xs ∧ Below W0.heap.size W0 wr ∧ (∀ k, v.ownBlock = some k → W0.heap.size ≤ k)

/-- What l01With ends in. -/
def WithEndD {n : Nat} (t1 t2 : Tm n) (ks : List (Tm n)) (base p : Nat) (e : Ending) (w' : World) : Prop :=
  ∃ (q : Nat) (ls : List (Tm n)) (v : Value) (xs : List Value), e = .returned v ∧ ls = withR t1 t2 ks p ∧ ls.length = 2 * q ∧ q ≤ p + 1 ∧ RowsX base w' ls v xs

set_option maxRecDepth 100000 in
set_option maxHeartbeats 4000000 in
theorem withD_any {n : Nat} (base : Nat) (ks : List (Tm n)) (p : Nat) (hp : ks.length = 2 * p) (hp1 : p ≤ 1000) (u : Value) (t1 t2 : Tm n) (c0 c1 c2 c3 d0 d1 d2 d3 : Value) (w : World)
    (hks : SAt (From base w) w (TAt (From base w) w n) ks u) (h1 : TAt (From base w) w n t1 c0 c1 c2 c3) (h2 : TAt (From base w) w n t2 d0 d1 d2 d3) (hbase : base ≤ w.heap.size) :
    Calls Tryz.prog 57 #[u, .agg #[c0, c1, c2, c3], .agg #[d0, d1, d2, d3]] w fun e w' =>
      WithEndD t1 t2 ks base p e w' ∧ Below w.heap.size w w' := by
  obtain ⟨k0, k1, k2, k3, k4, k5, rfl, rfl, rfl, rfl⟩ := h1.shape
  obtain ⟨l0, l1, l2, l3, l4, l5, rfl, rfl, rfl, rfl⟩ := h2.shape
  obtain ⟨a, cap, rfl, hlen, hcap, hel⟩ := id hks
  obtain ⟨W0, hW0⟩ : ∃ W0, W0 = (w.alloc (.cells #[.int .i64 k0, .int .i64 k1, .string k2, .slice k3 k4 k5] 32)).alloc (.cells #[.int .i64 l0, .int .i64 l1, .string l2, .slice l3 l4 l5] 32) := ⟨_, rfl⟩
  have hs0 : W0.heap.size = w.heap.size + 2 := by rw [hW0]; simp
  have hb0 : Below w.heap.size w W0 := by rw [hW0]; exact ((Below.refl w.heap.size w).alloc (Nat.le_refl _) _).alloc (by simp) _
  have HW0 := hide hW0
  have HKS := hide hks
  have HH1 := hide h1
  have HH2 := hide h2
  have HEL := hide hel
  have HP := hide hp
  clear hks h1 h2 hel hp
  go_enter Tryz.func57, Tryz.ntmps57
  go_wp2_with fail
  rw [← unhide HW0]
  clear hW0
  have hbx : ∀ wr, Below W0.heap.size W0 wr → (wr.cell? ⟨w.heap.size, 0, none⟩ = some (.int .i64 k0) ∧ wr.cell? ⟨w.heap.size, 1, none⟩ = some (.int .i64 k1) ∧ wr.cell? ⟨w.heap.size, 2, none⟩ = some (.string k2) ∧ wr.cell? ⟨w.heap.size, 3, none⟩ = some (.slice k3 k4 k5)) ∧
      (wr.cell? ⟨w.heap.size + 1, 0, none⟩ = some (.int .i64 l0) ∧ wr.cell? ⟨w.heap.size + 1, 1, none⟩ = some (.int .i64 l1) ∧ wr.cell? ⟨w.heap.size + 1, 2, none⟩ = some (.string l2) ∧ wr.cell? ⟨w.heap.size + 1, 3, none⟩ = some (.slice l3 l4 l5)) := fun wr hb => by
    have g0 : W0.heap[w.heap.size]? = some (.cells #[.int .i64 k0, .int .i64 k1, .string k2, .slice k3 k4 k5] 32 (0, 0)) := by rw [unhide HW0, Below.heap_alloc _ _ _ (by simp)]; exact heap_new w _
    have g1 : W0.heap[w.heap.size + 1]? = some (.cells #[.int .i64 l0, .int .i64 l1, .string l2, .slice l3 l4 l5] 32 (0, 0)) := by
      rw [unhide HW0]
      have := heap_new (w.alloc (.cells #[.int .i64 k0, .int .i64 k1, .string k2, .slice k3 k4 k5] 32)) (.cells #[.int .i64 l0, .int .i64 l1, .string l2, .slice l3 l4 l5] 32)
      simpa using this
    have e0 := (hb.block _ (by omega)).trans g0
    have e1 := (hb.block _ (by omega)).trans g1
    exact ⟨⟨cell_of_heap e0 0, cell_of_heap e0 1, cell_of_heap e0 2, cell_of_heap e0 3⟩, ⟨cell_of_heap e1 0, cell_of_heap e1 1, cell_of_heap e1 2, cell_of_heap e1 3⟩⟩
  have HBX := hide hbx
  have HB0 := hide hb0
  clear hbx hb0
  go_loopw [7, 8, 9] (fun ov pv iv wr => ∃ j : Nat, j ≤ p ∧ iv = .int .i64 (2 * (j : Int)) ∧ WithInvD base W0 j (withF t1 t2 ks j) ov pv wr) (fun _ _ iv _ => 2 * p + 2 - (intOf iv).toNat)
  case atStart =>
    refine ⟨0, Nat.zero_le _, rfl, [], [], 0, false, rfl, rfl, rfl, Nat.le_refl _, ⟨?_, CellsAt.nil⟩, (Below.refl _ _).alloc (Nat.le_refl _) _, fun k hk => ?_⟩
    · rw [show w.heap.size + 1 + 1 = W0.heap.size by omega]; exact World.ownsRow_lit (base := base) W0 #[] 0 (by omega) (by unfold maxLen; omega) (by simp)
    · simp [Value.ownBlock] at hk; omega
  case round =>
    obtain ⟨j, hj, rfl, ls, xs, q, b, hF, rfl, hl, hq, hX, hB, hown⟩ := hrel
    have HF := hide hF
    clear hF
    have HX := hide hX
    have HB := hide hB
    have HO := hide hown
    clear hX hB hown
    by_cases hlt : j < p
    case neg =>
      obtain rfl : j = p := by omega
      obtain ⟨⟨p0, p1, p2, p3⟩, ⟨r0, r1, r2, r3⟩⟩ := unhide HBX wr (unhide HB)
      have hlen' : ¬ 2 * (j : Int) < (ks.length : Int) := by have := unhide HP; omega
      cases b with
      | true =>
        have hq : q ≤ j + 1 := hq
        go_wp2_with fail
        go_ret
        exact ⟨⟨q, ls, _, xs, rfl, withR_yes (unhide HF), hl, hq, unhide HX⟩, (unhide HB0).trans ((unhide HB).mono (unhide HB0).size)⟩
      | false =>
        have hq : q ≤ j := hq
        obtain ⟨R, cp, w2, hr, hX2, hB2, hR2⟩ := with_push hl (by omega) (unhide HX) (unhide HB) (unhide HO) (by omega) (((unhide HH1).below (unhide HB0) fun b hb => hb.2).mono fun b hb => ⟨hb.1, Nat.lt_of_lt_of_le hb.2 (unhide HB0).size⟩)
          (((unhide HH2).below (unhide HB0) fun b hb => hb.2).mono fun b hb => ⟨hb.1, Nat.lt_of_lt_of_le hb.2 (unhide HB0).size⟩) 30 (wr.alloc _) ⟨rfl, rfl, rfl, rfl⟩
        have HR := hide hr
        have HX2 := hide hX2
        have HB2 := hide hB2
        clear hr hX2 hB2
        go_wp2_with (at_builtin; refine Go.Lib.wpList_append_run _ rfl (.tmp 51) (.tmp 54) 30 30 rfl _ _ rfl rfl _ _ (unhide HR) ?_)
        go_ret
        exact ⟨⟨q + 1, ls ++ [t1, t2], _, _, rfl, withR_no (unhide HF), by rw [List.length_append, hl]; rfl, by omega, unhide HX2⟩, (unhide HB0).trans ((unhide HB2).mono (unhide HB0).size)⟩
    case pos =>
      obtain ⟨bb, off, e0, e1, e2, e3, rfl, hS, x0, x1, x2, x3, ht⟩ := unhide HEL (2 * j) (by rw [unhide HP]; omega)
      obtain ⟨bb', off', f0, f1, f2, f3, hbe, hS', y0, y1, y2, y3, ht'⟩ := unhide HEL (2 * j + 1) (by rw [unhide HP]; omega)
      simp at hbe
      obtain ⟨rfl, rfl⟩ := hbe
      obtain ⟨⟨p0, p1, p2, p3⟩, ⟨r0, r1, r2, r3⟩⟩ := unhide HBX wr (unhide HB)
      have hlen' : 2 * (j : Int) < (ks.length : Int) := by have := unhide HP; omega
      have hbw : Below w.heap.size w wr := (unhide HB0).trans ((unhide HB).mono (unhide HB0).size)
      obtain ⟨P1, P2, P3, P4, P5, P6, rfl, rfl, rfl, rfl⟩ := ht.shape
      obtain ⟨S1, S2, S3, S4, S5, S6, rfl, rfl, rfl, rfl⟩ := ht'.shape
      have Hbw := hide hbw
      have HT := hide ht
      have HT' := hide ht'
      have HX0 := hide x0
      have HX1 := hide x1
      have HX2 := hide x2
      have HX3 := hide x3
      have HY0 := hide y0
      have HY1 := hide y1
      have HY2 := hide y2
      have HY3 := hide y3
      have hwl : ∀ x : LaterW wr.heap.size wr, Below w.heap.size w x.wd := fun x => hbw.trans (x.be.mono hbw.size)
      have hcx := fun (x : LaterW wr.heap.size wr) (b o : Nat) (hb : b < w.heap.size) => (bcell (hwl x)) b o hb
      have F0 := fun x => (hcx x bb (off + (2 * j) * 4) hS.2).trans x0
      have F1 := fun x => (hcx x bb (off + (2 * j) * 4 + 1) hS.2).trans x1
      have F2 := fun x => (hcx x bb (off + (2 * j) * 4 + 2) hS.2).trans x2
      have F3 := fun x => (hcx x bb (off + (2 * j) * 4 + 3) hS.2).trans x3
      have G0 := fun x : LaterW wr.heap.size wr => (unhide HBX x.wd ((unhide HB).trans (x.be.mono (unhide HB).size))).1.1
      have G1 := fun x : LaterW wr.heap.size wr => (unhide HBX x.wd ((unhide HB).trans (x.be.mono (unhide HB).size))).1.2.1
      have G2 := fun x : LaterW wr.heap.size wr => (unhide HBX x.wd ((unhide HB).trans (x.be.mono (unhide HB).size))).1.2.2.1
      have G3 := fun x : LaterW wr.heap.size wr => (unhide HBX x.wd ((unhide HB).trans (x.be.mono (unhide HB).size))).1.2.2.2
      have HWL := hide hwl
      clear hcx hwl hbw ht ht' x0 x1 x2 x3 y0 y1 y2 y3 p0 p1 p2 p3 r0 r1 r2 r3
      go_wp2_with fail
      haveI hne : Nonempty (LaterW wr.heap.size wr) := ⟨⟨wr, Below.refl _ _⟩⟩
      refine wp_region_later wr.heap.size (by kernel_rfl) (by kernel_rfl) ?_
      repeat (go_big_quiet_step ((go_at_call 47; rename_i x; refine Calls.later (v := .int .i64 (cmpT n n t1 ks[2 * j])) (Nat.le_refl _) (cmp_any n n _ _ _ _ _ _ _ _ _ _ _ ((((unhide HH1).below (unhide HWL x) fun b hb => hb.2).mono fun b hb => Nat.lt_of_lt_of_le hb.2 (unhide HWL x).size)) ((((unhide HT).below (unhide HWL x) fun b hb => hb.2).mono fun b hb => Nat.lt_of_lt_of_le hb.2 (unhide HWL x).size))))))
      refine wpQuiet_nil ?_
      rintro wq ⟨⟨_, hbq⟩, rfl⟩
      obtain ⟨z, hz⟩ : ∃ z, z = cmpT n n t1 ks[2 * j] := ⟨_, rfl⟩
      rw [← hz]
      have HZC := hide hz
      clear hz F0 F1 F2 F3 G0 G1 G2 G3 hne
      have hX := (unhide HX).up hbq
      have hB := (unhide HB).trans (hbq.mono (unhide HB).size)
      obtain ⟨⟨p0, p1, p2, p3⟩, ⟨r0, r1, r2, r3⟩⟩ := unhide HBX wq hB
      have HXq := hide hX
      have HBq := hide hB
      clear hX hB
      have hpush := fun (hq2 : q ≤ 5000) => with_push hl hq2 (unhide HXq) (unhide HBq) (unhide HO) (by omega) (((unhide HH1).below (unhide HB0) fun b hb => hb.2).mono fun b hb => ⟨hb.1, Nat.lt_of_lt_of_le hb.2 (unhide HB0).size⟩)
        (((unhide HH2).below (unhide HB0) fun b hb => hb.2).mono fun b hb => ⟨hb.1, Nat.lt_of_lt_of_le hb.2 (unhide HB0).size⟩) 30 (wq.alloc _) ⟨rfl, rfl, rfl, rfl⟩
      have HPU := hide hpush
      clear hpush
      obtain ⟨zb, hzb⟩ : ∃ zb, zb = decide (z ≤ 0) := ⟨_, rfl⟩
      have HZ := hide hzb
      have hz1 := hzb.symm
      clear hzb
      cases b <;> cases zb
      all_goals
        go_upto_if 29 with fail
        go_cut [7, 8] (fun ov pv wc => WithInvD base W0 j (withM t1 t2 ks[2 * j] (withF t1 t2 ks j)) ov pv wc)
        case first =>
          first
            | (have hq : q ≤ j := hq
               have HZ2 : Hid (true = decide (z ≤ 0)) := HZ
               obtain ⟨R, cp, w2, hr, hX2, hB2, hR2⟩ := unhide HPU (by omega)
               have HR := hide hr
               have HX2 := hide hX2
               have HB2 := hide hB2
               clear hr hX2 hB2
               go_wp2_with (at_builtin; refine Go.Lib.wpList_append_run _ rfl (.tmp 30) (.tmp 33) 30 30 rfl _ _ rfl rfl _ _ (unhide HR) ?_)
               go_meet
               case rel => exact ⟨ls ++ [t1, t2], _, q + 1, true, withM_put (unhide HF) (by rw [← unhide HZC]; have := unhide HZ2; simp at this; exact this), rfl, by rw [List.length_append, hl]; rfl, by show q + 1 ≤ j + 1; omega, unhide HX2, unhide HB2, fun k hk => by simp [Value.ownBlock] at hk; omega⟩)
            | (go_wp2_with fail
               go_meet
               case rel => exact ⟨ls, xs, q, _, by first | exact withM_had (unhide HF) | exact withM_not (unhide HF) (by rw [← unhide HZC]; have := unhide HZ; simp at this; omega), rfl, hl, hq, unhide HXq, unhide HBq, unhide HO⟩)
        case rest =>
          clear HX HB HXq HBq HO HF hq hl hbq p0 p1 p2 p3 r0 r1 r2 r3
          obtain ⟨ls, xs, q, b, hF, rfl, hl, hq, hX, hB, hown⟩ := hcut
          have HF := hide hF
          clear hF
          rename World => wc
          have hqs : q ≤ 5000 := by cases b <;> simp at hq <;> omega
          have HX := hide hX
          have HB := hide hB
          have HO := hide hown
          clear hX hB hown
          by_cases hz : z = 0
          · have hz' : (z != 0) = false := by simp [hz]
            go_wp2_with fail
            go_roundw
            case rel => exact ⟨j + 1, hlt, by go_num, ls, xs, q, b, withF_same (by have := unhide HP; omega) ((unhide HZC).symm.trans hz) (unhide HF), rfl, hl, by omega, unhide HX, unhide HB, unhide HO⟩
            case measure => simp [intOf]; omega
          · have hz' : (z != 0) = true := by simpa using hz
            have HZN := hide hz
            clear hz
            go_wp2_with fail
            have hbwc : Below w.heap.size w wc := (unhide HB0).trans ((unhide HB).mono (unhide HB0).size)
            have X0 := (bcell hbwc bb (off + 2 * j * 4) hS.2).trans (unhide HX0)
            have X1 := (bcell hbwc bb (off + 2 * j * 4 + 1) hS.2).trans (unhide HX1)
            have X2 := (bcell hbwc bb (off + 2 * j * 4 + 2) hS.2).trans (unhide HX2)
            have X3 := (bcell hbwc bb (off + 2 * j * 4 + 3) hS.2).trans (unhide HX3)
            have Y0 := (bcell hbwc bb (off + (2 * j + 1) * 4) hS.2).trans (unhide HY0)
            have Y1 := (bcell hbwc bb (off + (2 * j + 1) * 4 + 1) hS.2).trans (unhide HY1)
            have Y2 := (bcell hbwc bb (off + (2 * j + 1) * 4 + 2) hS.2).trans (unhide HY2)
            have Y3 := (bcell hbwc bb (off + (2 * j + 1) * 4 + 3) hS.2).trans (unhide HY3)
            obtain ⟨R, cp, w2, hr, hX2, hB2, hR2⟩ := with_push hl hqs (unhide HX) (unhide HB) (unhide HO) (by omega) (((unhide HT).below (unhide HB0) fun b hb => hb.2).mono fun b hb => ⟨hb.1, Nat.lt_of_lt_of_le hb.2 (unhide HB0).size⟩)
              (((unhide HT').below (unhide HB0) fun b hb => hb.2).mono fun b hb => ⟨hb.1, Nat.lt_of_lt_of_le hb.2 (unhide HB0).size⟩) 30 (wc.drew.alloc _) ⟨rfl, rfl, rfl, rfl⟩
            have HR := hide hr
            have HX3' := hide hX2
            have HB3 := hide hB2
            have w0 : IntKind.i64.wrap (2 * (j : Int) + 1) = 2 * (j : Int) + 1 := by rw [IntKind.wrap_i64]; omega
            have w1 : (0 : Int) ≤ 2 * (j : Int) := by omega
            have w3 : (0 : Int) ≤ 2 * (j : Int) + 1 := by omega
            have w4 : 2 * (j : Int) + 1 < (ks.length : Int) := by have := unhide HP; omega
            have w5 : (2 * (j : Int)).toNat = 2 * j := by omega
            have w6 : (2 * (j : Int) + 1).toNat = 2 * j + 1 := by omega
            clear hr hX2 hB2 hbwc
            go_region_law (refine step_append_ran rfl (.tmp 37) (.tmp 47) 30 30 rfl _ _ rfl rfl _ _ (unhide HR) ?_)
            all_goals
              go_wp2_with fail
              go_roundw
              case rel => exact ⟨j + 1, hlt, by go_num, ls ++ [ks[2 * j], ks[2 * j + 1]], _, q + 1, b, withF_more (by have := unhide HP; omega) (by rw [← unhide HZC]; exact unhide HZN) (unhide HF), rfl, by rw [List.length_append, hl]; rfl, by omega, unhide HX3', unhide HB3, fun k hk => by simp [Value.ownBlock] at hk; omega⟩
              case measure => simp [intOf]; omega

end Go.Proofs.YtcgbonlffcpofaaGreatDoor
