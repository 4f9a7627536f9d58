/- spec's l02DrawSegs and DrawBitBuild, as functions of the code. -/
import Derived.Test.YtcgbonlffcpofaaGreatDoorGd1
import Derived.Test.YtcgbonlffcpofaaGreatDoorQ1
import Derived.Deep.RegionWith
import Derived.Test.YtcgbonlffcpofaaGreatDoorQ3
import Derived.Test.YtcgbonlffcpofaaGreatDoorQ31
namespace Go.Proofs.YtcgbonlffcpofaaGreatDoor
open Go.RowKit Go.Deep

def oneG : SgT 2 := (1, 1, 1, false, false, tI 1)
def gsF (q : Src) : Nat → List (SgT 2) × Sig → List (SgT 2) × Sig
  | 0, s => s
  | i + 1, s => gsF q i (s.1 ++ [(segF q s.2).1], (segF q s.2).2)
def fillG (q : Src) : Nat → List (SgT 2) × Sig → List (SgT 2) × Sig
  | 0, s => s
  | f + 1, s => if (s.1.length : Int) < 200 + ((pickF q 2 s.2).1 : Int) then fillG q f (s.1 ++ [oneG], (pickF q 2 s.2).2) else (s.1, (pickF q 2 s.2).2)
def segsF (q : Src) (σ : Sig) : List (SgT 2) × Sig :=
  let n := sizeG q σ
  let r := gsF q n.1 ([], n.2)
  let e := pickF q 50 r.2
  if e.1 = 0 then fillG q 202 (r.1, e.2) else (r.1, e.2)
section
variable {q : Src} {σ σ1 σ2 σ3 σr : Sig} {a e i r f : Nat} {p : SgT 2} {ls : List (SgT 2)}
theorem gs_step (h : segF q σr = (p, σ1)) : gsF q (i + 1) (ls, σr) = gsF q i (ls ++ [p], σ1) := by
  show gsF q i (ls ++ [(segF q σr).1], (segF q σr).2) = _
  rw [h]
theorem fill_more (h : pickF q 2 σr = (r, σ1)) (hl : (ls.length : Int) < 200 + (r : Int)) : fillG q (f + 1) (ls, σr) = fillG q f (ls ++ [oneG], σ1) := by
  show (if (ls.length : Int) < 200 + ((pickF q 2 σr).1 : Int) then fillG q f (ls ++ [oneG], (pickF q 2 σr).2) else (ls, (pickF q 2 σr).2)) = _
  rw [h]; exact if_pos hl
theorem fill_end (h : pickF q 2 σr = (r, σ1)) (hl : ¬ (ls.length : Int) < 200 + (r : Int)) : fillG q (f + 1) (ls, σr) = (ls, σ1) := by
  show (if (ls.length : Int) < 200 + ((pickF q 2 σr).1 : Int) then fillG q f (ls ++ [oneG], (pickF q 2 σr).2) else (ls, (pickF q 2 σr).2)) = _
  rw [h]; exact if_neg hl
theorem segs_few (h1 : sizeG q σ = (a, σ1)) (h2 : gsF q 0 (ls, σr) = gsF q a ([], σ1)) (h3 : pickF q 50 σr = (e, σ2)) (he : e ≠ 0) : segsF q σ = (ls, σ2) := by
  have h2' : gsF q a ([], σ1) = (ls, σr) := h2.symm
  simp only [segsF, h1, h2', h3, if_neg he]
theorem segs_many {X : List (SgT 2) × Sig} (h1 : sizeG q σ = (a, σ1)) (h2 : gsF q 0 (ls, σr) = gsF q a ([], σ1)) (h3 : pickF q 50 σr = (e, σ2)) (he : e = 0) (h4 : X = fillG q 202 (ls, σ2)) : segsF q σ = X := by
  have h2' : gsF q a ([], σ1) = (ls, σr) := h2.symm
  simp only [segsF, h1, h2', h3, if_pos he, h4]
end
def lenV : Value → Nat
  | .slice _ l _ => l
  | _ => 0
theorem Kept.over {g : Nat} {w w1 w2 : World} (h : Kept g w w1) (hb : Below w.heap.size w1 w2) : Kept g w w2 :=
  ⟨hb.os.trans h.os, hb.tape.trans h.tape, hb.output.trans h.output, Nat.le_trans h.size hb.size, fun k hk hn => (hb.block k hk).trans (h.block k hk hn)⟩
/-- Under way: the cursor, what was there. -/
structure StS (g : Nat) (q : Src) (v : Value) (M : Nat) (σ : Sig) (w w' : World) : Prop where
  cur : CurD g q v M σ w'
  kept : Kept g w w'
  gl : g < w.heap.size
section
variable {g M : Nat} {q : Src} {v : Value} {σ : Sig} {w w1 w2 : World}
theorem StS.go {M' : Nat} {σ' : Sig} (h : StS g q v M σ w w1) (hk : Kept g w1 w2) (hc : CurD g q v M' σ' w2) : StS g q v M' σ' w w2 := ⟨hc, h.kept.trans hk, h.gl⟩
theorem StS.low (h : StS g q v M σ w w1) (hb : Below w.heap.size w1 w2) : StS g q v M σ w w2 := ⟨h.cur.low fun b hb' => hb.block b (by have := h.gl; omega), h.kept.over hb, h.gl⟩
theorem StS.below (h : StS g q v M σ w w1) (hb : Below w1.heap.size w1 w2) : StS g q v M σ w w2 := h.low (hb.mono h.kept.size)
theorem stS_pick (h : StS g q v M σ w w1) (n : Int) (hM : M ≤ 1000000000000) (hn0 : -1000000 ≤ n) (hn : n ≤ 256) :
    Calls Tryz.prog 27 #[.pointer (some ⟨g, 0, none⟩), .int .i64 n] w1 fun e w' => ∃ (r : Nat) (σ' : Sig), pickF q n σ = (r, σ') ∧ e = .returned (.int .i64 r) ∧ ((r : Int) < n ∨ (r = 0 ∧ n ≤ 1)) ∧ StS g q v (M + 2) σ' w w' ∧ Kept g w1 w' :=
  (dpickD_any g M q v σ n w1 h.cur hM hn0 hn).mono fun _ _ ⟨r, σ', h0, h1, h2, h3, h4⟩ => ⟨r, σ', h0, h1, h2, h.go h4 h3, h4⟩
end

def SegsEndD (g : Nat) (q : Src) (σ0 : Sig) (w : World) (e : Ending) (w' : World) : Prop :=
  ∃ (gs : List (SgT 2)) (σ' : Sig) (u : Value) (xs : List Value), segsF q σ0 = (gs, σ') ∧ e = .returned u ∧ RowsG w.heap.size w' gs u xs ∧ gs.length ≤ 201 ∧ Kept g w w'

set_option maxRecDepth 100000 in
set_option maxHeartbeats 4000000 in
theorem segsD_any (g N : Nat) (q : Src) (v : Value) (σ : Sig) (w : World) (hc : CurD g q v N σ w) (hN : N ≤ 1000) :
    Calls Tryz.prog 9 #[.pointer (some ⟨g, 0, none⟩), .bool true] w fun e w' => SegsEndD g q σ w e w' := by
  have hg := hc.lt
  have HS0 := hide (show StS g q v N σ w w from ⟨hc, Kept.refl g w, hg⟩)
  have hz := hide (fun o => dsizeG_any g N q v σ (w.alloc o) (hc.alloc o) (by omega))
  have HN := hide hN
  clear hc hN
  go_enter Tryz.func9, Tryz.ntmps9
  go_wp2_with fail
  refine ((unhide hz) _).mono ?_
  rintro e w1 ⟨a, σ1, hp1, rfl, ha, hc1, hk1⟩
  have hX0 : RowsG w.heap.size w1 ([] : List (SgT 2)) (.slice (some ⟨w.heap.size, 0, none⟩) 0 0) [] :=
    RowsG.kept (w := w.alloc (.cells #[] 34)) ⟨World.ownsRow_lit (base := w.heap.size) w #[] 0 (Nat.le_refl _) (by unfold maxLen; omega) (by simp), GCells.nil, _, 0, rfl⟩ hk1 hg
  have HS1 := hide ((unhide HS0).go (((Kept.refl g w).alloc _).trans hk1) hc1)
  have HX0 := hide hX0
  have HP1 := hide hp1
  clear hp1 hc1 hk1 hX0 hz
  go_wp2_with fail
  go_loopw [5, 6] (fun ov iv wr => ∃ (i : Nat) (ls : List (SgT 2)) (xs : List Value) (M : Nat) (σr : Sig), i ≤ 12 ∧ iv = .int .i64 i ∧ ls.length + i ≤ 12 ∧ M + i * segCost ≤ N + 2 + 12 * segCost ∧ RowsG w.heap.size wr ls ov xs ∧ StS g q v M σr w wr ∧ gsF q i (ls, σr) = gsF q a ([], σ1)) (fun _ iv _ => (intOf iv).toNat)
  case atStart => exact ⟨a, [], [], N + 2, σ1, ha, rfl, by simp; omega, by have := Nat.mul_le_mul_right segCost ha; omega, unhide HX0, unhide HS1, rfl⟩
  case round =>
    obtain ⟨i, ls, xs, M, σr, hi, rfl, hlen, hM, hX, hS, hgf⟩ := hrel
    have HX := hide hX
    have HS := hide hS
    have HM := hide hM
    have HGF := hide hgf
    clear hX hS hM hgf
    cases i with
    | zero =>
      obtain ⟨oa, ocap, rfl⟩ := (unhide HX).form
      go_wp2_with fail
      refine (stS_pick (unhide HS) 50 (by have := unhide HN; have := unhide HM; have : segCost = 300 := rfl; omega) (by omega) (by omega)).mono ?_
      rintro e w2 ⟨e1, σ2, hp2, rfl, he, hs2, hk2⟩
      have HX2 := hide ((unhide HX).kept hk2 hg)
      have HS2 := hide hs2
      have HP2 := hide hp2
      clear hs2 hk2 hp2 he
      by_cases he0 : e1 = 0
      · have hb : ((e1 : Int) == 0) = true := by simp [he0]
        have HE := hide he0
        clear he0
        go_wp2_with fail
        go_loopw [5] (fun ov wr => ∃ (f : Nat) (ls2 : List (SgT 2)) (xs2 : List Value) (M2 : Nat) (σq : Sig), f + ls2.length = 202 + ls.length ∧ ls2.length ≤ 201 ∧ M2 + 2 * f ≤ M + 2 + 404 ∧ RowsG w.heap.size wr ls2 ov xs2 ∧ StS g q v M2 σq w wr ∧ fillG q f (ls2, σq) = fillG q 202 (ls, σ2)) (fun ov _ => 300 - lenV ov)
        case atStart => exact ⟨202, ls, xs, M + 2, σ2, rfl, by omega, by omega, unhide HX2, unhide HS2, rfl⟩
        case round =>
          obtain ⟨f, ls2, xs2, M2, σq, hf, hl2, hM2, hX3, hS3, hff⟩ := hrel
          obtain ⟨ob, obcap, rfl⟩ := hX3.form
          obtain ⟨f, rfl⟩ : ∃ f', f = f' + 1 := ⟨f - 1, by omega⟩
          have HX3 := hide hX3
          have HS3 := hide hS3
          have HM2 := hide hM2
          have HFF := hide hff
          clear hX3 hS3 hM2 hff
          go_wp2_with fail
          refine (stS_pick (unhide HS3) 2 (by have := unhide HN; have := unhide HM; have := unhide HM2; have : segCost = 300 := rfl; omega) (by omega) (by omega)).mono ?_
          rintro e w4 ⟨r4, σ4, hp4, rfl, hr4, hs4, hk4⟩
          have hr4 : (r4 : Int) < 2 := by omega
          have HX4 := hide ((unhide HX3).kept hk4 hg)
          have HS4 := hide hs4
          have HP4 := hide hp4
          clear hs4 hk4 hp4
          have v1 : IntKind.i64.wrap (200 + (r4 : Int)) = 200 + (r4 : Int) := by rw [IntKind.wrap_i64]; omega
          by_cases hlt : (ls2.length : Int) < 200 + (r4 : Int)
          · go_wp2_with fail
            refine (mk_int 1 w4).mono ?_
            rintro e w5 ⟨rfl, hb5⟩
            have hX5 := (unhide HX4).up hb5
            have hS5 := (unhide HS4).below hb5
            obtain ⟨R, cp, w6, hr6, hX6, hB6⟩ := hX5.push (by omega) (g := oneG) (S := fun _ => False) ⟨_, _, _, _, rfl, in64_by (by decide) (by decide), in64_by (by decide) (by decide), in64_by (by decide) (by decide), leaf2 _ _ (in64_by (by decide) (by decide)) (in64_by (by decide) (by decide)) (by decide)⟩ (fun b hb => hb.elim) (wz := w5.alloc _) ⟨rfl, rfl, rfl, rfl⟩ hS5.kept.size 24
            have HR6 := hide hr6
            have HX6 := hide hX6
            have HS6 := hide (hS5.low hB6)
            have HF6 := hide ((fill_more (f := f) (unhide HP4) hlt).symm.trans (unhide HFF))
            clear hb5 hX5 hS5 hr6 hX6 hB6
            go_wp2_with (at_builtin; refine Go.Lib.wpList_append_run _ rfl (.tmp 45) (.tmp 48) 24 24 rfl _ _ rfl rfl _ _ (unhide HR6) ?_)
            go_roundw
            case rel => exact ⟨f, ls2 ++ [oneG], _, M2 + 2, σ4, by simp; omega, by simp; omega, by have := unhide HM2; omega, unhide HX6, unhide HS6, unhide HF6⟩
            case measure => simp [lenV]; omega
          · go_wp2_with fail
            go_ret
            exact ⟨ls2, σ4, _, xs2, segs_many (unhide HP1) (unhide HGF) (unhide HP2) (unhide HE) ((fill_end (f := f) (unhide HP4) (by omega)).symm.trans (unhide HFF)), rfl, unhide HX4, by omega, (unhide HS4).kept⟩
      · have hb : ((e1 : Int) == 0) = false := by simp [he0]
        go_wp2_with fail
        go_ret
        exact ⟨ls, σ2, _, xs, segs_few (unhide HP1) (unhide HGF) (unhide HP2) he0, rfl, unhide HX2, by omega, (unhide HS2).kept⟩
    | succ i =>
      have hmul := hide (show (i + 1) * segCost = i * segCost + segCost from Nat.succ_mul i segCost)
      have hpos : (0 : Int) < ((i + 1 : Nat) : Int) := by omega
      have hqb : ((i + 1 : Nat) : Int) ≤ 12 := by omega
      obtain ⟨qz, hq⟩ : ∃ qz : Int, qz = ((i + 1 : Nat) : Int) := ⟨_, rfl⟩
      rw [← hq] at hpos hqb ⊢
      have HQ := hide hq
      clear hq
      go_wp2_with fail
      refine (segD_any g M q v σr wr (unhide HS).cur (by have := unhide HN; have := unhide HM; have := unhide hmul; have : segCost = 300 := rfl; omega)).mono ?_
      rintro e w3 ⟨p, pk, pm, ps, pa, pl, pc, σa, hfa, rfl, ht, hc3, hk3⟩
      have hS3 := (unhide HS).go hk3 hc3
      have hX3 := (unhide HX).kept hk3 hg
      obtain ⟨R, cp, w4, hr4, hX4, hB4⟩ := hX3.push (by omega) ht (fun b hb => ⟨by have := (unhide HS).kept.size; have := hb.1; omega, hb.2, fun e => by have := ((unhide HX).1.lt b e).2; have := hb.1; omega⟩) (wz := w3.alloc _) ⟨rfl, rfl, rfl, rfl⟩ hS3.kept.size 24
      have HR4 := hide hr4
      have HX4 := hide hX4
      have HS4 := hide (hS3.low hB4)
      have HF4 := hide ((gs_step (i := i) hfa).symm.trans (unhide HGF))
      clear ht hc3 hk3 hS3 hX3 hr4 hX4 hB4 hfa
      go_wp2_with (at_builtin; refine Go.Lib.wpList_append_run _ rfl (.tmp 14) (.tmp 18) 24 24 rfl _ _ rfl rfl _ _ (unhide HR4) ?_)
      go_roundw
      case rel => exact ⟨i, ls ++ [p], _, M + segCost, σa, by omega, by have := unhide HQ; congr 1; omega, by rw [List.length_append]; simp; omega, by have := unhide HM; have := unhide hmul; omega, unhide HX4, unhide HS4, unhide HF4⟩
      case measure => have := unhide HQ; simp [intOf]; omega

/-- The parts that a code draws. -/
def drawnG (q : Src) : List (SgT 2) := (segsF q (0, 17 + (q.1 : Int))).1

set_option maxRecDepth 40000 in
theorem dbuildD_any (q : Src) (v : Value) (w : World) (hc : CodeD w.heap.size q v w) :
    Calls Tryz.prog 5 #[v] w fun e w' => ∃ u xs, e = .returned u ∧ RowsG w.heap.size w' (drawnG q) u xs ∧ (drawnG q).length ≤ 201 ∧ Below w.heap.size w w' := by
  have hcur := hide (dcurD_any q v w hc)
  obtain ⟨a, cap, rfl, _⟩ := hc
  go_enter Tryz.func5, Tryz.ntmps5
  go_wp2_with fail
  refine (unhide hcur).mono ?_
  rintro e w1 ⟨rfl, hc1, hk1⟩
  have HS := hide (segsD_any w.heap.size 0 q _ _ w1 hc1 (by omega))
  have HK1 := hide hk1
  clear hc1 hk1
  go_wp2_with fail
  refine (unhide HS).mono ?_
  rintro e w2 ⟨gs, σ', u, xs, hF, rfl, hX, hl, hk2⟩
  obtain ⟨oa, ocap, rfl⟩ := hX.form
  have HX := hide hX
  have HK2 := hide hk2
  clear hX hk2
  go_wp2_with fail
  go_ret
  have hd : drawnG q = gs := by unfold drawnG; rw [hF]
  rw [hd]
  obtain ⟨h1, h2, h0⟩ := unhide HX
  have hs := (unhide HK1).size
  refine ⟨_, xs, rfl, ⟨ownsRow_base h1 hs, h2.keep (fun _ _ => rfl) fun b hb => ⟨Nat.le_trans hs hb.1, hb.2⟩, h0⟩, hl, ((unhide HK1).trans (unhide HK2)).toBelow (Nat.le_refl _) (Nat.le_refl _)⟩

end Go.Proofs.YtcgbonlffcpofaaGreatDoor
/- A code that came in, its bytes as a function. -/
namespace Go.Proofs.YtcgbonlffcpofaaGreatDoor
open Go.RowKit Go.Deep

/-- A code's bytes that came in, told. -/
def CodeInD (w : World) (q : Src) (v : Value) : Prop :=
  ∃ a cap, v = .slice a q.1 cap ∧ q.1 ≤ cap ∧ cap ≤ 2 ^ 47 ∧ ∀ i, i < q.1 → ∃ b off, a = some ⟨b, off, none⟩ ∧ b < w.heap.size ∧ w.cell? ⟨b, off + i, none⟩ = some (.int .u8 (q.2 i)) ∧ 0 ≤ q.2 i ∧ q.2 i < 256
theorem CodeIn.told {w : World} {L : Nat} {v : Value} (h : CodeIn w L v) : ∃ cb : Nat → Int, CodeInD w (L, cb) v := by
  obtain ⟨a, cap, h1, h2, h3, h4⟩ := h
  have hx : ∀ i : Nat, ∃ x : Int, i < L → ∃ b off, a = some ⟨b, off, none⟩ ∧ b < w.heap.size ∧ w.cell? ⟨b, off + i, none⟩ = some (.int .u8 x) ∧ 0 ≤ x ∧ x < 256 := fun i => by
    by_cases hi : i < L
    · obtain ⟨b, off, x, g⟩ := h4 i hi
      exact ⟨x, fun _ => ⟨b, off, g⟩⟩
    · exact ⟨0, fun h => absurd h hi⟩
  obtain ⟨cb, hcb⟩ := Classical.axiomOfChoice hx
  exact ⟨cb, a, cap, h1, h2, h3, fun i hi => hcb i hi⟩
theorem CodeInD.up {w w' : World} {q : Src} {v : Value} (h : CodeInD w q v) (hb : Below w.heap.size w w') : CodeInD w' q v := by
  obtain ⟨a, cap, h1, h2, h3, h4⟩ := h
  refine ⟨a, cap, h1, h2, h3, fun i hi => ?_⟩
  obtain ⟨b, off, g1, g2, g3, g4⟩ := h4 i hi
  exact ⟨b, off, g1, Nat.lt_of_lt_of_le g2 hb.size, ((bcell hb) b _ g2).trans g3, g4⟩
theorem CodeInD.at {w : World} {q : Src} {v : Value} (h : CodeInD w q v) (hL : q.1 ≤ 1048576) : CodeD w.heap.size q v w := by
  obtain ⟨a, cap, h1, h2, h3, h4⟩ := h
  exact ⟨a, cap, h1, h2, h3, hL, h4⟩

end Go.Proofs.YtcgbonlffcpofaaGreatDoor
