/- impl's share and build of a segment. -/
import Derived.Test.YtcgbonlffcpofaaGreatDoorQ18
import Derived.BigQuiet
import Derived.Test.YtcgbonlffcpofaaGreatDoorQ19
import Derived.Test.YtcgbonlffcpofaaGreatDoorQ9
import Derived.Deep.RegionLaw
import Derived.Lib.BufferWrite
import Derived.Laws.CopyOwn
namespace Go.Proofs.YtcgbonlffcpofaaGreatDoor
open Go.RowKit Go.Deep

section
variable (g1 g2 g3 : Int) (g4 g5 : Bool) (k m : Int) (s : ByteArray) (ua : Option Addr) (ul uc : Nat) (w : World)

set_option maxRecDepth 40000 in
set_option maxHeartbeats 1000000 in
theorem share_open (N : Nat) (hN : N ≤ 1000000) (p1 : 1 ≤ g3) : Calls Tryz.prog 23 #[sgV g1 (-1) g3 g4 g5 k m s ua ul uc, .int .i64 N] w fun e w' => e = .returned (.tuple #[.int .i64 N, .bool ((N : Int) % g3 == 0)]) ∧ Below w.heap.size w w' := by
  have HO := hide (fun w => isOpen_any g1 (-1) g3 g4 g5 k m s ua ul uc w)
  have hB := hide ((Below.refl w.heap.size w).alloc (Nat.le_refl _) (sgO g1 (-1) g3 g4 g5 k m s ua ul uc))
  unfold sgV
  go_enter Tryz.func23, Tryz.ntmps23
  go_wp2_with fail
  refine ((unhide HO) _).mono ?_
  rintro e w1 ⟨rfl, hb1⟩
  obtain ⟨x0, x1, x2, x3, x4, x5, x6, x7, x8⟩ := box9 g1 (-1) g3 g4 g5 k m s ua ul uc w (Nat.lt_succ_self _) (hb1.mono (by simp))
  have H1 := hide ((unhide hB).trans (hb1.mono (by simp)))
  have htt : ((-1 : Int) == -1) = true := rfl
  rw [htt]
  clear hb1 htt
  go_wp2_with fail
  go_region
  all_goals
    go_wp2_with fail
    first
      | exact bodyPost_ret (v := .tuple #[.int .i64 N, .bool ((N : Int) % g3 == 0)]) (by simp [results, Tryz.results23, go_sem]) rfl ⟨rfl, unhide H1⟩
      | exact bodyPost_ret (v := .tuple #[.int .i64 N, .bool ((N : Int) % g3 == 0)]) (by simp [results, Tryz.results23, go_sem]) rfl ⟨rfl, (unhide H1).drew⟩

set_option maxRecDepth 40000 in
set_option maxHeartbeats 1000000 in
theorem share_width (left : Int) (p1 : 1 ≤ g3) (p2 : g3 ≤ 256) (p3 : -1 ≤ g2) (p4 : g2 ≤ 32000) (ho : g2 ≠ -1) : Calls Tryz.prog 23 #[sgV g1 g2 g3 g4 g5 k m s ua ul uc, .int .i64 left] w fun e w' => e = .returned (.tuple #[.int .i64 (g2 * g3), .bool (decide (g2 * g3 ≤ left))]) ∧ Below w.heap.size w w' := by
  have HO := hide (fun w => isOpen_any g1 g2 g3 g4 g5 k m s ua ul uc w)
  have HWD := fun w => width_any g1 g2 g3 g4 g5 k m s ua ul uc w p1 p2 p3 p4
  have hB := hide ((Below.refl w.heap.size w).alloc (Nat.le_refl _) (sgO g1 g2 g3 g4 g5 k m s ua ul uc))
  have HWW := hide HWD
  clear HWD p1 p2 p3 p4
  have htt : (g2 == -1) = false := by simpa using ho
  unfold sgV
  go_enter Tryz.func23, Tryz.ntmps23
  go_wp2_with fail
  refine ((unhide HO) _).mono ?_
  rintro e w1 ⟨rfl, hb1⟩
  obtain ⟨x0, x1, x2, x3, x4, x5, x6, x7, x8⟩ := box9 g1 g2 g3 g4 g5 k m s ua ul uc w (Nat.lt_succ_self _) (hb1.mono (by simp))
  have hsz : w.heap.size + 1 ≤ w1.heap.size := by have := hb1.size; simpa using this
  have H1 := hide ((unhide hB).trans (hb1.mono (by simp)))
  rw [htt]
  have F0 := fun x : LaterW (w.heap.size + 1) w1 => (x.be.cell (p := ⟨w.heap.size, 0, none⟩) (Nat.lt_succ_self _)).trans x0
  have F1 := fun x : LaterW (w.heap.size + 1) w1 => (x.be.cell (p := ⟨w.heap.size, 1, none⟩) (Nat.lt_succ_self _)).trans x1
  have F2 := fun x : LaterW (w.heap.size + 1) w1 => (x.be.cell (p := ⟨w.heap.size, 2, none⟩) (Nat.lt_succ_self _)).trans x2
  have F3 := fun x : LaterW (w.heap.size + 1) w1 => (x.be.cell (p := ⟨w.heap.size, 3, none⟩) (Nat.lt_succ_self _)).trans x3
  have F4 := fun x : LaterW (w.heap.size + 1) w1 => (x.be.cell (p := ⟨w.heap.size, 4, none⟩) (Nat.lt_succ_self _)).trans x4
  have F5 := fun x : LaterW (w.heap.size + 1) w1 => (x.be.cell (p := ⟨w.heap.size, 5, none⟩) (Nat.lt_succ_self _)).trans x5
  have F6 := fun x : LaterW (w.heap.size + 1) w1 => (x.be.cell (p := ⟨w.heap.size, 6, none⟩) (Nat.lt_succ_self _)).trans x6
  have F7 := fun x : LaterW (w.heap.size + 1) w1 => (x.be.cell (p := ⟨w.heap.size, 7, none⟩) (Nat.lt_succ_self _)).trans x7
  have F8 := fun x : LaterW (w.heap.size + 1) w1 => (x.be.cell (p := ⟨w.heap.size, 8, none⟩) (Nat.lt_succ_self _)).trans x8
  clear hb1 x0 x1 x2 x3 x4 x5 x6 x7 x8
  go_wp2_with fail
  haveI hne : Nonempty (LaterW (w.heap.size + 1) w1) := ⟨⟨w1, Below.refl _ _⟩⟩
  refine wp_region_later (w.heap.size + 1) (by kernel_rfl) (by kernel_rfl) ?_
  repeat (go_big_quiet_step ((go_at_call 40; rename_i x; refine Calls.later (v := .int .i64 (g2 * g3)) hsz ((unhide HWW) _))))
  refine wpQuiet_nil ?_
  rintro _ ⟨⟨wq, hq⟩, rfl⟩
  go_wp2_with fail
  exact bodyPost_ret (v := .tuple #[.int .i64 (g2 * g3), .bool (decide (g2 * g3 ≤ left))]) (by simp [results, Tryz.results23, go_sem]) rfl ⟨rfl, (unhide H1).trans (hq.mono (Nat.le_succ _))⟩
end

end Go.Proofs.YtcgbonlffcpofaaGreatDoor
/- impl's byteAt and clearEnd. -/
namespace Go.Proofs.YtcgbonlffcpofaaGreatDoor
open Go.RowKit Go.Deep

set_option maxRecDepth 100000 in
theorem byteAt_any (n : Int) (s : ByteArray) (i : Nat) (w : World) (hi : i / 8 < s.size) (h8 : i % 8 ≠ 0) (hi2 : i ≤ 10000000000) :
    Calls Tryz.prog 53 #[.agg #[.int .i64 n, .string s], .int .i64 i] w fun e w' => e = .returned (.int .u8 (full s i 0)) ∧ Below w.heap.size w w' := by
  have hbx := hide ((Below.refl w.heap.size w).alloc (Nat.le_refl _) (.cells #[.int .i64 n, .string s] 27))
  have hA := hide (byt_get s (i / 8) hi)
  by_cases h1 : i / 8 + 1 < s.size
  · have hB := hide (byt_get s (i / 8 + 1) h1)
    have hr := hide (full_parts s i h8)
    have ho := hide (or_parts (byt s (i / 8)) (byt s (i / 8 + 1)) (i % 8) (by omega) (byt_lo _ _) (byt_hi _ _) (byt_lo _ _) (byt_hi _ _))
    clear h8
    go_enter Tryz.func53, Tryz.ntmps53
    go_wp2_with fail
    go_ret
    refine ⟨ret_back (k := .u8) ?_, unhide hbx⟩
    rw [unhide hr, ← unhide ho, unhide hA, unhide hB]
  · have hB : byt s (i / 8 + 1) = 0 := by
      unfold byt
      rw [Array.getElem?_eq_none (by have : s.data.size = s.size := rfl; omega)]; rfl
    have hr := hide (full_parts s i h8)
    rw [hB] at hr
    clear h8 hB
    go_enter Tryz.func53, Tryz.ntmps53
    go_wp2_with fail
    go_ret
    refine ⟨ret_back (k := .u8) ?_, unhide hbx⟩
    rw [unhide hr, unhide hA, Int.zero_ediv, Int.add_zero]

set_option maxRecDepth 100000 in
theorem clearEnd_any (R g m n : Nat) (base : Nat) (Z : List Int) (w : World) (hm : Masks 0 w) (h0 : w.cell? ⟨R, 0, none⟩ = some (.int .i64 n)) (h1 : w.cell? ⟨R, 1, none⟩ = some (.slice (some ⟨g, 0, none⟩) m m))
    (hown : w.ownsRow base 5 1 (.slice (some ⟨g, 0, none⟩) m m) m (u8s Z)) (hl : Z.length = m) (hZ : ∀ x ∈ Z, 0 ≤ x ∧ x < 256) (hR : g < R) (hG : 0 < g) (hn : n ≤ 8 * m) (hn8 : 8 * m < n + 8) (hmm : m ≤ 100000) :
    Calls Tryz.prog 54 #[.pointer (some ⟨R, 0, none⟩)] w fun e w' => e = .returned (.tuple #[]) ∧ w'.ownsRow base 5 1 (.slice (some ⟨g, 0, none⟩) m m) m (u8s (cl Z (8 * m - n))) ∧
      w'.cell? ⟨R, 0, none⟩ = some (.int .i64 n) ∧ w'.cell? ⟨R, 1, none⟩ = some (.slice (some ⟨g, 0, none⟩) m m) ∧ Below g w w' ∧ w'.heap.size = w.heap.size := by
  have Hm := hide hm
  have Hown := hide hown
  have HZ := hide hZ
  clear hm hown hZ
  go_enter Tryz.func54, Tryz.ntmps54
  go_wp2_with fail
  go_region
  go_wp2_with fail
  go_loopw [2, 14] (fun jv iv wr => ∃ k : Nat, (k : Int) ≤ 8 * (m : Int) - n ∧ iv = .int .i64 k ∧ wr.ownsRow base 5 1 (.slice (some ⟨g, 0, none⟩) m m) m (u8s (cl Z k)) ∧
      wr.cell? ⟨R, 0, none⟩ = some (.int .i64 n) ∧ wr.cell? ⟨R, 1, none⟩ = some (.slice (some ⟨g, 0, none⟩) m m) ∧ Below g w wr ∧ wr.heap.size = w.heap.size) (fun _ iv _ => 8 * m - n - (intOf iv).toNat)
  case atStart => exact ⟨0, by omega, rfl, by rw [cl_zero]; exact (unhide Hown).drew, h0, h1, (Below.refl g w).drew, rfl⟩
  case round =>
    obtain ⟨k, hk, rfl, hown, r0, r1, hb, hsz⟩ := hrel
    clear h0 h1
    by_cases hlt : (k : Int) < 8 * (m : Int) - n
    · have hm0 : 0 < m := by omega
      have hk8 : k < 8 := by omega
      have hmask : wr.cell? ⟨0, 7 - k, none⟩ = some (.int .u8 (2 ^ k)) := by
        have := (hb.cell (p := ⟨0, 7 - k, none⟩) hG).trans ((unhide Hm).2 (7 - k) (by omega))
        rw [show 7 - (7 - k) = k by omega] at this
        exact this
      have hc := own_cell hown (m - 1) (by omega)
      have hf := hown.frozenAt (m - 1)
      have hS := hide (cl_step Z k hk8 (unhide HZ) (by omega))
      have hown2 := hide (own_set hown (m - 1))
      obtain ⟨y, hy⟩ : ∃ y, y = (cl Z k).getD (m - 1) 0 := ⟨_, rfl⟩
      rw [← hy] at hc
      have HY := hide hy
      have Hb := hide hb
      clear hy hb hown
      have e1 : IntKind.i64.wrap ((m : Int) - 1) = ((m - 1 : Nat) : Int) := by simp [IntKind.wrap, IntKind.bits, IntKind.signed]; omega
      go_wp2_with fail
      go_region
      have hown3 := unhide hown2 (bits .andNot .u8 y (2 ^ k))
      have e3 : (cl Z k).set (m - 1) (bits .andNot .u8 y (2 ^ k)) = cl Z (k + 1) := by
        have := unhide hS
        rw [hl, ← unhide HY] at this
        exact this
      rw [e3] at hown3
      obtain ⟨w5, hw5⟩ : ∃ w5, w5 = (wr.setCell ⟨g, m - 1, none⟩ (.int .u8 (bits .andNot .u8 y (2 ^ k)))).drew := ⟨_, rfl⟩
      have hown6 : w5.ownsRow base 5 1 (.slice (some ⟨g, 0, none⟩) m m) m (u8s (cl Z (k + 1))) := by rw [hw5]; exact hown3
      have hb6 : Below g w w5 := by rw [hw5]; exact ((unhide Hb).setCell (Nat.le_refl _) _).drew
      have c0 : w5.cell? ⟨R, 0, none⟩ = some (.int .i64 n) := by rw [hw5]; exact (World.cell?_setCell_other _ _ _ _ (by simp)).trans r0
      have c1 : w5.cell? ⟨R, 1, none⟩ = some (.slice (some ⟨g, 0, none⟩) m m) := by rw [hw5]; exact (World.cell?_setCell_other _ _ _ _ (by simp)).trans r1
      have hs6 : w5.heap.size = w.heap.size := by rw [hw5]; simpa using hsz
      rw [← hw5]
      have H6 := hide hown6
      have HB6 := hide hb6
      have HC0 := hide c0
      have HC1 := hide c1
      have HS6 := hide hs6
      clear hown3 hw5 r0 r1 e3 e1 hmask hc hf hsz hown6 hb6 c0 c1 hs6
      go_wp2_with fail
      go_roundw
      case rel => exact ⟨k + 1, by omega, by go_num, unhide H6, unhide HC0, unhide HC1, unhide HB6, unhide HS6⟩
      case measure => simp [intOf]; omega
    · have hkn : 8 * m - n = k := by omega
      have Hown' := hide hown
      have Hb := hide hb
      have HN := hide hkn
      clear hown hb hkn
      go_wp2_with fail
      go_end0
      exact ⟨rfl, by rw [unhide HN]; exact unhide Hown', r0, r1, unhide Hb, hsz⟩

end Go.Proofs.YtcgbonlffcpofaaGreatDoor
/- A copy out of a text that is at least as long as the row of bytes it is laid into: a law for the walk. -/
namespace Go.Proofs.YtcgbonlffcpofaaGreatDoor
open Go.RowKit Go.Deep

/-- The first m bytes of a text, as cells. -/
def firstCells (t : ByteArray) (m : Nat) : List Value := (t.data.toList.take m).map fun b => Value.int .u8 (b.toNat : Int)
theorem firstCells_length (t : ByteArray) (m : Nat) (h : m ≤ t.size) : (firstCells t m).length = m := by
  simp [firstCells]; have : t.data.size = t.size := rfl; omega
theorem firstCells_one (t : ByteArray) (m : Nat) : ∀ v ∈ firstCells t m, v.oneCell' = true := by
  intro v hv
  obtain ⟨b, _, rfl⟩ := List.mem_map.1 hv
  rfl

theorem run_copy_str {P : Program} (w : World) (dT sT ty elem : TypeId) (g m dCap : Nat) (s : ByteArray) (cur : Array Value) (t : TypeId)
    (hu : P.underlying dT = some (.slice elem)) (hs : (P.info? elem).map (·.size) = some 1) (hg : w.heap[g]? = some (.cells cur t (0, 0))) (hle : m ≤ s.size) (hfit : m = cur.size) :
    (Builtin.copy_ #[dT, sT] ty #[.slice (some ⟨g, 0, none⟩) m dCap, .string s]).run P w = .ok (goInt m) (w.setRow g (firstCells s m).toArray) := by
  have hlen := firstCells_length s m hle
  have hst := run_storeCells_at P g 0 t (firstCells s m) 0 cur w hg (by rw [hlen]; omega) (firstCells_one s m)
  have hmin : Nat.min s.size m = m := Nat.min_eq_right hle
  have htk : List.take m (List.map (fun b : UInt8 => Value.int IntKind.u8 (b.toNat : Int)) s.data.toList) = firstCells s m := by
    rw [← List.map_take]; rfl
  rw [hlen] at hst
  simp only [Nat.add_zero] at hst
  cases hq : P.info? elem with
  | none => simp [hq] at hs
  | some i =>
    simp [Builtin.copy_, run_underlying hu, Builtin.lenOf, Builtin.firstCells, sizeOf, typeInfo, hq, hmin]
    rw [htk, hst]
    have e : cur.toList.drop m = [] := by rw [List.drop_eq_nil_iff]; simp; omega
    simp [Result.andThen, e]

/-- The same as one step of a region that draws its order. -/
theorem step_copy_str {P : Program} {ops : Array Oper} {o : Oper} {a : Act} {w : World} {K : Act → World → Prop} {Q : Exit → Act → World → Prop} {E : Prop} (hgd : o.guard = none) (d x : Operand) (dT sT : TypeId)
    (ho : o.op = .call { callee := .builtin .copy, args := #[d, x], argTypes := #[dT, sT] }) (elem : TypeId) (hu : P.underlying dT = some (.slice elem)) (hsz : (P.info? elem).map (·.size) = some 1)
    (g m dCap : Nat) (hd : a.eval d = .slice (some ⟨g, 0, none⟩) m dCap) (s : ByteArray) (hx : a.eval x = .string s) (cur : Array Value) (t : TypeId) (hg : w.heap[g]? = some (.cells cur t (0, 0))) (hle : m ≤ s.size) (hfit : m = cur.size)
    (h : K (a.put o.dst (goInt m)) (w.setRow g (firstCells s m).toArray)) :
    if Region.wanted o (yielded ops a.tmps) = true then Oper.wp P o a w K Q else E := by
  have hw : Region.wanted o (yielded ops a.tmps) = true := by simp [Region.wanted, hgd]
  rw [if_pos hw]
  have hrun := run_copy_str (P := P) w dT sT o.type elem g m dCap s cur t hu hsz hg hle hfit
  unfold Oper.wp
  simp [execOp, ho, resolve, invoke, builtin, hd, hx, hrun, Result.andThen]
  exact h

theorem firstCells_whole (s : ByteArray) (f m : Nat) (h8 : f % 8 = 0) (hm : f / 8 + m ≤ s.size) : firstCells (s.extract (f / 8) s.size) m = u8s (fullBytes s f m) := by
  have hsz : s.data.size = s.size := rfl
  apply List.ext_getElem?
  intro j
  by_cases hj : j < m
  · have e : full s f j = byt s (f / 8 + j) := by
      have := full_whole s (f / 8) j
      rw [show 8 * (f / 8) = f by omega] at this
      exact this
    have hd : (s.extract (f / 8) s.size).data.toList[j]? = some (s[f / 8 + j]'(by omega)) := by
      rw [ByteArray.data_extract, Array.getElem?_toList, Array.getElem?_extract]
      rw [if_pos (by omega), Array.getElem?_eq_getElem (by omega)]
      rfl
    rw [u8s, List.getElem?_map, fullBytes_get _ _ _ _ hj, e]
    unfold firstCells
    rw [List.getElem?_map, List.getElem?_take, if_pos hj, hd, byt_get s (f / 8 + j) (by omega)]
    rfl
  · rw [List.getElem?_eq_none (by rw [firstCells_length _ _ (by simp; omega)]; omega), List.getElem?_eq_none (by simp [u8s, fullBytes_length]; omega)]

theorem cell_setRow_other {w : World} {g R o : Nat} {cs : Array Value} (h : g ≠ R) : (w.setRow g cs).cell? ⟨R, o, none⟩ = w.cell? ⟨R, o, none⟩ := by
  unfold World.cell? World.setRow
  simp [Array.getElem?_modify, h]

theorem own_setRow {w : World} {base g m : Nat} {e : TypeId} {cur : Array Value} {vs : List Value} (hg : w.heap[g]? = some (.cells cur e (0, 0))) (hb : base ≤ g) (hl : vs.length = m) (hm : m ≤ maxLen) :
    (w.setRow g vs.toArray).ownsRow base e 1 (.slice (some ⟨g, 0, none⟩) m m) m vs :=
  ⟨by simpa using hl, .inr ⟨g, m, vs.toArray, rfl, hb, setRow_heap w g _ _ e _ hg, Nat.le_refl _, hm, by simpa using hl, by rw [Nat.mul_one, List.take_of_length_le (by simp; omega)]⟩⟩

end Go.Proofs.YtcgbonlffcpofaaGreatDoor
