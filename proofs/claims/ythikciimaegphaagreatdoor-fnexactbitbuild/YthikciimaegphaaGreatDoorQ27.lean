/- impl's byteAt and clearEnd. -/
import Derived.Test.YthikciimaegphaaGreatDoorQ4
import Derived.Test.YthikciimaegphaaGreatDoorQ3
import Derived.Deep.RegionLaw
import Derived.Lib.BufferWrite
import Derived.Laws.CopyOwn
import Derived.Deep.RegionWith
namespace Go.Proofs.YthikciimaegphaaGreatDoor
open Go.RowKit Go.Deep

set_option maxRecDepth 100000 in
theorem byteAt_any (n : Int) (s : ByteArray) (i : Nat) (w : World) (hi : i / 8 < s.size) (h8 : i % 8 ≠ 0) (hi2 : i ≤ 10000000000) :
    Calls Tryz.prog 63 #[.agg #[.int .i64 n, .string s], .int .i64 i] w fun e w' => e = .returned (.int .u8 (full s i 0)) ∧ Below w.heap.size w w' := by
  have hbx := hide ((Below.refl w.heap.size w).alloc (Nat.le_refl _) (.cells #[.int .i64 n, .string s] 25))
  have hA := hide (byt_get s (i / 8) hi)
  by_cases h1 : i / 8 + 1 < s.size
  · have hB := hide (byt_get s (i / 8 + 1) h1)
    have hr := hide (full_parts s i h8)
    have ho := hide (or_parts (byt s (i / 8)) (byt s (i / 8 + 1)) (i % 8) (by omega) (byt_lo _ _) (byt_hi _ _) (byt_lo _ _) (byt_hi _ _))
    clear h8
    go_enter Tryz.func63, Tryz.ntmps63
    go_wp2_with fail
    go_ret
    refine ⟨ret_back (k := .u8) ?_, unhide hbx⟩
    rw [unhide hr, ← unhide ho, unhide hA, unhide hB]
  · have hB : byt s (i / 8 + 1) = 0 := by
      unfold byt
      rw [Array.getElem?_eq_none (by have : s.data.size = s.size := rfl; omega)]; rfl
    have hr := hide (full_parts s i h8)
    rw [hB] at hr
    clear h8 hB
    go_enter Tryz.func63, Tryz.ntmps63
    go_wp2_with fail
    go_ret
    refine ⟨ret_back (k := .u8) ?_, unhide hbx⟩
    rw [unhide hr, unhide hA, Int.zero_ediv, Int.add_zero]

set_option maxRecDepth 100000 in
theorem clearEnd_any (R g m n : Nat) (base : Nat) (Z : List Int) (w : World) (hm : Masks 0 w) (h0 : w.cell? ⟨R, 0, none⟩ = some (.int .i64 n)) (h1 : w.cell? ⟨R, 1, none⟩ = some (.slice (some ⟨g, 0, none⟩) m m))
    (hown : w.ownsRow base 5 1 (.slice (some ⟨g, 0, none⟩) m m) m (u8s Z)) (hl : Z.length = m) (hZ : ∀ x ∈ Z, 0 ≤ x ∧ x < 256) (hR : g < R) (hG : 0 < g) (hn : n ≤ 8 * m) (hn8 : 8 * m < n + 8) (hmm : m ≤ 100000) :
    Calls Tryz.prog 64 #[.pointer (some ⟨R, 0, none⟩)] w fun e w' => e = .returned (.tuple #[]) ∧ w'.ownsRow base 5 1 (.slice (some ⟨g, 0, none⟩) m m) m (u8s (cl Z (8 * m - n))) ∧
      w'.cell? ⟨R, 0, none⟩ = some (.int .i64 n) ∧ w'.cell? ⟨R, 1, none⟩ = some (.slice (some ⟨g, 0, none⟩) m m) ∧ Below g w w' ∧ w'.heap.size = w.heap.size := by
  have Hm := hide hm
  have Hown := hide hown
  have HZ := hide hZ
  clear hm hown hZ
  go_enter Tryz.func64, Tryz.ntmps64
  go_wp2_with fail
  go_region
  go_wp2_with fail
  go_loopw [2, 14] (fun jv iv wr => ∃ k : Nat, (k : Int) ≤ 8 * (m : Int) - n ∧ iv = .int .i64 k ∧ wr.ownsRow base 5 1 (.slice (some ⟨g, 0, none⟩) m m) m (u8s (cl Z k)) ∧
      wr.cell? ⟨R, 0, none⟩ = some (.int .i64 n) ∧ wr.cell? ⟨R, 1, none⟩ = some (.slice (some ⟨g, 0, none⟩) m m) ∧ Below g w wr ∧ wr.heap.size = w.heap.size) (fun _ iv _ => 8 * m - n - (intOf iv).toNat)
  case atStart => exact ⟨0, by omega, rfl, by rw [cl_zero]; exact (unhide Hown).drew, h0, h1, (Below.refl g w).drew, rfl⟩
  case round =>
    obtain ⟨k, hk, rfl, hown, r0, r1, hb, hsz⟩ := hrel
    clear h0 h1
    by_cases hlt : (k : Int) < 8 * (m : Int) - n
    · have hm0 : 0 < m := by omega
      have hk8 : k < 8 := by omega
      have hmask : wr.cell? ⟨0, 7 - k, none⟩ = some (.int .u8 (2 ^ k)) := by
        have := (hb.cell (p := ⟨0, 7 - k, none⟩) hG).trans ((unhide Hm).2 (7 - k) (by omega))
        rw [show 7 - (7 - k) = k by omega] at this
        exact this
      have hc := own_cell hown (m - 1) (by omega)
      have hf := hown.frozenAt (m - 1)
      have hS := hide (cl_step Z k hk8 (unhide HZ) (by omega))
      have hown2 := hide (own_set hown (m - 1))
      obtain ⟨y, hy⟩ : ∃ y, y = (cl Z k).getD (m - 1) 0 := ⟨_, rfl⟩
      rw [← hy] at hc
      have HY := hide hy
      have Hb := hide hb
      clear hy hb hown
      have e1 : IntKind.i64.wrap ((m : Int) - 1) = ((m - 1 : Nat) : Int) := by simp [IntKind.wrap, IntKind.bits, IntKind.signed]; omega
      go_wp2_with fail
      go_region
      have hown3 := unhide hown2 (bits .andNot .u8 y (2 ^ k))
      have e3 : (cl Z k).set (m - 1) (bits .andNot .u8 y (2 ^ k)) = cl Z (k + 1) := by
        have := unhide hS
        rw [hl, ← unhide HY] at this
        exact this
      rw [e3] at hown3
      obtain ⟨w5, hw5⟩ : ∃ w5, w5 = (wr.setCell ⟨g, m - 1, none⟩ (.int .u8 (bits .andNot .u8 y (2 ^ k)))).drew := ⟨_, rfl⟩
      have hown6 : w5.ownsRow base 5 1 (.slice (some ⟨g, 0, none⟩) m m) m (u8s (cl Z (k + 1))) := by rw [hw5]; exact hown3
      have hb6 : Below g w w5 := by rw [hw5]; exact ((unhide Hb).setCell (Nat.le_refl _) _).drew
      have c0 : w5.cell? ⟨R, 0, none⟩ = some (.int .i64 n) := by rw [hw5]; exact (World.cell?_setCell_other _ _ _ _ (by simp)).trans r0
      have c1 : w5.cell? ⟨R, 1, none⟩ = some (.slice (some ⟨g, 0, none⟩) m m) := by rw [hw5]; exact (World.cell?_setCell_other _ _ _ _ (by simp)).trans r1
      have hs6 : w5.heap.size = w.heap.size := by rw [hw5]; simpa using hsz
      rw [← hw5]
      have H6 := hide hown6
      have HB6 := hide hb6
      have HC0 := hide c0
      have HC1 := hide c1
      have HS6 := hide hs6
      clear hown3 hw5 r0 r1 e3 e1 hmask hc hf hsz hown6 hb6 c0 c1 hs6
      go_wp2_with fail
      go_roundw
      case rel => exact ⟨k + 1, by omega, by go_num, unhide H6, unhide HC0, unhide HC1, unhide HB6, unhide HS6⟩
      case measure => simp [intOf]; omega
    · have hkn : 8 * m - n = k := by omega
      have Hown' := hide hown
      have Hb := hide hb
      have HN := hide hkn
      clear hown hb hkn
      go_wp2_with fail
      go_end0
      exact ⟨rfl, by rw [unhide HN]; exact unhide Hown', r0, r1, unhide Hb, hsz⟩

end Go.Proofs.YthikciimaegphaaGreatDoor
/- A copy out of a text that is at least as long as the row of bytes it is laid into: a law for the walk. -/
namespace Go.Proofs.YthikciimaegphaaGreatDoor
open Go.RowKit Go.Deep

/-- The first m bytes of a text, as cells. -/
def firstCells (t : ByteArray) (m : Nat) : List Value := (t.data.toList.take m).map fun b => Value.int .u8 (b.toNat : Int)
theorem firstCells_length (t : ByteArray) (m : Nat) (h : m ≤ t.size) : (firstCells t m).length = m := by
  simp [firstCells]; have : t.data.size = t.size := rfl; omega
theorem firstCells_one (t : ByteArray) (m : Nat) : ∀ v ∈ firstCells t m, v.oneCell' = true := by
  intro v hv
  obtain ⟨b, _, rfl⟩ := List.mem_map.1 hv
  rfl

theorem run_copy_str {P : Program} (w : World) (dT sT ty elem : TypeId) (g m dCap : Nat) (s : ByteArray) (cur : Array Value) (t : TypeId)
    (hu : P.underlying dT = some (.slice elem)) (hs : (P.info? elem).map (·.size) = some 1) (hg : w.heap[g]? = some (.cells cur t (0, 0))) (hle : m ≤ s.size) (hfit : m = cur.size) :
    (Builtin.copy_ #[dT, sT] ty #[.slice (some ⟨g, 0, none⟩) m dCap, .string s]).run P w = .ok (goInt m) (w.setRow g (firstCells s m).toArray) := by
  have hlen := firstCells_length s m hle
  have hst := run_storeCells_at P g 0 t (firstCells s m) 0 cur w hg (by rw [hlen]; omega) (firstCells_one s m)
  have hmin : Nat.min s.size m = m := Nat.min_eq_right hle
  have htk : List.take m (List.map (fun b : UInt8 => Value.int IntKind.u8 (b.toNat : Int)) s.data.toList) = firstCells s m := by
    rw [← List.map_take]; rfl
  rw [hlen] at hst
  simp only [Nat.add_zero] at hst
  cases hq : P.info? elem with
  | none => simp [hq] at hs
  | some i =>
    simp [Builtin.copy_, run_underlying hu, Builtin.lenOf, Builtin.firstCells, sizeOf, typeInfo, hq, hmin]
    rw [htk, hst]
    have e : cur.toList.drop m = [] := by rw [List.drop_eq_nil_iff]; simp; omega
    simp [Result.andThen, e]

/-- The same as one step of a region that draws its order. -/
theorem step_copy_str {P : Program} {ops : Array Oper} {o : Oper} {a : Act} {w : World} {K : Act → World → Prop} {Q : Exit → Act → World → Prop} {E : Prop} (hgd : o.guard = none) (d x : Operand) (dT sT : TypeId)
    (ho : o.op = .call { callee := .builtin .copy, args := #[d, x], argTypes := #[dT, sT] }) (elem : TypeId) (hu : P.underlying dT = some (.slice elem)) (hsz : (P.info? elem).map (·.size) = some 1)
    (g m dCap : Nat) (hd : a.eval d = .slice (some ⟨g, 0, none⟩) m dCap) (s : ByteArray) (hx : a.eval x = .string s) (cur : Array Value) (t : TypeId) (hg : w.heap[g]? = some (.cells cur t (0, 0))) (hle : m ≤ s.size) (hfit : m = cur.size)
    (h : K (a.put o.dst (goInt m)) (w.setRow g (firstCells s m).toArray)) :
    if Region.wanted o (yielded ops a.tmps) = true then Oper.wp P o a w K Q else E := by
  have hw : Region.wanted o (yielded ops a.tmps) = true := by simp [Region.wanted, hgd]
  rw [if_pos hw]
  have hrun := run_copy_str (P := P) w dT sT o.type elem g m dCap s cur t hu hsz hg hle hfit
  unfold Oper.wp
  simp [execOp, ho, resolve, invoke, builtin, hd, hx, hrun, Result.andThen]
  exact h

theorem firstCells_whole (s : ByteArray) (f m : Nat) (h8 : f % 8 = 0) (hm : f / 8 + m ≤ s.size) : firstCells (s.extract (f / 8) s.size) m = u8s (fullBytes s f m) := by
  have hsz : s.data.size = s.size := rfl
  apply List.ext_getElem?
  intro j
  by_cases hj : j < m
  · have e : full s f j = byt s (f / 8 + j) := by
      have := full_whole s (f / 8) j
      rw [show 8 * (f / 8) = f by omega] at this
      exact this
    have hd : (s.extract (f / 8) s.size).data.toList[j]? = some (s[f / 8 + j]'(by omega)) := by
      rw [ByteArray.data_extract, Array.getElem?_toList, Array.getElem?_extract]
      rw [if_pos (by omega), Array.getElem?_eq_getElem (by omega)]
      rfl
    rw [u8s, List.getElem?_map, fullBytes_get _ _ _ _ hj, e]
    unfold firstCells
    rw [List.getElem?_map, List.getElem?_take, if_pos hj, hd, byt_get s (f / 8 + j) (by omega)]
    rfl
  · rw [List.getElem?_eq_none (by rw [firstCells_length _ _ (by simp; omega)]; omega), List.getElem?_eq_none (by simp [u8s, fullBytes_length]; omega)]

theorem cell_setRow_other {w : World} {g R o : Nat} {cs : Array Value} (h : g ≠ R) : (w.setRow g cs).cell? ⟨R, o, none⟩ = w.cell? ⟨R, o, none⟩ := by
  unfold World.cell? World.setRow
  simp [Array.getElem?_modify, h]

theorem own_setRow {w : World} {base g m : Nat} {e : TypeId} {cur : Array Value} {vs : List Value} (hg : w.heap[g]? = some (.cells cur e (0, 0))) (hb : base ≤ g) (hl : vs.length = m) (hm : m ≤ maxLen) :
    (w.setRow g vs.toArray).ownsRow base e 1 (.slice (some ⟨g, 0, none⟩) m m) m vs :=
  ⟨by simpa using hl, .inr ⟨g, m, vs.toArray, rfl, hb, setRow_heap w g _ _ e _ hg, Nat.le_refl _, hm, by simpa using hl, by rw [Nat.mul_one, List.take_of_length_le (by simp; omega)]⟩⟩

end Go.Proofs.YthikciimaegphaaGreatDoor
/- impl's cut: bits cut out of a row. -/
namespace Go.Proofs.YthikciimaegphaaGreatDoor
open Go.RowKit Go.Deep

set_option maxRecDepth 100000 in
set_option maxHeartbeats 1000000 in
theorem icut_any (n : Int) (s : ByteArray) (f K : Nat) (w : World) (hm : Masks 0 w) (hfk : f + K ≤ 8 * s.size) (hss : s.size ≤ 1048576) (hK : K ≤ 100000) :
    Calls Tryz.prog 41 #[.agg #[.int .i64 n, .string s], .int .i64 f, .int .i64 K] w fun e w' => e = .returned (.agg #[.int .i64 K, .string (strB (cutBits s f K))]) ∧ Below w.heap.size w w' := by
  have Hm := hide hm
  have hGw := hm.1
  obtain ⟨W0, hW0⟩ : ∃ W0, W0 = (w.alloc (.cells #[.int .i64 n, .string s] 25)).alloc (.cells #[.int .i64 0, .string ⟨#[]⟩] 25) := ⟨_, rfl⟩
  have hs0 : W0.heap.size = w.heap.size + 2 := by rw [hW0]; simp
  have hb0 : Below w.heap.size w W0 := by rw [hW0]; exact ((Below.refl w.heap.size w).alloc (Nat.le_refl _) _).alloc (by simp) _
  have F : ∀ w', Below W0.heap.size W0 w' → w'.cell? ⟨w.heap.size, 0, none⟩ = some (.int .i64 n) ∧ w'.cell? ⟨w.heap.size, 1, none⟩ = some (.string s) := fun w' hb => by
    rw [hW0] at hb
    exact box2 w _ _ _ ((((Below.refl (w.heap.size + 1) (w.alloc (.cells #[.int .i64 n, .string s] 25))).alloc (by simp) _)).trans (hb.mono (by simp)))
  have G : ∀ w', Below W0.heap.size W0 w' → (w'.cell? ⟨w.heap.size + 1, 0, none⟩ = some (.int .i64 0) ∧ w'.cell? ⟨w.heap.size + 1, 1, none⟩ = some (.string ⟨#[]⟩)) ∧ ∀ o, w'.frozen? ⟨w.heap.size + 1, o, none⟩ = false := fun w' hb => by
    have h := box2 (w.alloc (.cells #[.int .i64 n, .string s] 25)) (.int .i64 0) (.string ⟨#[]⟩) 25 (w' := w') (by rw [hW0] at hb; simpa using hb)
    have h' := box2f (w.alloc (.cells #[.int .i64 n, .string s] 25)) (.int .i64 0) (.string ⟨#[]⟩) 25 (w' := w') (by rw [hW0] at hb; simpa using hb)
    simp only [World.size_alloc] at h h'
    exact ⟨h, h'⟩
  have HF := hide F
  have HG := hide G
  have Hb0 := hide hb0
  have HW := hide hW0
  clear hm F G hb0
  go_enter Tryz.func41, Tryz.ntmps41
  go_wp2_with fail
  rw [← unhide HW]
  clear hW0
  refine (newRow_any K W0 hK).mono ?_
  rintro e w1 ⟨g, rfl, hown, hb1⟩
  have hs1 := hb1.size
  have hg := (hown.lt g rfl)
  have Hown := hide hown
  have Hb1 := hide hb1
  clear hown hb1
  by_cases h8 : f % 8 = 0
  · have h8' : ((f : Int) % 8 == 0) = true := by simp; omega
    go_wp2_with fail
    obtain ⟨R, hR⟩ : ∃ R, R = w1.heap.size := ⟨_, rfl⟩
    obtain ⟨m, hm⟩ : ∃ m, m = (K + 7) / 8 := ⟨_, rfl⟩
    have HCut := hide (cut_bytes s f K)
    rw [← hm] at HCut
    have hn0 : K ≤ 8 * m := by omega
    have hn8 : 8 * m < K + 8 := by omega
    have hmm : m ≤ 100000 := by omega
    have hmq : f / 8 + m ≤ s.size := by omega
    have hgR : g < R := by omega
    have hgW : W0.heap.size ≤ g := hg.1
    have hGg : 0 < g := by omega
    have hlm : (bytesAt (cutBits s f K) K).length = m := by rw [bytesAt_length, cutBits_length, hm]
    have hc := two_new w1 (.int .i64 K) (.slice (some ⟨g, 0, none⟩) m m) 58
    rw [← hR] at hc
    rw [← hR, ← hm]
    have hown1 := unhide Hown
    rw [← hm] at hown1
    have hb2 := (unhide Hb1).alloc hs1 (.cells #[.int .i64 K, .slice (some ⟨g, 0, none⟩) m m] 58)
    have hY2 := hown1.alloc (.cells #[.int .i64 K, .slice (some ⟨g, 0, none⟩) m m] 58)
    have hs2 : R < (w1.alloc (.cells #[.int .i64 K, .slice (some ⟨g, 0, none⟩) m m] 58)).heap.size := by rw [hR]; simp
    obtain ⟨w2, hw2⟩ : ∃ w2, w2 = w1.alloc (.cells #[.int .i64 K, .slice (some ⟨g, 0, none⟩) m m] 58) := ⟨_, rfl⟩
    rw [← hw2] at hc hb2 hY2 hs2 ⊢
    obtain ⟨r0, r1⟩ := hc
    obtain ⟨f0, f1⟩ := unhide HF w2 hb2
    have hheap : ∃ cur, w2.heap[g]? = some (.cells cur 5 (0, 0)) ∧ m = cur.size := by
      rcases hY2.2 with ⟨h', _⟩ | ⟨g', cap', cur, h', _, hh, _, _, hsz, _⟩
      · simp at h'
      · simp only [Value.slice.injEq, Option.some.injEq, Addr.mk.injEq, and_true, true_and] at h'
        obtain ⟨rfl, rfl⟩ := h'
        exact ⟨cur, hh, by omega⟩
    obtain ⟨cur, hcur, hcs⟩ := hheap
    have Hcur := hide hcur
    have Hcs := hide hcs
    have hA : 0 ≤ (f : Int) / 8 := by omega
    have hB : (f : Int) / 8 ≤ s.size := by omega
    have hC : ((f : Int) / 8).toNat = f / 8 := by omega
    have hWr : IntKind.i64.wrap ((f : Int) / 8) = (f : Int) / 8 := by simp [IntKind.wrap, IntKind.bits, IntKind.signed]; omega
    have Hb2 := hide hb2
    clear hw2 hb2 hY2 hown1 hcur hcs hR hm hs1 hg h8'
    go_wp2_with fail
    go_region_law (refine step_copy_str rfl (.tmp 15) (.tmp 20) 33 9 rfl 5 Tryz.underlying33 (by kernel_rfl) g m m rfl _ rfl cur 5 (unhide Hcur) (by simp; omega) (unhide Hcs) ?_)
    all_goals
      obtain ⟨w3, hw3⟩ : ∃ w3, w3 = w2.drew.setRow g (firstCells (s.extract (f / 8) s.size) m).toArray := ⟨_, rfl⟩
      have own3 : w3.ownsRow W0.heap.size 5 1 (.slice (some ⟨g, 0, none⟩) m m) m (u8s (fullBytes s f m)) := by
        rw [hw3, ← firstCells_whole s f m h8 hmq]
        exact own_setRow (unhide Hcur) hgW (firstCells_length _ _ (by simp; omega)) (by unfold maxLen; omega)
      have hb3 : Below W0.heap.size W0 w3 := by rw [hw3]; exact below_setRow (unhide Hb2).drew hgW _
      have c0 : w3.cell? ⟨R, 0, none⟩ = some (.int .i64 K) := by rw [hw3]; exact (cell_setRow_other (by omega)).trans r0
      have c1 : w3.cell? ⟨R, 1, none⟩ = some (.slice (some ⟨g, 0, none⟩) m m) := by rw [hw3]; exact (cell_setRow_other (by omega)).trans r1
      have hs3 : R < w3.heap.size := by rw [hw3]; simpa [World.setRow] using hs2
      rw [← hw3]
      have H3 := hide own3
      have Hb3 := hide hb3
      clear hw3 own3 hb3 r0 r1 hs2 f0 f1 hA hB hC hWr
      go_wp2_with fail
      refine (clearEnd_any R g m K W0.heap.size (fullBytes s f m) w3 ((unhide Hm).keep ((unhide Hb0).trans ((unhide Hb3).mono (unhide Hb0).size))) c0 c1 (unhide H3) (fullBytes_length s f m) (full_mem s f m) hgR hGg hn0 hn8 hmm).mono ?_
      rintro e w4 ⟨rfl, own4, d0, d1, hb4, hs4⟩
      rw [unhide HCut] at own4
      have hb5 := (unhide Hb3).trans (hb4.mono hgW)
      have hR4 : R < w4.heap.size := by omega
      have hc := hide (fun i (hi : i < m) => own_cell own4 i hi)
      have Hb5 := hide hb5
      clear hb4 hb5 own4 c0 c1
      go_wp2_with fail
      refine (rbits_any R g m m K (bytesAt (cutBits s f K) K) w4 d0 d1 hR4 hlm (unhide hc) (by omega)).mono ?_
      rintro e w5 ⟨rfl, hb6⟩
      have hb7 := (unhide Hb5).trans (hb6.mono (unhide Hb5).size)
      obtain ⟨⟨q0, q1⟩, q2⟩ := unhide HG w5 hb7
      have q20 := q2 0
      have q21 := q2 1
      have Hb7 := hide hb7
      have e2 : strOfNums (bytesAt (cutBits s f K) K) = strB (cutBits s f K) := by unfold strB; rw [cutBits_length]
      rw [e2]
      obtain ⟨S, hS⟩ : ∃ S, S = strB (cutBits s f K) := ⟨_, rfl⟩
      rw [← hS]
      have HS := hide hS
      clear hb6 hb7 q2 e2 hS d0 d1
      go_wp2_with fail
      exact bodyPost_ret (v := .agg #[.int .i64 K, .string S]) (by simp [results, Tryz.results41, go_sem, q0, q1]) rfl ⟨by rw [unhide HS], (((unhide Hb0).trans ((unhide Hb7).mono (unhide Hb0).size)).setCell (by show w.heap.size ≤ w.heap.size + 1; omega) _).setCell (by show w.heap.size ≤ w.heap.size + 1; omega) _⟩
  · have h8' : ((f : Int) % 8 == 0) = false := by simp; omega
    go_wp2_with fail
    obtain ⟨R, hR⟩ : ∃ R, R = w1.heap.size := ⟨_, rfl⟩
    obtain ⟨m, hm⟩ : ∃ m, m = (K + 7) / 8 := ⟨_, rfl⟩
    have HCut := hide (cut_bytes s f K)
    rw [← hm] at HCut
    have hn0 : K ≤ 8 * m := by omega
    have hn8 : 8 * m < K + 8 := by omega
    have hmm : m ≤ 100000 := by omega
    have hmq : f / 8 + m ≤ s.size := by omega
    have hgR : g < R := by omega
    have hgW : W0.heap.size ≤ g := hg.1
    have hGg : 0 < g := by omega
    have hlm : (bytesAt (cutBits s f K) K).length = m := by rw [bytesAt_length, cutBits_length, hm]
    have hc := two_new w1 (.int .i64 K) (.slice (some ⟨g, 0, none⟩) m m) 58
    rw [← hR] at hc
    rw [← hR, ← hm]
    have hown1 := unhide Hown
    rw [← hm] at hown1
    have hb2 := (unhide Hb1).alloc hs1 (.cells #[.int .i64 K, .slice (some ⟨g, 0, none⟩) m m] 58)
    have hY2 := hown1.alloc (.cells #[.int .i64 K, .slice (some ⟨g, 0, none⟩) m m] 58)
    have hs2 : R < (w1.alloc (.cells #[.int .i64 K, .slice (some ⟨g, 0, none⟩) m m] 58)).heap.size := by rw [hR]; simp
    obtain ⟨w2, hw2⟩ : ∃ w2, w2 = w1.alloc (.cells #[.int .i64 K, .slice (some ⟨g, 0, none⟩) m m] 58) := ⟨_, rfl⟩
    rw [← hw2] at hc hb2 hY2 hs2 ⊢
    have hmq : ∀ k, k < m → (f + 8 * k) / 8 < s.size := fun k hk => by omega
    have hmod : ∀ k, (f + 8 * k) % 8 ≠ 0 := fun k => by omega
    have hY0 : w2.ownsRow W0.heap.size 5 1 (.slice (some ⟨g, 0, none⟩) m m) m (u8s (part s f m 0)) := by rw [part_zero]; exact hY2
    obtain ⟨r0, r1⟩ := hc
    have Hb2 := hide hb2
    have HY := hide hY0
    clear hw2 hb2 hY2 hY0 hown1 hR hm hs1 hg h8'
    go_wp2_with fail
    have HR := hide (And.intro r0 (And.intro r1 hs2))
    clear r0 r1 hs2
    go_loopw [8, 25] (fun jv iv wr => ∃ k : Nat, k ≤ m ∧ iv = .int .i64 k ∧ Below W0.heap.size W0 wr ∧ wr.cell? ⟨R, 0, none⟩ = some (.int .i64 K) ∧ wr.cell? ⟨R, 1, none⟩ = some (.slice (some ⟨g, 0, none⟩) m m) ∧ R < wr.heap.size ∧
        wr.ownsRow W0.heap.size 5 1 (.slice (some ⟨g, 0, none⟩) m m) m (u8s (part s f m k))) (fun _ iv _ => m - (intOf iv).toNat)
    case atStart => exact ⟨0, Nat.zero_le _, rfl, unhide Hb2, (unhide HR).1, (unhide HR).2.1, (unhide HR).2.2, unhide HY⟩
    case round =>
      obtain ⟨k, hk, rfl, hb, r0, r1, hRs, hown⟩ := hrel
      obtain ⟨f0, f1⟩ := unhide HF wr hb
      have Hb := hide hb
      have Hown := hide hown
      by_cases hlt : k < m
      · have hB0 := fun w => byteAt_any n s (f + 8 * k) w
        have eB : ((f + 8 * k : Nat) : Int) = (f : Int) + 8 * (k : Int) := by omega
        rw [eB] at hB0
        have hB := hide hB0
        have eW1 : IntKind.i64.wrap (8 * (k : Int)) = 8 * (k : Int) := by simp [IntKind.wrap, IntKind.bits, IntKind.signed]; omega
        have eW2 : IntKind.i64.wrap ((f : Int) + 8 * (k : Int)) = (f : Int) + 8 * (k : Int) := by simp [IntKind.wrap, IntKind.bits, IntKind.signed]; omega
        clear hB0 eB
        have hP := hide (part_succ s f m k hlt)
        have hq := hmq k hlt
        have hne := hmod k
        have hdr : Below wr.heap.size wr wr.drew := (Below.refl _ _).drew
        have Hdr := hide hdr
        have hcg := own_cell hown k hlt
        have hfg := hown.frozenAt k
        obtain ⟨y, hy⟩ : ∃ y, y = (part s f m k).getD k 0 := ⟨_, rfl⟩
        rw [← hy] at hcg
        obtain ⟨z, hz⟩ : ∃ z, z = full s (f + 8 * k) 0 := ⟨_, rfl⟩
        rw [← hz] at hB hP
        have hgs : g < wr.heap.size := by omega
        clear hb hown hdr hmq hmod hy hz
        go_wp2_with fail
        go_region_with (go_at_call 63; refine (unhide hB _ hq hne (by omega)).mono ?_; rintro e w3 ⟨rfl, hb3⟩; have hB3 := (unhide Hdr).trans hb3; have c0 := (hB3.cell (p := ⟨R, 0, none⟩) hRs).trans r0; have c1 := (hB3.cell (p := ⟨R, 1, none⟩) hRs).trans r1; have c2 := (hB3.cell (p := ⟨g, k, none⟩) hgs).trans hcg; have c3 := (hB3.frozen (p := ⟨g, k, none⟩) hgs).trans hfg; have HB3 := hide hB3; clear hb3 hB3)
        all_goals
          have own3 := own_set (ownsRow_below (unhide Hown) (unhide HB3)) k z
          rw [← unhide hP] at own3
          obtain ⟨w5, hw5⟩ : ∃ w5, w5 = w3.setCell ⟨g, k, none⟩ (.int .u8 z) := ⟨_, rfl⟩
          have own5 : w5.ownsRow W0.heap.size 5 1 (.slice (some ⟨g, 0, none⟩) m m) m (u8s (part s f m (k + 1))) := by rw [hw5]; exact own3
          have hb5 : Below W0.heap.size W0 w5 := by rw [hw5]; exact (((unhide Hb).trans ((unhide HB3).mono (unhide Hb).size)).setCell hgW _)
          have q0 : w5.cell? ⟨R, 0, none⟩ = some (.int .i64 K) := by rw [hw5]; exact (World.cell?_setCell_other _ _ _ _ (by simp)).trans c0
          have q1 : w5.cell? ⟨R, 1, none⟩ = some (.slice (some ⟨g, 0, none⟩) m m) := by rw [hw5]; exact (World.cell?_setCell_other _ _ _ _ (by simp)).trans c1
          have hs5 : R < w5.heap.size := by rw [hw5]; have := (unhide HB3).size; simp; omega
          rw [← hw5]
          have H5 := hide own5
          have HB5 := hide hb5
          clear hw5 own3 own5 hb5 c0 c1 c2 c3
          go_wp2_with fail
          go_roundw
          case rel => exact ⟨k + 1, by omega, by go_num, unhide HB5, q0, q1, hs5, unhide H5⟩
          case measure => simp [intOf]; omega
      · have hkm : k = m := by omega
        subst hkm
        have own3 := hown
        rw [part_all] at own3
        obtain ⟨w3, hw3⟩ : ∃ w3, w3 = wr := ⟨_, rfl⟩
        rw [← hw3] at own3 hb r0 r1 hRs ⊢
        have H3 := hide own3
        have Hb3 := hide hb
        have c0 := r0
        have c1 := r1
        have hs3 := hRs
        clear own3 hb hown r0 r1 hRs f0 f1 hw3 hmq hmod
        go_wp2_with fail
        refine (clearEnd_any R g k K W0.heap.size (fullBytes s f k) w3 ((unhide Hm).keep ((unhide Hb0).trans ((unhide Hb3).mono (unhide Hb0).size))) c0 c1 (unhide H3) (fullBytes_length s f k) (full_mem s f k) hgR hGg hn0 hn8 hmm).mono ?_
        rintro e w4 ⟨rfl, own4, d0, d1, hb4, hs4⟩
        rw [unhide HCut] at own4
        have hb5 := (unhide Hb3).trans (hb4.mono hgW)
        have hR4 : R < w4.heap.size := by omega
        have hc := hide (fun i (hi : i < k) => own_cell own4 i hi)
        have Hb5 := hide hb5
        clear hb4 hb5 own4 c0 c1
        go_wp2_with fail
        refine (rbits_any R g k k K (bytesAt (cutBits s f K) K) w4 d0 d1 hR4 hlm (unhide hc) (by omega)).mono ?_
        rintro e w5 ⟨rfl, hb6⟩
        have hb7 := (unhide Hb5).trans (hb6.mono (unhide Hb5).size)
        obtain ⟨⟨q0, q1⟩, q2⟩ := unhide HG w5 hb7
        have q20 := q2 0
        have q21 := q2 1
        have Hb7 := hide hb7
        have e2 : strOfNums (bytesAt (cutBits s f K) K) = strB (cutBits s f K) := by unfold strB; rw [cutBits_length]
        rw [e2]
        obtain ⟨S, hS⟩ : ∃ S, S = strB (cutBits s f K) := ⟨_, rfl⟩
        rw [← hS]
        have HS := hide hS
        clear hb6 hb7 q2 e2 hS d0 d1
        go_wp2_with fail
        exact bodyPost_ret (v := .agg #[.int .i64 K, .string S]) (by simp [results, Tryz.results41, go_sem, q0, q1]) rfl ⟨by rw [unhide HS], (((unhide Hb0).trans ((unhide Hb7).mono (unhide Hb0).size)).setCell (by show w.heap.size ≤ w.heap.size + 1; omega) _).setCell (by show w.heap.size ≤ w.heap.size + 1; omega) _⟩

end Go.Proofs.YthikciimaegphaaGreatDoor
