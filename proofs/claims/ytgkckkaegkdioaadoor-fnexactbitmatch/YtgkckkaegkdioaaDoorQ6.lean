/- A copy out of a text that is at least as long as the row of bytes it is laid into: a law for the walk. -/
import Derived.Test.YtgkckkaegkdioaaDoorQ5
import Derived.Deep.RegionLaw
import Derived.Lib.BufferWrite
import Derived.Laws.CopyOwn
import Derived.Deep.RegionWith
import Derived.Test.YtgkckkaegkdioaaDoorQ4
import Derived.Deep.RegionHeld3
import Derived.Test.YtgkckkaegkdioaaDoorQ2
import Derived.BigQuiet
import Derived.WalkSmall
namespace Go.Proofs.YtgkckkaegkdioaaDoor
open Go.RowKit Go.Deep

/-- The first m bytes of a text, as cells. -/
def firstCells (t : ByteArray) (m : Nat) : List Value := (t.data.toList.take m).map fun b => Value.int .u8 (b.toNat : Int)
theorem firstCells_length (t : ByteArray) (m : Nat) (h : m ≤ t.size) : (firstCells t m).length = m := by
  simp [firstCells]; have : t.data.size = t.size := rfl; omega
theorem firstCells_one (t : ByteArray) (m : Nat) : ∀ v ∈ firstCells t m, v.oneCell' = true := by
  intro v hv
  obtain ⟨b, _, rfl⟩ := List.mem_map.1 hv
  rfl

theorem run_copy_str {P : Program} (w : World) (dT sT ty elem : TypeId) (g m dCap : Nat) (s : ByteArray) (cur : Array Value) (t : TypeId)
    (hu : P.underlying dT = some (.slice elem)) (hs : (P.info? elem).map (·.size) = some 1) (hg : w.heap[g]? = some (.cells cur t (0, 0))) (hle : m ≤ s.size) (hfit : m = cur.size) :
    (Builtin.copy_ #[dT, sT] ty #[.slice (some ⟨g, 0, none⟩) m dCap, .string s]).run P w = .ok (goInt m) (w.setRow g (firstCells s m).toArray) := by
  have hlen := firstCells_length s m hle
  have hst := run_storeCells_at P g 0 t (firstCells s m) 0 cur w hg (by rw [hlen]; omega) (firstCells_one s m)
  have hmin : Nat.min s.size m = m := Nat.min_eq_right hle
  have htk : List.take m (List.map (fun b : UInt8 => Value.int IntKind.u8 (b.toNat : Int)) s.data.toList) = firstCells s m := by
    rw [← List.map_take]; rfl
  rw [hlen] at hst
  simp only [Nat.add_zero] at hst
  cases hq : P.info? elem with
  | none => simp [hq] at hs
  | some i =>
    simp [Builtin.copy_, run_underlying hu, Builtin.lenOf, Builtin.firstCells, sizeOf, typeInfo, hq, hmin]
    rw [htk, hst]
    have e : cur.toList.drop m = [] := by rw [List.drop_eq_nil_iff]; simp; omega
    simp [Result.andThen, e]

/-- The same as one step of a region that draws its order. -/
theorem step_copy_str {P : Program} {ops : Array Oper} {o : Oper} {a : Act} {w : World} {K : Act → World → Prop} {Q : Exit → Act → World → Prop} {E : Prop} (hgd : o.guard = none) (d x : Operand) (dT sT : TypeId)
    (ho : o.op = .call { callee := .builtin .copy, args := #[d, x], argTypes := #[dT, sT] }) (elem : TypeId) (hu : P.underlying dT = some (.slice elem)) (hsz : (P.info? elem).map (·.size) = some 1)
    (g m dCap : Nat) (hd : a.eval d = .slice (some ⟨g, 0, none⟩) m dCap) (s : ByteArray) (hx : a.eval x = .string s) (cur : Array Value) (t : TypeId) (hg : w.heap[g]? = some (.cells cur t (0, 0))) (hle : m ≤ s.size) (hfit : m = cur.size)
    (h : K (a.put o.dst (goInt m)) (w.setRow g (firstCells s m).toArray)) :
    if Region.wanted o (yielded ops a.tmps) = true then Oper.wp P o a w K Q else E := by
  have hw : Region.wanted o (yielded ops a.tmps) = true := by simp [Region.wanted, hgd]
  rw [if_pos hw]
  have hrun := run_copy_str (P := P) w dT sT o.type elem g m dCap s cur t hu hsz hg hle hfit
  unfold Oper.wp
  simp [execOp, ho, resolve, invoke, builtin, hd, hx, hrun, Result.andThen]
  exact h

theorem firstCells_whole (s : ByteArray) (f m : Nat) (h8 : f % 8 = 0) (hm : f / 8 + m ≤ s.size) : firstCells (s.extract (f / 8) s.size) m = u8s (fullBytes s f m) := by
  have hsz : s.data.size = s.size := rfl
  apply List.ext_getElem?
  intro j
  by_cases hj : j < m
  · have e : full s f j = byt s (f / 8 + j) := by
      have := full_whole s (f / 8) j
      rw [show 8 * (f / 8) = f by omega] at this
      exact this
    have hd : (s.extract (f / 8) s.size).data.toList[j]? = some (s[f / 8 + j]'(by omega)) := by
      rw [ByteArray.data_extract, Array.getElem?_toList, Array.getElem?_extract]
      rw [if_pos (by omega), Array.getElem?_eq_getElem (by omega)]
      rfl
    rw [u8s, List.getElem?_map, fullBytes_get _ _ _ _ hj, e]
    unfold firstCells
    rw [List.getElem?_map, List.getElem?_take, if_pos hj, hd, byt_get s (f / 8 + j) (by omega)]
    rfl
  · rw [List.getElem?_eq_none (by rw [firstCells_length _ _ (by simp; omega)]; omega), List.getElem?_eq_none (by simp [u8s, fullBytes_length]; omega)]

theorem cell_setRow_other {w : World} {g R o : Nat} {cs : Array Value} (h : g ≠ R) : (w.setRow g cs).cell? ⟨R, o, none⟩ = w.cell? ⟨R, o, none⟩ := by
  unfold World.cell? World.setRow
  simp [Array.getElem?_modify, h]

theorem own_setRow {w : World} {base g m : Nat} {e : TypeId} {cur : Array Value} {vs : List Value} (hg : w.heap[g]? = some (.cells cur e (0, 0))) (hb : base ≤ g) (hl : vs.length = m) (hm : m ≤ maxLen) :
    (w.setRow g vs.toArray).ownsRow base e 1 (.slice (some ⟨g, 0, none⟩) m m) m vs :=
  ⟨by simpa using hl, .inr ⟨g, m, vs.toArray, rfl, hb, setRow_heap w g _ _ e _ hg, Nat.le_refl _, hm, by simpa using hl, by rw [Nat.mul_one, List.take_of_length_le (by simp; omega)]⟩⟩

end Go.Proofs.YtgkckkaegkdioaaDoor
/- impl's cut: bits cut out of a row. -/
namespace Go.Proofs.YtgkckkaegkdioaaDoor
open Go.RowKit Go.Deep

set_option maxRecDepth 100000 in
set_option maxHeartbeats 1000000 in
theorem icut_any (n : Int) (s : ByteArray) (f K : Nat) (w : World) (hm : Masks 0 w) (hfk : f + K ≤ 8 * s.size) (hss : s.size ≤ 1048576) (hK : K ≤ 100000) :
    Calls Tryd.prog 41 #[.agg #[.int .i64 n, .string s], .int .i64 f, .int .i64 K] w fun e w' => e = .returned (.agg #[.int .i64 K, .string (strB (cutBits s f K))]) ∧ Below w.heap.size w w' := by
  have Hm := hide hm
  have hGw := hm.1
  obtain ⟨W0, hW0⟩ : ∃ W0, W0 = (w.alloc (.cells #[.int .i64 n, .string s] 30)).alloc (.cells #[.int .i64 0, .string ⟨#[]⟩] 30) := ⟨_, rfl⟩
  have hs0 : W0.heap.size = w.heap.size + 2 := by rw [hW0]; simp
  have hb0 : Below w.heap.size w W0 := by rw [hW0]; exact ((Below.refl w.heap.size w).alloc (Nat.le_refl _) _).alloc (by simp) _
  have F : ∀ w', Below W0.heap.size W0 w' → w'.cell? ⟨w.heap.size, 0, none⟩ = some (.int .i64 n) ∧ w'.cell? ⟨w.heap.size, 1, none⟩ = some (.string s) := fun w' hb => by
    rw [hW0] at hb
    exact box2 w _ _ _ ((((Below.refl (w.heap.size + 1) (w.alloc (.cells #[.int .i64 n, .string s] 30))).alloc (by simp) _)).trans (hb.mono (by simp)))
  have G : ∀ w', Below W0.heap.size W0 w' → (w'.cell? ⟨w.heap.size + 1, 0, none⟩ = some (.int .i64 0) ∧ w'.cell? ⟨w.heap.size + 1, 1, none⟩ = some (.string ⟨#[]⟩)) ∧ ∀ o, w'.frozen? ⟨w.heap.size + 1, o, none⟩ = false := fun w' hb => by
    have h := box2 (w.alloc (.cells #[.int .i64 n, .string s] 30)) (.int .i64 0) (.string ⟨#[]⟩) 30 (w' := w') (by rw [hW0] at hb; simpa using hb)
    have h' := box2f (w.alloc (.cells #[.int .i64 n, .string s] 30)) (.int .i64 0) (.string ⟨#[]⟩) 30 (w' := w') (by rw [hW0] at hb; simpa using hb)
    simp only [World.size_alloc] at h h'
    exact ⟨h, h'⟩
  have HF := hide F
  have HG := hide G
  have Hb0 := hide hb0
  have HW := hide hW0
  clear hm F G hb0
  go_enter Tryd.func41, Tryd.ntmps41
  go_wp2_with fail
  rw [← unhide HW]
  clear hW0
  refine (newRow_any K W0 hK).mono ?_
  rintro e w1 ⟨g, rfl, hown, hb1⟩
  have hs1 := hb1.size
  have hg := (hown.lt g rfl)
  have Hown := hide hown
  have Hb1 := hide hb1
  clear hown hb1
  by_cases h8 : f % 8 = 0
  · have h8' : ((f : Int) % 8 == 0) = true := by simp; omega
    go_wp2_with fail
    obtain ⟨R, hR⟩ : ∃ R, R = w1.heap.size := ⟨_, rfl⟩
    obtain ⟨m, hm⟩ : ∃ m, m = (K + 7) / 8 := ⟨_, rfl⟩
    have HCut := hide (cut_bytes s f K)
    rw [← hm] at HCut
    have hn0 : K ≤ 8 * m := by omega
    have hn8 : 8 * m < K + 8 := by omega
    have hmm : m ≤ 100000 := by omega
    have hmq : f / 8 + m ≤ s.size := by omega
    have hgR : g < R := by omega
    have hgW : W0.heap.size ≤ g := hg.1
    have hGg : 0 < g := by omega
    have hlm : (bytesAt (cutBits s f K) K).length = m := by rw [bytesAt_length, cutBits_length, hm]
    have hc := two_new w1 (.int .i64 K) (.slice (some ⟨g, 0, none⟩) m m) 81
    rw [← hR] at hc
    rw [← hR, ← hm]
    have hown1 := unhide Hown
    rw [← hm] at hown1
    have hb2 := (unhide Hb1).alloc hs1 (.cells #[.int .i64 K, .slice (some ⟨g, 0, none⟩) m m] 81)
    have hY2 := hown1.alloc (.cells #[.int .i64 K, .slice (some ⟨g, 0, none⟩) m m] 81)
    have hs2 : R < (w1.alloc (.cells #[.int .i64 K, .slice (some ⟨g, 0, none⟩) m m] 81)).heap.size := by rw [hR]; simp
    obtain ⟨w2, hw2⟩ : ∃ w2, w2 = w1.alloc (.cells #[.int .i64 K, .slice (some ⟨g, 0, none⟩) m m] 81) := ⟨_, rfl⟩
    rw [← hw2] at hc hb2 hY2 hs2 ⊢
    obtain ⟨r0, r1⟩ := hc
    obtain ⟨f0, f1⟩ := unhide HF w2 hb2
    have hheap : ∃ cur, w2.heap[g]? = some (.cells cur 5 (0, 0)) ∧ m = cur.size := by
      rcases hY2.2 with ⟨h', _⟩ | ⟨g', cap', cur, h', _, hh, _, _, hsz, _⟩
      · simp at h'
      · simp only [Value.slice.injEq, Option.some.injEq, Addr.mk.injEq, and_true, true_and] at h'
        obtain ⟨rfl, rfl⟩ := h'
        exact ⟨cur, hh, by omega⟩
    obtain ⟨cur, hcur, hcs⟩ := hheap
    have Hcur := hide hcur
    have Hcs := hide hcs
    have hA : 0 ≤ (f : Int) / 8 := by omega
    have hB : (f : Int) / 8 ≤ s.size := by omega
    have hC : ((f : Int) / 8).toNat = f / 8 := by omega
    have hWr : IntKind.i64.wrap ((f : Int) / 8) = (f : Int) / 8 := by simp [IntKind.wrap, IntKind.bits, IntKind.signed]; omega
    have Hb2 := hide hb2
    clear hw2 hb2 hY2 hown1 hcur hcs hR hm hs1 hg h8'
    go_wp2_with fail
    go_region_law (refine step_copy_str rfl (.tmp 15) (.tmp 20) 51 9 rfl 5 Tryd.underlying51 (by kernel_rfl) g m m rfl _ rfl cur 5 (unhide Hcur) (by simp; omega) (unhide Hcs) ?_)
    all_goals
      obtain ⟨w3, hw3⟩ : ∃ w3, w3 = w2.drew.setRow g (firstCells (s.extract (f / 8) s.size) m).toArray := ⟨_, rfl⟩
      have own3 : w3.ownsRow W0.heap.size 5 1 (.slice (some ⟨g, 0, none⟩) m m) m (u8s (fullBytes s f m)) := by
        rw [hw3, ← firstCells_whole s f m h8 hmq]
        exact own_setRow (unhide Hcur) hgW (firstCells_length _ _ (by simp; omega)) (by unfold maxLen; omega)
      have hb3 : Below W0.heap.size W0 w3 := by rw [hw3]; exact below_setRow (unhide Hb2).drew hgW _
      have c0 : w3.cell? ⟨R, 0, none⟩ = some (.int .i64 K) := by rw [hw3]; exact (cell_setRow_other (by omega)).trans r0
      have c1 : w3.cell? ⟨R, 1, none⟩ = some (.slice (some ⟨g, 0, none⟩) m m) := by rw [hw3]; exact (cell_setRow_other (by omega)).trans r1
      have hs3 : R < w3.heap.size := by rw [hw3]; simpa [World.setRow] using hs2
      rw [← hw3]
      have H3 := hide own3
      have Hb3 := hide hb3
      clear hw3 own3 hb3 r0 r1 hs2 f0 f1 hA hB hC hWr
      go_wp2_with fail
      refine (clearEnd_any R g m K W0.heap.size (fullBytes s f m) w3 ((unhide Hm).keep ((unhide Hb0).trans ((unhide Hb3).mono (unhide Hb0).size))) c0 c1 (unhide H3) (fullBytes_length s f m) (full_mem s f m) hgR hGg hn0 hn8 hmm).mono ?_
      rintro e w4 ⟨rfl, own4, d0, d1, hb4, hs4⟩
      rw [unhide HCut] at own4
      have hb5 := (unhide Hb3).trans (hb4.mono hgW)
      have hR4 : R < w4.heap.size := by omega
      have hc := hide (fun i (hi : i < m) => own_cell own4 i hi)
      have Hb5 := hide hb5
      clear hb4 hb5 own4 c0 c1
      go_wp2_with fail
      refine (rbits_any R g m m K (bytesAt (cutBits s f K) K) w4 d0 d1 hR4 hlm (unhide hc) (by omega)).mono ?_
      rintro e w5 ⟨rfl, hb6⟩
      have hb7 := (unhide Hb5).trans (hb6.mono (unhide Hb5).size)
      obtain ⟨⟨q0, q1⟩, q2⟩ := unhide HG w5 hb7
      have q20 := q2 0
      have q21 := q2 1
      have Hb7 := hide hb7
      have e2 : strOfNums (bytesAt (cutBits s f K) K) = strB (cutBits s f K) := by unfold strB; rw [cutBits_length]
      rw [e2]
      obtain ⟨S, hS⟩ : ∃ S, S = strB (cutBits s f K) := ⟨_, rfl⟩
      rw [← hS]
      have HS := hide hS
      clear hb6 hb7 q2 e2 hS d0 d1
      go_wp2_with fail
      exact bodyPost_ret (v := .agg #[.int .i64 K, .string S]) (by simp [results, Tryd.results41, go_sem, q0, q1]) rfl ⟨by rw [unhide HS], (((unhide Hb0).trans ((unhide Hb7).mono (unhide Hb0).size)).setCell (by show w.heap.size ≤ w.heap.size + 1; omega) _).setCell (by show w.heap.size ≤ w.heap.size + 1; omega) _⟩
  · have h8' : ((f : Int) % 8 == 0) = false := by simp; omega
    go_wp2_with fail
    obtain ⟨R, hR⟩ : ∃ R, R = w1.heap.size := ⟨_, rfl⟩
    obtain ⟨m, hm⟩ : ∃ m, m = (K + 7) / 8 := ⟨_, rfl⟩
    have HCut := hide (cut_bytes s f K)
    rw [← hm] at HCut
    have hn0 : K ≤ 8 * m := by omega
    have hn8 : 8 * m < K + 8 := by omega
    have hmm : m ≤ 100000 := by omega
    have hmq : f / 8 + m ≤ s.size := by omega
    have hgR : g < R := by omega
    have hgW : W0.heap.size ≤ g := hg.1
    have hGg : 0 < g := by omega
    have hlm : (bytesAt (cutBits s f K) K).length = m := by rw [bytesAt_length, cutBits_length, hm]
    have hc := two_new w1 (.int .i64 K) (.slice (some ⟨g, 0, none⟩) m m) 81
    rw [← hR] at hc
    rw [← hR, ← hm]
    have hown1 := unhide Hown
    rw [← hm] at hown1
    have hb2 := (unhide Hb1).alloc hs1 (.cells #[.int .i64 K, .slice (some ⟨g, 0, none⟩) m m] 81)
    have hY2 := hown1.alloc (.cells #[.int .i64 K, .slice (some ⟨g, 0, none⟩) m m] 81)
    have hs2 : R < (w1.alloc (.cells #[.int .i64 K, .slice (some ⟨g, 0, none⟩) m m] 81)).heap.size := by rw [hR]; simp
    obtain ⟨w2, hw2⟩ : ∃ w2, w2 = w1.alloc (.cells #[.int .i64 K, .slice (some ⟨g, 0, none⟩) m m] 81) := ⟨_, rfl⟩
    rw [← hw2] at hc hb2 hY2 hs2 ⊢
    have hmq : ∀ k, k < m → (f + 8 * k) / 8 < s.size := fun k hk => by omega
    have hmod : ∀ k, (f + 8 * k) % 8 ≠ 0 := fun k => by omega
    have hY0 : w2.ownsRow W0.heap.size 5 1 (.slice (some ⟨g, 0, none⟩) m m) m (u8s (part s f m 0)) := by rw [part_zero]; exact hY2
    obtain ⟨r0, r1⟩ := hc
    have Hb2 := hide hb2
    have HY := hide hY0
    clear hw2 hb2 hY2 hY0 hown1 hR hm hs1 hg h8'
    go_wp2_with fail
    have HR := hide (And.intro r0 (And.intro r1 hs2))
    clear r0 r1 hs2
    go_loopw [8, 25] (fun jv iv wr => ∃ k : Nat, k ≤ m ∧ iv = .int .i64 k ∧ Below W0.heap.size W0 wr ∧ wr.cell? ⟨R, 0, none⟩ = some (.int .i64 K) ∧ wr.cell? ⟨R, 1, none⟩ = some (.slice (some ⟨g, 0, none⟩) m m) ∧ R < wr.heap.size ∧
        wr.ownsRow W0.heap.size 5 1 (.slice (some ⟨g, 0, none⟩) m m) m (u8s (part s f m k))) (fun _ iv _ => m - (intOf iv).toNat)
    case atStart => exact ⟨0, Nat.zero_le _, rfl, unhide Hb2, (unhide HR).1, (unhide HR).2.1, (unhide HR).2.2, unhide HY⟩
    case round =>
      obtain ⟨k, hk, rfl, hb, r0, r1, hRs, hown⟩ := hrel
      obtain ⟨f0, f1⟩ := unhide HF wr hb
      have Hb := hide hb
      have Hown := hide hown
      by_cases hlt : k < m
      · have hB0 := fun w => byteAt_any n s (f + 8 * k) w
        have eB : ((f + 8 * k : Nat) : Int) = (f : Int) + 8 * (k : Int) := by omega
        rw [eB] at hB0
        have hB := hide hB0
        have eW1 : IntKind.i64.wrap (8 * (k : Int)) = 8 * (k : Int) := by simp [IntKind.wrap, IntKind.bits, IntKind.signed]; omega
        have eW2 : IntKind.i64.wrap ((f : Int) + 8 * (k : Int)) = (f : Int) + 8 * (k : Int) := by simp [IntKind.wrap, IntKind.bits, IntKind.signed]; omega
        clear hB0 eB
        have hP := hide (part_succ s f m k hlt)
        have hq := hmq k hlt
        have hne := hmod k
        have hdr : Below wr.heap.size wr wr.drew := (Below.refl _ _).drew
        have Hdr := hide hdr
        have hcg := own_cell hown k hlt
        have hfg := hown.frozenAt k
        obtain ⟨y, hy⟩ : ∃ y, y = (part s f m k).getD k 0 := ⟨_, rfl⟩
        rw [← hy] at hcg
        obtain ⟨z, hz⟩ : ∃ z, z = full s (f + 8 * k) 0 := ⟨_, rfl⟩
        rw [← hz] at hB hP
        have hgs : g < wr.heap.size := by omega
        clear hb hown hdr hmq hmod hy hz
        go_wp2_with fail
        go_region_with (go_at_call 47; refine (unhide hB _ hq hne (by omega)).mono ?_; rintro e w3 ⟨rfl, hb3⟩; have hB3 := (unhide Hdr).trans hb3; have c0 := (hB3.cell (p := ⟨R, 0, none⟩) hRs).trans r0; have c1 := (hB3.cell (p := ⟨R, 1, none⟩) hRs).trans r1; have c2 := (hB3.cell (p := ⟨g, k, none⟩) hgs).trans hcg; have c3 := (hB3.frozen (p := ⟨g, k, none⟩) hgs).trans hfg; have HB3 := hide hB3; clear hb3 hB3)
        all_goals
          have own3 := own_set (ownsRow_below (unhide Hown) (unhide HB3)) k z
          rw [← unhide hP] at own3
          obtain ⟨w5, hw5⟩ : ∃ w5, w5 = w3.setCell ⟨g, k, none⟩ (.int .u8 z) := ⟨_, rfl⟩
          have own5 : w5.ownsRow W0.heap.size 5 1 (.slice (some ⟨g, 0, none⟩) m m) m (u8s (part s f m (k + 1))) := by rw [hw5]; exact own3
          have hb5 : Below W0.heap.size W0 w5 := by rw [hw5]; exact (((unhide Hb).trans ((unhide HB3).mono (unhide Hb).size)).setCell hgW _)
          have q0 : w5.cell? ⟨R, 0, none⟩ = some (.int .i64 K) := by rw [hw5]; exact (World.cell?_setCell_other _ _ _ _ (by simp)).trans c0
          have q1 : w5.cell? ⟨R, 1, none⟩ = some (.slice (some ⟨g, 0, none⟩) m m) := by rw [hw5]; exact (World.cell?_setCell_other _ _ _ _ (by simp)).trans c1
          have hs5 : R < w5.heap.size := by rw [hw5]; have := (unhide HB3).size; simp; omega
          rw [← hw5]
          have H5 := hide own5
          have HB5 := hide hb5
          clear hw5 own3 own5 hb5 c0 c1 c2 c3
          go_wp2_with fail
          go_roundw
          case rel => exact ⟨k + 1, by omega, by go_num, unhide HB5, q0, q1, hs5, unhide H5⟩
          case measure => simp [intOf]; omega
      · have hkm : k = m := by omega
        subst hkm
        have own3 := hown
        rw [part_all] at own3
        obtain ⟨w3, hw3⟩ : ∃ w3, w3 = wr := ⟨_, rfl⟩
        rw [← hw3] at own3 hb r0 r1 hRs ⊢
        have H3 := hide own3
        have Hb3 := hide hb
        have c0 := r0
        have c1 := r1
        have hs3 := hRs
        clear own3 hb hown r0 r1 hRs f0 f1 hw3 hmq hmod
        go_wp2_with fail
        refine (clearEnd_any R g k K W0.heap.size (fullBytes s f k) w3 ((unhide Hm).keep ((unhide Hb0).trans ((unhide Hb3).mono (unhide Hb0).size))) c0 c1 (unhide H3) (fullBytes_length s f k) (full_mem s f k) hgR hGg hn0 hn8 hmm).mono ?_
        rintro e w4 ⟨rfl, own4, d0, d1, hb4, hs4⟩
        rw [unhide HCut] at own4
        have hb5 := (unhide Hb3).trans (hb4.mono hgW)
        have hR4 : R < w4.heap.size := by omega
        have hc := hide (fun i (hi : i < k) => own_cell own4 i hi)
        have Hb5 := hide hb5
        clear hb4 hb5 own4 c0 c1
        go_wp2_with fail
        refine (rbits_any R g k k K (bytesAt (cutBits s f K) K) w4 d0 d1 hR4 hlm (unhide hc) (by omega)).mono ?_
        rintro e w5 ⟨rfl, hb6⟩
        have hb7 := (unhide Hb5).trans (hb6.mono (unhide Hb5).size)
        obtain ⟨⟨q0, q1⟩, q2⟩ := unhide HG w5 hb7
        have q20 := q2 0
        have q21 := q2 1
        have Hb7 := hide hb7
        have e2 : strOfNums (bytesAt (cutBits s f K) K) = strB (cutBits s f K) := by unfold strB; rw [cutBits_length]
        rw [e2]
        obtain ⟨S, hS⟩ : ∃ S, S = strB (cutBits s f K) := ⟨_, rfl⟩
        rw [← hS]
        have HS := hide hS
        clear hb6 hb7 q2 e2 hS d0 d1
        go_wp2_with fail
        exact bodyPost_ret (v := .agg #[.int .i64 K, .string S]) (by simp [results, Tryd.results41, go_sem, q0, q1]) rfl ⟨by rw [unhide HS], (((unhide Hb0).trans ((unhide Hb7).mono (unhide Hb0).size)).setCell (by show w.heap.size ≤ w.heap.size + 1; omega) _).setCell (by show w.heap.size ≤ w.heap.size + 1; omega) _⟩

end Go.Proofs.YtgkckkaegkdioaaDoor
/- impl's openAtEnd; a segment's match. -/
namespace Go.Proofs.YtgkckkaegkdioaaDoor
open Go.RowKit Go.Deep

/-- At most the last part takes all that there is. -/
def opnP {n : Nat} (gs : List (SgT n)) : Prop := ∀ i (h : i < gs.length), gs[i].2.1 = -1 → i + 1 = gs.length

/-- What stands behind openAtEnd. -/
def OpnEnd {n : Nat} (gs : List (SgT n)) (w : World) (e : Ending) (w' : World) : Prop := ∃ b, e = .returned (.bool b) ∧ (b = true ↔ opnP gs) ∧ Below w.heap.size w w'

section
variable {n : Nat} (gs : List (SgT n)) (v : Value) (w : World)
set_option maxRecDepth 40000 in
set_option maxHeartbeats 2000000 in
theorem openAtEnd_any (hv : SgsAt (Under w.heap.size) w n gs v) : Calls Tryd.prog 26 #[v] w fun e w' => OpnEnd gs w e w' := by
  obtain ⟨a, cap, rfl, hcap⟩ : ∃ a cap, v = .slice a gs.length cap ∧ gs.length ≤ 2 ^ 47 := by obtain ⟨a, cap, h, _, h2, _⟩ := hv; exact ⟨a, cap, h, h2⟩
  go_enter Tryd.func26, Tryd.ntmps26
  go_wp2_with fail
  go_loopw [7] (fun iv wr => ∃ k : Nat, k ≤ gs.length ∧ iv = .int .i64 k ∧ Below w.heap.size w wr ∧ ∀ i (hi : i < gs.length), i < k → gs[i].2.1 = -1 → i + 1 = gs.length) (fun iv _ => gs.length - (intOf iv).toNat)
  case atStart => exact ⟨0, by omega, rfl, Below.refl _ _, fun i _ hi => absurd hi (by omega)⟩
  case round =>
    obtain ⟨k, hk, rfl, hb, hall⟩ := hrel
    by_cases hlt : k < gs.length
    · obtain ⟨b, off, kk, km, ks, ku, rfl, hS, e0, e1, e2, e3, e4, e5, e6, e7, e8, i1, i2, i3, hr⟩ := (hv.up hb).at k hlt
      obtain ⟨g1, g2, g3, g4, g5, t, hgk⟩ : ∃ g1 g2 g3 g4 g5 t, gs[k] = ((g1, g2, g3, g4, g5, t) : SgT n) := ⟨_, _, _, _, _, _, rfl⟩
      rw [hgk] at e0 e1 e2 e3 e4 hr
      dsimp only at e0 e1 e2 e3 e4 hr
      obtain ⟨_, _, _, ua, ul, uc, h1, h2, h3, rfl⟩ := hr.shape
      have HC := hide (fun w => isOpen_any g1 g2 g3 g4 g5 kk km ks ua ul uc w)
      have HGK := hide hgk
      have HB := hide hb
      have hk1 : IntKind.i64.wrap ((k : Int) + 1) = (k : Int) + 1 := by rw [IntKind.wrap_i64]; omega
      clear hr hb h1 h2 h3 i1 i2 i3 hgk
      go_wp2_with fail
      refine ((unhide HC) _).mono ?_
      rintro e w1 ⟨rfl, hb1⟩
      have hw1 := (unhide HB).trans ((((Below.refl wr.heap.size wr).alloc (Nat.le_refl _) _).trans (hb1.mono (by simp))).mono (unhide HB).size)
      have HW := hide hw1
      clear hb1 hw1
      by_cases hopen : g2 = -1
      · subst hopen
        have ht : ((-1 : Int) == -1) = true := rfl
        rw [ht]
        clear ht
        by_cases hlast : (k : Int) + 1 < (gs.length : Int)
        · have HANS := hide (show ¬ opnP gs from fun h => by have := h k hlt (by rw [unhide HGK]); omega)
          go_wp2_with fail
          go_ret
          exact ⟨false, rfl, ⟨fun h => (by cases h), fun h => absurd h (unhide HANS)⟩, unhide HW⟩
        · go_wp2_with fail
          go_roundw
          case rel => exact ⟨k + 1, hlt, by go_num, unhide HW, fun i hi hik hg => by
            rcases (show i < k ∨ i = k by omega) with h | rfl
            · exact hall i hi h hg
            · omega⟩
          case measure => simp [intOf]; omega
      · have ht : (g2 == -1) = false := by simpa using hopen
        rw [ht]
        have HOPN := hide hopen
        clear ht hopen
        go_wp2_with fail
        go_roundw
        case rel => exact ⟨k + 1, hlt, by go_num, unhide HW, fun i hi hik hg => by
          rcases (show i < k ∨ i = k by omega) with h | rfl
          · exact hall i hi h hg
          · rw [unhide HGK] at hg; exact absurd hg (unhide HOPN)⟩
        case measure => simp [intOf]; omega
    · have HANS := hide (show opnP gs from fun i hi hg => hall i hi (by omega) hg)
      have HB := hide hb
      clear hall hb
      go_wp2_with fail
      go_ret
      exact ⟨true, rfl, ⟨fun _ => unhide HANS, fun _ => rfl⟩, unhide HB⟩
end

section
variable (g1 g2 g3 : Int) (g4 g5 : Bool) (k m : Int) (s0 : ByteArray) (ua : Option Addr) (ul uc : Nat) (w : World)

set_option maxRecDepth 40000 in
set_option maxHeartbeats 2000000 in
theorem smatch_int (L : Int) (s : ByteArray) (f W : Nat) (nn : Int) (hm : Masks 0 w) (p1 : 1 ≤ g3) (p2 : g3 ≤ 256) (p3 : -1 ≤ g2) (p4 : g2 ≤ 32000) (hW : g2 * g3 = (W : Int)) (h49 : W ≤ 49) (hf : f + W ≤ 8 * s.size) (hss : s.size ≤ 1048576) :
    Calls Tryd.prog 28 #[sgV 1 g2 g3 g4 g5 k m s0 ua ul uc, .agg #[.int .i64 L, .string s], .int .i64 f, .int .i64 nn] w
      fun e w' => e = .returned (.agg #[.int .i64 1, .int .i64 (signed g4 W (orN (gbit s f) W g5 W)), .string ⟨#[]⟩, .slice none 0 0]) ∧ Below w.heap.size w w' := by
  have HA := asField_any 1 g2 g3 g4 g5 k m s0 ua ul uc
  rw [hW] at HA
  have HAA := hide (fun w => HA w p1 p2 p3 p4)
  have HGT := hide (fun w' (hb : Below w.heap.size w w') => iget_any L s f W g4 g5 w' (hm.keep hb) h49 hf hss)
  generalize signed g4 W (orN (gbit s f) W g5 W) = V at HGT ⊢
  obtain ⟨W0, hW0⟩ : ∃ W0, W0 = ((w.alloc (sgO 1 g2 g3 g4 g5 k m s0 ua ul uc)).alloc (.cells #[.int .i64 L, .string s] 30)).alloc (.cells #[.int .i64 0, .int .i64 0, .string ⟨#[]⟩, .slice none 0 0] 48) := ⟨_, rfl⟩
  have hb0 : Below w.heap.size w W0 := by rw [hW0]; exact (below_two _ _ _).alloc (by simp; omega) _
  obtain ⟨n0, n1, n2⟩ := three_news w (sgO 1 g2 g3 g4 g5 k m s0 ua ul uc) (.cells #[.int .i64 L, .string s] 30) (.cells #[.int .i64 0, .int .i64 0, .string ⟨#[]⟩, .slice none 0 0] 48)
  rw [← hW0] at n0 n1 n2
  have hs0 : W0.heap.size = w.heap.size + 3 := by rw [hW0]; simp
  have HW := hide hW0
  have hk : ∀ w', Below W0.heap.size W0 w' → w'.heap[w.heap.size]? = some (sgO 1 g2 g3 g4 g5 k m s0 ua ul uc) ∧ w'.heap[w.heap.size + 1]? = some (.cells #[.int .i64 L, .string s] 30) ∧ w'.heap[w.heap.size + 1 + 1]? = some (.cells #[.int .i64 0, .int .i64 0, .string ⟨#[]⟩, .slice none 0 0] 48) :=
    fun w' hb => ⟨(hb.block _ (by omega)).trans n0, (hb.block _ (by omega)).trans n1, (hb.block _ (by omega)).trans n2⟩
  have HK := hide hk
  have HB0 := hide hb0
  clear HA hk hb0 n0 n1 n2 hm p1 p2 p3 p4 hW
  unfold sgV
  go_enter Tryd.func28, Tryd.ntmps28
  go_wp2_with fail
  rw [← unhide HW]
  clear hW0
  have hbz := hide ((Below.refl W0.heap.size W0).drew)
  have hcs : ∀ w' : World, (∀ b, b < w.heap.size + 2 → w'.heap[b]? = W0.heap[b]?) → ((w'.cell? ⟨w.heap.size, 0, none⟩ = some (.int .i64 1) ∧ w'.cell? ⟨w.heap.size, 1, none⟩ = some (.int .i64 g2) ∧ w'.cell? ⟨w.heap.size, 2, none⟩ = some (.int .i64 g3) ∧ w'.cell? ⟨w.heap.size, 3, none⟩ = some (.bool g4) ∧ w'.cell? ⟨w.heap.size, 4, none⟩ = some (.bool g5) ∧
      w'.cell? ⟨w.heap.size, 5, none⟩ = some (.int .i64 k) ∧ w'.cell? ⟨w.heap.size, 6, none⟩ = some (.int .i64 m) ∧ w'.cell? ⟨w.heap.size, 7, none⟩ = some (.string s0) ∧ w'.cell? ⟨w.heap.size, 8, none⟩ = some (.slice ua ul uc)) ∧ (w'.cell? ⟨w.heap.size + 1, 0, none⟩ = some (.int .i64 L) ∧ w'.cell? ⟨w.heap.size + 1, 1, none⟩ = some (.string s))) := fun w' hb => by
    obtain ⟨h0, h1, _⟩ := unhide HK W0 (Below.refl _ _)
    have h0 := (hb _ (by omega)).trans h0
    have h1 := (hb _ (by omega)).trans h1
    have c := cell_of_heap h0
    have d := cell_of_heap h1
    exact ⟨⟨c 0, c 1, c 2, c 3, c 4, c 5, c 6, c 7, c 8⟩, d 0, d 1⟩
  have HCS := hide hcs
  clear hcs
  go_region_held3 (fun w' => (w'.cell? ⟨w.heap.size, 0, none⟩ = some (.int .i64 1) ∧ w'.cell? ⟨w.heap.size, 1, none⟩ = some (.int .i64 g2) ∧ w'.cell? ⟨w.heap.size, 2, none⟩ = some (.int .i64 g3) ∧ w'.cell? ⟨w.heap.size, 3, none⟩ = some (.bool g4) ∧ w'.cell? ⟨w.heap.size, 4, none⟩ = some (.bool g5) ∧
      w'.cell? ⟨w.heap.size, 5, none⟩ = some (.int .i64 k) ∧ w'.cell? ⟨w.heap.size, 6, none⟩ = some (.int .i64 m) ∧ w'.cell? ⟨w.heap.size, 7, none⟩ = some (.string s0) ∧ w'.cell? ⟨w.heap.size, 8, none⟩ = some (.slice ua ul uc)) ∧ (w'.cell? ⟨w.heap.size + 1, 0, none⟩ = some (.int .i64 L) ∧ w'.cell? ⟨w.heap.size + 1, 1, none⟩ = some (.string s)))
    (first | exact unhide HCS _ (fun b hb => (unhide hbz).block b (by omega)) | exact unhide HCS _ (fun b hb => ((put4_kept w2 (w.heap.size + 1 + 1) _ _ _ _).block b (by have := (unhide hbz).size; omega) (by omega)).trans ((unhide hbz).block b (by omega))))
    (first
      | (go_at_call 39; refine ((unhide HAA) _).mono ?_; rintro e w1 ⟨rfl, hb1⟩; have hbz := hide ((unhide hbz).trans (hb1.mono (unhide hbz).size)); clear hb1)
      | (go_at_call 40; refine ((unhide HGT) _ ((unhide HB0).trans ((unhide hbz).mono (unhide HB0).size))).mono ?_; rintro e w2 ⟨rfl, hb2⟩; have hbz := hide ((unhide hbz).trans (hb2.mono (unhide hbz).size)); have hh := (unhide HK _ (unhide hbz)).2.2; have r0 := cell_of_heap hh 0; have r1 := cell_of_heap hh 1; have r2 := cell_of_heap hh 2; have r3 := cell_of_heap hh 3; have f0 := frozen_of_heap hh 0; have f1 := frozen_of_heap hh 1; have f2 := frozen_of_heap hh 2; have f3 := frozen_of_heap hh 3; clear hb2 hh))
  go_wp2_with fail
  exact bodyPost_ret (v := .agg #[.int .i64 1, .int .i64 V, .string ⟨#[]⟩, .slice none 0 0]) (by simp [results, Tryd.results28, go_sem, r0, r1, r2, r3]) rfl
    ⟨rfl, (unhide HB0).trans ((((((unhide hbz).mono (show w.heap.size ≤ W0.heap.size by omega)).setCell (p := ⟨w.heap.size + 1 + 1, 0, none⟩) (by show w.heap.size ≤ w.heap.size + 1 + 1; omega) _).setCell (p := ⟨w.heap.size + 1 + 1, 1, none⟩) (by show w.heap.size ≤ w.heap.size + 1 + 1; omega) _).setCell (p := ⟨w.heap.size + 1 + 1, 2, none⟩) (by show w.heap.size ≤ w.heap.size + 1 + 1; omega) _).setCell (p := ⟨w.heap.size + 1 + 1, 3, none⟩) (by show w.heap.size ≤ w.heap.size + 1 + 1; omega) _)⟩

set_option maxRecDepth 40000 in
set_option maxHeartbeats 2000000 in
theorem smatch_bin (L : Int) (s : ByteArray) (f W : Nat) (hm : Masks 0 w) (hg : g1 ≠ 1) (hf : f + W ≤ 8 * s.size) (hss : s.size ≤ 1048576) (hW : W ≤ 100000) :
    Calls Tryd.prog 28 #[sgV g1 g2 g3 g4 g5 k m s0 ua ul uc, .agg #[.int .i64 L, .string s], .int .i64 f, .int .i64 W] w
      fun e w' => e = .returned (.agg #[.int .i64 9, .int .i64 0, .string (strB (cutBits s f W)), .slice none 0 0]) ∧ Below w.heap.size w w' := by
  have HCT := hide (fun w' (hb : Below w.heap.size w w') => icut_any L s f W w' (hm.keep hb) hf hss hW)
  generalize strB (cutBits s f W) = S at HCT ⊢
  obtain ⟨W0, hW0⟩ : ∃ W0, W0 = ((w.alloc (sgO g1 g2 g3 g4 g5 k m s0 ua ul uc)).alloc (.cells #[.int .i64 L, .string s] 30)).alloc (.cells #[.int .i64 0, .int .i64 0, .string ⟨#[]⟩, .slice none 0 0] 48) := ⟨_, rfl⟩
  have hb0 : Below w.heap.size w W0 := by rw [hW0]; exact (below_two _ _ _).alloc (by simp; omega) _
  obtain ⟨n0, n1, n2⟩ := three_news w (sgO g1 g2 g3 g4 g5 k m s0 ua ul uc) (.cells #[.int .i64 L, .string s] 30) (.cells #[.int .i64 0, .int .i64 0, .string ⟨#[]⟩, .slice none 0 0] 48)
  rw [← hW0] at n0 n1 n2
  have hs0 : W0.heap.size = w.heap.size + 3 := by rw [hW0]; simp
  have HW := hide hW0
  have hh := fun w' (hb : Below W0.heap.size W0 w') => (hb.block (w.heap.size + 1 + 1) (by omega)).trans n2
  have hg1 : (g1 == 1) = false := by simpa using hg
  have HH := hide hh
  have HB0 := hide hb0
  clear hh hb0 n0 n1 n2 hm hf hss hW hg
  unfold sgV
  go_enter Tryd.func28, Tryd.ntmps28
  go_wp2_with fail
  rw [← unhide HW]
  clear hW0
  refine ((unhide HCT) W0 (unhide HB0)).mono ?_
  rintro e w1 ⟨rfl, hb1⟩
  have hq := unhide HH w1 hb1
  have r0 := cell_of_heap hq 0
  have r1 := cell_of_heap hq 1
  have r2 := cell_of_heap hq 2
  have r3 := cell_of_heap hq 3
  have f0 := frozen_of_heap hq 0
  have f1 := frozen_of_heap hq 1
  have f2 := frozen_of_heap hq 2
  have f3 := frozen_of_heap hq 3
  have hfd := field1
  have HB1 := hide hb1
  clear hq hb1
  go_wp2_with fail
  clear hfd
  exact bodyPost_ret (v := .agg #[.int .i64 9, .int .i64 0, .string S, .slice none 0 0]) (by simp [results, Tryd.results28, go_sem, r0, r1, r2, r3]) rfl
    ⟨rfl, (unhide HB0).trans ((((((unhide HB1).mono (show w.heap.size ≤ W0.heap.size by omega)).setCell (p := ⟨w.heap.size + 1 + 1, 0, none⟩) (by show w.heap.size ≤ w.heap.size + 1 + 1; omega) _).setCell (p := ⟨w.heap.size + 1 + 1, 1, none⟩) (by show w.heap.size ≤ w.heap.size + 1 + 1; omega) _).setCell (p := ⟨w.heap.size + 1 + 1, 2, none⟩) (by show w.heap.size ≤ w.heap.size + 1 + 1; omega) _).setCell (p := ⟨w.heap.size + 1 + 1, 3, none⟩) (by show w.heap.size ≤ w.heap.size + 1 + 1; omega) _)⟩
end

end Go.Proofs.YtgkckkaegkdioaaDoor
/- impl.BitsOK. -/
namespace Go.Proofs.YtgkckkaegkdioaaDoor
open Go.RowKit Go.Deep

set_option maxRecDepth 100000 in
set_option maxHeartbeats 1000000 in
theorem iBOK_any (n : Int) (s : ByteArray) (w : World) (hm : Masks 0 w) (hs : s.size ≤ 1048576) :
    Calls Tryd.prog 24 #[.agg #[.int .i64 n, .string s]] w fun e w' => e = .returned (.bool (okS n s)) ∧ Below w.heap.size w w' := by
  by_cases h1 : n < 0
  · have hr := hide (okS_false (n := n) (s := s) (by unfold okLen; omega))
    clear hm
    go_enter Tryd.func24, Tryd.ntmps24
    go_wp2_with fail
    go_quiet (fail)
    go_wp2_with fail
    go_ret
    exact ⟨by rw [unhide hr]; rfl, below_drewN ((Below.refl w.heap.size w).alloc (Nat.le_refl _) _) _⟩
  by_cases h2 : 32000 < n
  · have hr := hide (okS_false (n := n) (s := s) (by unfold okLen; omega))
    clear hm
    go_enter Tryd.func24, Tryd.ntmps24
    go_wp2_with fail
    go_quiet (fail)
    go_wp2_with fail
    go_ret
    exact ⟨by rw [unhide hr]; rfl, below_drewN ((Below.refl w.heap.size w).alloc (Nat.le_refl _) _) _⟩
  obtain ⟨N, rfl⟩ := Int.eq_ofNat_of_zero_le (show 0 ≤ n by omega)
  have G0 : ∀ x : LaterW (w.heap.size + 1) (w.alloc (.cells #[.int .i64 N, .string s] 30)), x.wd.cell? ⟨w.heap.size, 0, none⟩ = some (.int .i64 N) := fun x => (box2 w _ _ _ x.be).1
  have G1 : ∀ x : LaterW (w.heap.size + 1) (w.alloc (.cells #[.int .i64 N, .string s] 30)), x.wd.cell? ⟨w.heap.size, 1, none⟩ = some (.string s) := fun x => (box2 w _ _ _ x.be).2
  have hbx := (Below.refl w.heap.size w).alloc (Nat.le_refl _) (.cells #[.int .i64 N, .string s] 30)
  have Hbx := hide hbx
  have Hm := hide hm
  have hne : Nonempty (LaterW (w.heap.size + 1) (w.alloc (.cells #[.int .i64 N, .string s] 30))) := ⟨⟨_, Below.refl _ _⟩⟩
  clear hbx hm
  have ha : (decide ((32000 : Int) < N)) = false := by simp; omega
  have hb : (decide ((N : Int) < 0)) = false := by simp
  go_enter Tryd.func24, Tryd.ntmps24
  go_wp2_with fail
  refine wp_region_later (w.heap.size + 1) (by kernel_rfl) (by kernel_rfl) ?_
  repeat (go_big_quiet_step ((go_at_call 34; rename_i x; refine Calls.later (v := .int .i64 (((N : Int) + 7) / 8)) (by simp) (bf_any N _ (by omega) (by omega)))))
  refine wpQuiet_nil ?_
  rintro wq ⟨⟨_, hq⟩, rfl⟩
  clear G0 G1 hne
  obtain ⟨g0, g1⟩ := box2 w _ _ _ hq
  have Hq := hide hq
  clear hq
  by_cases h3 : (s.size : Int) = ((N : Int) + 7) / 8
  · have h3' : ((s.size : Int) != ((N : Int) + 7) / 8) = false := by simp [h3]
    have hr := hide (okS_iff N s ⟨by omega, by omega, h3⟩)
    have H3 := hide h3
    have hle : (N : Int) ≤ 8 * s.size := by omega
    clear h3
    have hss : s.size ≤ 1048576 := hs
    go_wp2_with fail
    rw [h3']
    clear h3'
    go_loopw [3, 28] (fun jv iv wr => ∃ k : Nat, (k : Int) ≤ 8 * s.size - N ∧ iv = .int .i64 k ∧ Hid (∀ i, N ≤ i → i < N + k → bit s i = 0) ∧ Below (w.heap.size + 1) (w.alloc (.cells #[.int .i64 N, .string s] 30)) wr) (fun _ iv _ => 8 * s.size - N - (intOf iv).toNat)
    case atStart => exact ⟨0, by omega, rfl, hide fun i h1 h2 => by omega, unhide Hq⟩
    case round =>
      obtain ⟨k, hk, rfl, hz, hb⟩ := hrel
      obtain ⟨e0, e1⟩ := box2 w _ _ _ hb
      have hsz := hb.size
      simp only [World.size_alloc] at hsz
      clear g0 g1
      by_cases hlt : (k : Int) < 8 * s.size - N
      · have hb0 := (Below.refl w.heap.size w).alloc (Nat.le_refl _) (.cells #[.int .i64 N, .string s] 30) |>.trans (hb.mono (by omega))
        have hI := hide (isSet_any N s (N + k) wr ((unhide Hm).keep hb0) (by omega) (by omega))
        have HB := hide hb
        have HB0 := hide hb0
        clear hb hb0
        go_wp2_with (go_at_call 35; refine (unhide hI).mono ?_; rintro e w1 ⟨rfl, hb1⟩; have HB1 := hide hb1; clear hb1)
        · have h1 : bit s (N + k) = 1 := by assumption
          have hf : okS N s = false := by
            rw [← Bool.not_eq_true, unhide hr]
            intro H
            have := H (N + k) (by omega) (by omega)
            omega
          go_ret
          exact ⟨by rw [hf]; rfl, (unhide HB0).trans ((unhide HB1).mono (unhide HB0).size)⟩
        · have h1 : ¬ bit s (N + k) = 1 := by assumption
          have h0 : bit s (N + k) = 0 := by have := bit_01 s (N + k); omega
          have hz' : Hid (∀ i, N ≤ i → i < N + (k + 1) → bit s i = 0) := hide fun i h1 h2 => by
            by_cases h : i = N + k
            · rw [h]; exact h0
            · exact unhide hz i h1 (by omega)
          clear h0 h1
          go_roundw
          case rel => exact ⟨k + 1, by omega, by go_num, hz', (unhide HB).trans ((unhide HB1).mono (by omega))⟩
          case measure => simp [intOf]; omega
      · have hkn : (k : Int) = 8 * s.size - N := by omega
        have hall : okS N s = true := (unhide hr).2 fun i h1 h2 => unhide hz i h1 (by omega)
        have HA := hide hall
        clear hall hkn
        go_wp2_with fail
        go_ret
        exact ⟨by rw [unhide HA]; rfl, (unhide Hbx).trans (hb.mono (by omega))⟩
  · have h3' : ((s.size : Int) != ((N : Int) + 7) / 8) = true := by simp [h3]
    have hr := hide (okS_false (n := N) (s := s) (by unfold okLen; omega))
    go_wp2_with fail
    go_ret
    exact ⟨by rw [unhide hr]; rfl, (unhide Hbx).trans ((unhide Hq).mono (by omega))⟩

end Go.Proofs.YtgkckkaegkdioaaDoor
/- toTerm, toTermS: the copy's rows are its own, each in blocks of its own. -/
namespace Go.Proofs.YtgkckkaegkdioaaDoor
open Go.RowKit

theorem OwnS.wide {w : World} : ∀ {n lo hi lo' hi' : Nat} {ks : List (Tm n)} {v : Value}, OwnS w n lo hi ks v → lo' ≤ lo → hi ≤ hi' → OwnS w n lo' hi' ks v
  | 0, _, _, _, _, _, _, h, _, _ => h
  | n + 1, lo, hi, lo', hi', ks, v, ⟨a, cap, hv, h⟩, hl, hh => by
    refine ⟨a, cap, hv, ?_⟩
    rcases h with h | ⟨R, cs, bs, h1, h2, h3, h4, h5, h6, h7, h8⟩
    · exact .inl h
    · exact .inr ⟨R, cs, bs, h1, h2, by omega, h4, h5, by omega, h7, h8⟩

def ToOSaid (n : Nat) : Prop := ∀ (t : Tm (n + 1)) (c0 c1 c2 c3 : Value) (w : World), TAt (Under w.heap.size) w (n + 1) t c0 c1 c2 c3 → tot (n + 1) t ≤ 1048576 →
  Calls Tryd.prog 33 #[.agg #[c0, c1, c2, c3]] w fun e w' => ∃ d0 d1 d2 d3, e = .returned (.agg #[d0, d1, d2, d3]) ∧ TAt (Fresh w w') w' (n + 1) t d0 d1 d2 d3 ∧ OwnS w' n w.heap.size w'.heap.size (kidsOf t) d3 ∧ Below w.heap.size w w'

def ToOSSaid (n : Nat) : Prop := ∀ (ks : List (Tm n)) (v : Value) (w : World), SAt (Under w.heap.size) w (TAt (Under w.heap.size) w n) ks v → ks.length + totS ks ≤ 1048576 →
  Calls Tryd.prog 43 #[v] w fun e w' => ∃ u, e = .returned u ∧ SAt (Fresh w w') w' (TAt (Fresh w w') w' n) ks u ∧ OwnS w' n w.heap.size w'.heap.size ks u ∧ Below w.heap.size w w'

theorem bs_next (bs : Nat → Nat) (k N : Nat) (hm : ∀ i j, i ≤ j → bs i ≤ bs j) (hk : bs k ≤ N) : ∃ bs' : Nat → Nat, (∀ j, j ≤ k → bs' j = bs j) ∧ bs' (k + 1) = N ∧ ∀ i j, i ≤ j → bs' i ≤ bs' j := by
  refine ⟨fun j => if j ≤ k then bs j else N, fun j hj => if_pos hj, if_neg (by omega), fun i j hij => ?_⟩
  show (if i ≤ k then bs i else N) ≤ (if j ≤ k then bs j else N)
  by_cases h1 : j ≤ k
  · rw [if_pos h1, if_pos (by omega)]; exact hm i j hij
  · rw [if_neg h1]
    by_cases h2 : i ≤ k
    · rw [if_pos h2]; have := hm i k h2; omega
    · rw [if_neg h2]; exact Nat.le_refl _

/-- The first k kids are over, each in blocks of its own. -/
def KidsO (n B : Nat) (ks : List (Tm (n + 1))) (k : Nat) (wr : World) : Prop :=
  ∃ bs : Nat → Nat, B < bs 0 ∧ (∀ i j, i ≤ j → bs i ≤ bs j) ∧ bs k ≤ wr.heap.size ∧ ∀ j (hj : j < ks.length), j < k → ∃ v3, wr.cell? ⟨B, j * 4 + 3, none⟩ = some v3 ∧ OwnS wr n (bs j) (bs (j + 1)) (kidsOf ks[j]) v3
theorem KidsO.next {n B k : Nat} {ks : List (Tm (n + 1))} {wr w1 w2 : World} (h : KidsO n B ks k wr) (hB : B < wr.heap.size) (hk : k < ks.length) (hb : Below wr.heap.size wr w1) (h2 : ∀ b, b ≠ B → w2.heap[b]? = w1.heap[b]?) (hs : w1.heap.size ≤ w2.heap.size)
    (hlow : ∀ o, o < k * 4 → w2.cell? ⟨B, o, none⟩ = w1.cell? ⟨B, o, none⟩) {v3 : Value} (h3 : w2.cell? ⟨B, k * 4 + 3, none⟩ = some v3) (ho : OwnS w1 n wr.heap.size w1.heap.size (kidsOf ks[k]) v3) : KidsO n B ks (k + 1) w2 := by
  obtain ⟨bs, b0, hm, hbk, hall⟩ := h
  have hw := hb.size
  obtain ⟨bs', hs1, hs2, hs3⟩ := bs_next bs k w1.heap.size hm (by omega)
  have hb00 := hs1 0 (Nat.zero_le _)
  refine ⟨bs', by omega, hs3, by omega, fun j hj hjk => ?_⟩
  by_cases hjj : j = k
  · subst hjj
    have hb0 := hm 0 j (Nat.zero_le _)
    rw [hs1 j (Nat.le_refl _), hs2]
    exact ⟨v3, h3, (ho.keep fun b h1 _ => h2 b (by omega)).wide hbk (Nat.le_refl _)⟩
  · obtain ⟨u3, e3, hoj⟩ := hall j hj (by omega)
    have hb0 := hm 0 j (Nat.zero_le _)
    have hbj := hm (j + 1) k (by omega)
    rw [hs1 j (by omega), hs1 (j + 1) (by omega)]
    exact ⟨u3, (hlow _ (by omega)).trans ((World.cell?_of_block (w := wr) (hb.block B hB)).trans e3), hoj.keep fun b h1 h4 => (h2 b (by omega)).trans (hb.block b (by omega))⟩

set_option maxHeartbeats 1000000 in
theorem toOS_of {n : Nat} (h : ToOSaid n) : ToOSSaid (n + 1) := by
  intro ks v w hv htot
  obtain ⟨a, cap, rfl, hlen, hcap, hel⟩ := hv
  have hmk := run_mk ks.length (by omega)
  go_enter Tryd.func43, Tryd.ntmps43
  go_wp2_with fail
  clear hmk
  go_loopw [4] (fun iv wr => ∃ k : Nat, k ≤ ks.length ∧ iv = .int .i64 k ∧ Below w.heap.size w wr ∧ Row w.heap.size 48 (ks.length * 4) wr ∧
      (∀ j (hj : j < ks.length), j < k → ∃ d0 d1 d2 d3, wr.cell? ⟨w.heap.size, j * 4, none⟩ = some d0 ∧ wr.cell? ⟨w.heap.size, j * 4 + 1, none⟩ = some d1 ∧
        wr.cell? ⟨w.heap.size, j * 4 + 2, none⟩ = some d2 ∧ wr.cell? ⟨w.heap.size, j * 4 + 3, none⟩ = some d3 ∧ TAt (fun b => w.heap.size < b ∧ b < wr.heap.size) wr (n + 1) ks[j] d0 d1 d2 d3) ∧ KidsO n w.heap.size ks k wr) (fun iv _ => ks.length - (intOf iv).toNat)
  case atStart =>
    refine ⟨0, by omega, rfl, (Below.refl _ _).alloc (Nat.le_refl _) _, ?_, fun j _ hj => absurd hj (by omega), fun _ => w.heap.size + 1, Nat.lt_succ_self _, fun _ _ _ => Nat.le_refl _, by simp, fun j _ hj => absurd hj (by omega)⟩
    have := Row.new (e := 48) w (zeros (ks.length * 4))
    rwa [zeros_size] at this
  case round =>
    obtain ⟨k, hk, rfl, hb, hrow, hall, hkid⟩ := hrel
    have HKO := hide hkid
    clear hkid
    by_cases hlt : k < ks.length
    · obtain ⟨b, off, d0, d1, d2, d3, rfl, hS, e0, e1, e2, e3, hr⟩ := hel k hlt
      have hbc := bcell hb
      have f0 := (hbc b _ hS).trans e0
      have f1 := (hbc b _ hS).trans e1
      have f2 := (hbc b _ hS).trans e2
      have f3 := (hbc b _ hS).trans e3
      have ht : tot (n + 1) ks[k] ≤ 1048576 := by
        have := totS_take ks k hlt
        have := totS_le ks (k + 1)
        omega
      clear hbc e0 e1 e2 e3
      go_wp2_with fail
      refine (h _ _ _ _ _ _ (hr.up hb) ht).mono ?_
      rintro e w1 ⟨g0, g1, g2, g3, rfl, hg, hown, hb1⟩
      have HOW := hide hown
      clear hown
      have hrow1 := hrow.keep (hb1.block _ hrow.lt)
      obtain ⟨v0, x0⟩ := hrow1.cell (o := k * 4) (by omega)
      obtain ⟨v1, x1⟩ := hrow1.cell (o := k * 4 + 1) (by omega)
      obtain ⟨v2, x2⟩ := hrow1.cell (o := k * 4 + 2) (by omega)
      obtain ⟨v3, x3⟩ := hrow1.cell (o := k * 4 + 3) (by omega)
      have z0 := hrow1.frozen (k * 4)
      have z1 := hrow1.frozen (k * 4 + 1)
      have z2 := hrow1.frozen (k * 4 + 2)
      have z3 := hrow1.frozen (k * 4 + 3)
      obtain ⟨gk, gm, gs, ga, gl, gc, rfl, rfl, rfl, rfl⟩ := hg.shape
      have HF : Hid _ := set4_facts hrow1 (o := k * 4) (by omega) (.int .i64 gk) (.int .i64 gm) (.string gs) (.slice ga gl gc)
      clear f0 f1 f2 f3
      go_wp2_with fail
      clear x0 x1 x2 x3 z0 z1 z2 z3
      obtain ⟨s1, s2, s3, s4, s5, s6, s7, s8⟩ := HF.out
      go_roundw
      case rel =>
        refine ⟨k + 1, hlt, by go_num, (hb.trans (hb1.mono hb.size)).trans s7, s1, fun j hj hjk => ?_, (unhide HKO).next hrow.lt hlt hb1 s8 s7.size s6 s5 (unhide HOW)⟩
        by_cases hjk2 : j = k
        · subst hjk2
          refine ⟨_, _, _, _, s2, s3, s4, s5, ?_⟩
          have hlt2 := hrow.lt
          exact (hg.keep fun b hb => s8 b (by omega)).mono fun b hb => ⟨by omega, Nat.lt_of_lt_of_le hb.2 s7.size⟩
        · obtain ⟨q0, q1, q2, q3, y0, y1, y2, y3, hq⟩ := hall j hj (by omega)
          have hkeep : ∀ b, (w.heap.size < b ∧ b < wr.heap.size) → (set4 w1 w.heap.size (k * 4) (.int .i64 gk) (.int .i64 gm) (.string gs) (.slice ga gl gc)).heap[b]? = wr.heap[b]? :=
            fun b hb => (s8 b (by omega)).trans (hb1.block b hb.2)
          have hc1 : ∀ o, w1.cell? ⟨w.heap.size, o, none⟩ = wr.cell? ⟨w.heap.size, o, none⟩ := fun o => World.cell?_of_block (w := wr) (hb1.block _ hrow.lt)
          refine ⟨q0, q1, q2, q3, ?_, ?_, ?_, ?_, (hq.keep hkeep).mono fun b hb => ⟨hb.1, Nat.lt_of_lt_of_le hb.2 (Nat.le_trans hb1.size s7.size)⟩⟩
          · exact ((s6 _ (by omega)).trans (hc1 _)).trans y0
          · exact ((s6 _ (by omega)).trans (hc1 _)).trans y1
          · exact ((s6 _ (by omega)).trans (hc1 _)).trans y2
          · exact ((s6 _ (by omega)).trans (hc1 _)).trans y3
      case measure => simp [intOf]; omega
    · have hkk : k = ks.length := by omega
      subst hkk
      have hlt2 := hrow.lt
      go_wp2_with fail
      go_ret
      refine ⟨_, rfl, ⟨_, _, rfl, Nat.le_refl _, by omega, fun i hi => ?_⟩, ?_, hb⟩
      rotate_left
      · refine ⟨_, _, rfl, ?_⟩
        obtain ⟨arr, ha, has⟩ := hrow
        obtain ⟨bs, b0, hm, hbk, hko⟩ := unhide HKO
        refine .inr ⟨_, arr, bs, rfl, ha, Nat.le_refl _, b0, hm, hbk, by omega, fun i hi => ?_⟩
        obtain ⟨v3, e3, ho⟩ := hko i hi hi
        exact ⟨v3, (cell_of_heap ha _).symm.trans e3, ho⟩
      obtain ⟨q0, q1, q2, q3, y0, y1, y2, y3, hq⟩ := hall i hi hi
      exact ⟨_, 0, q0, q1, q2, q3, rfl, ⟨Nat.le_refl _, hlt2⟩, by simpa using y0, by simpa using y1, by simpa using y2, by simpa using y3, hq.mono fun b hb => ⟨by omega, hb.2⟩⟩

set_option maxHeartbeats 1000000 in
theorem toO_of {n : Nat} (h : ToOSSaid n) : ToOSaid n := by
  rintro ⟨kd, m, s, ks⟩ c0 c1 c2 c3 w ⟨rfl, rfl, rfl, hk, hm, hs, hks⟩ ht
  have hdef : tot (n + 1) (kd, m, s, ks) = s.size + (ks.length + totS ks) := rfl
  rw [hdef] at ht
  clear hdef
  go_enter Tryd.func33, Tryd.ntmps33
  go_wp2_with fail
  have hb3 : Below w.heap.size w (((w.alloc (.cells #[.int .i64 kd, .int .i64 m, .string s, c3] 42)).alloc (.cells #[.int .i64 0, .int .i64 0, .string ⟨#[]⟩, .slice none 0 0] 48)).alloc (.cells #[.int .i64 kd, .int .i64 m, .string s, .slice none 0 0] 48)) :=
    (below_two _ _ _).alloc (by simp; omega) _
  refine (h _ _ _ (hks.up hb3) (by omega)).mono ?_
  rintro e w1 ⟨u, rfl, hu, hown, hb1⟩
  have HOW := hide hown
  clear hown
  have HU := hide hu
  obtain ⟨ua, uc, rfl, -, -, -⟩ := hu
  have hblk := hb1.block
  have hh1 : w1.heap[w.heap.size + 1]? = some (.cells #[.int .i64 0, .int .i64 0, .string ⟨#[]⟩, .slice none 0 0] 48) := by
    rw [hblk _ (by simp), Below.heap_alloc _ _ _ (by simp)]
    have := heap_new (w.alloc (.cells #[.int .i64 kd, .int .i64 m, .string s, c3] 42)) (.cells #[.int .i64 0, .int .i64 0, .string ⟨#[]⟩, .slice none 0 0] 48)
    rwa [World.size_alloc] at this
  have hh2 : w1.heap[w.heap.size + 1 + 1]? = some (.cells #[.int .i64 kd, .int .i64 m, .string s, .slice none 0 0] 48) := by
    rw [hblk _ (by simp)]
    have := heap_new ((w.alloc (.cells #[.int .i64 kd, .int .i64 m, .string s, c3] 42)).alloc (.cells #[.int .i64 0, .int .i64 0, .string ⟨#[]⟩, .slice none 0 0] 48)) (.cells #[.int .i64 kd, .int .i64 m, .string s, .slice none 0 0] 48)
    rwa [World.size_alloc, World.size_alloc] at this
  have h1 := cell_of_heap hh1
  have h2 := cell_of_heap hh2
  have f1 := frozen_of_heap hh1
  have f2 := frozen_of_heap hh2
  have hsz : w.heap.size + 1 + 1 + 1 ≤ w1.heap.size := by simpa using hb1.size
  have HB : Hid (Below w.heap.size w w1) := hb3.trans (hb1.mono (by simp; omega))
  clear hblk hh1 hh2
  go_wp2_with fail
  refine bodyPost_ret (v := .agg #[.int .i64 kd, .int .i64 m, .string s, .slice ua ks.length uc]) (by simp [results, Tryd.results33, go_sem, h1]) rfl ⟨_, _, _, _, rfl, ⟨rfl, rfl, rfl, hk, hm, hs, ?_⟩, ?_, ?_⟩
  · have hkeep : ∀ b, w.heap.size + 1 + 1 + 1 ≤ b → (((((w1.setCell ⟨w.heap.size + 1 + 1, 3, none⟩ (.slice ua ks.length uc)).setCell ⟨w.heap.size + 1, 0, none⟩ (.int .i64 kd)).setCell ⟨w.heap.size + 1, 1, none⟩ (.int .i64 m)).setCell
        ⟨w.heap.size + 1, 2, none⟩ (.string s)).setCell ⟨w.heap.size + 1, 3, none⟩ (.slice ua ks.length uc)).heap[b]? = w1.heap[b]? := fun b hb => by
      rw [Below.heap_setCell _ _ _ _ (by simp; omega), Below.heap_setCell _ _ _ _ (by simp; omega), Below.heap_setCell _ _ _ _ (by simp; omega), Below.heap_setCell _ _ _ _ (by simp; omega), Below.heap_setCell _ _ _ _ (by simp; omega)]
    have hf : ∀ b, Fresh (((w.alloc (.cells #[.int .i64 kd, .int .i64 m, .string s, c3] 42)).alloc (.cells #[.int .i64 0, .int .i64 0, .string ⟨#[]⟩, .slice none 0 0] 48)).alloc (.cells #[.int .i64 kd, .int .i64 m, .string s, .slice none 0 0] 48)) w1 b →
        w.heap.size + 1 + 1 + 1 ≤ b ∧ b < w1.heap.size := fun b hb => by simpa [Fresh] using hb
    have hk2 := fun b hb => hkeep b (hf b hb).1
    exact ((unhide HU).keep hk2 fun _ _ _ _ _ _ ht => ht.keep hk2).mono (fun b hb => ⟨by have := hf b hb; omega, by have := hf b hb; simpa using this.2⟩) fun _ _ _ _ _ _ ht => ht.mono fun b hb => ⟨by have := hf b hb; omega, by have := hf b hb; simpa using this.2⟩
  · refine ((unhide HOW).keep fun b h1 h2 => ?_).wide (by simp; omega) (by simp)
    have h1' : w.heap.size + 1 + 1 + 1 ≤ b := by simpa using h1
    rw [Below.heap_setCell _ _ _ _ (by simp; omega), Below.heap_setCell _ _ _ _ (by simp; omega), Below.heap_setCell _ _ _ _ (by simp; omega), Below.heap_setCell _ _ _ _ (by simp; omega), Below.heap_setCell _ _ _ _ (by simp; omega)]
  · exact (((((HB.out.setCell (p := ⟨_, _, none⟩) (by simp; omega) _).setCell (p := ⟨_, _, none⟩) (by simp) _).setCell (p := ⟨_, _, none⟩) (by simp) _).setCell (p := ⟨_, _, none⟩) (by simp) _).setCell (p := ⟨_, _, none⟩) (by simp) _)

theorem toOS_zero : ToOSSaid 0 := fun ks v w hv ht => (toS_of (to_any 0) ks v w hv ht).mono fun e w' ⟨u, he, hu, hb⟩ => by
  obtain ⟨a, cap, rfl, _⟩ := id hu
  exact ⟨_, he, hu, ⟨a, cap, rfl⟩, hb⟩
theorem toOS_any : ∀ n, ToOSSaid n
  | 0 => toOS_zero
  | n + 1 => toOS_of (toO_of (toOS_any n))
theorem toO_any (n : Nat) : ToOSaid n := toO_of (toOS_any n)

end Go.Proofs.YtgkckkaegkdioaaDoor
