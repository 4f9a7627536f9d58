/- Laws for the walk: a text appended to an own row of bytes, and where the new row lies. -/
import Derived.Test.YthfjgffhncogaaaGreatQ1
import Derived.Lib.AppendStr
import Derived.Deep.RegionHeld3
import Derived.Deep.AppendLies
import Derived.Test.YthfjgffhncogaaaGreatQ18
import Derived.Deep.QuietTactic
import Derived.BigQuiet
import Derived.Deep.DeepCutAuto
namespace Go.Proofs.YthfjgffhncogaaaGreat
open Go.RowKit Go.Lib

theorem append_string_lies {P : Program} (w : World) (base : Nat) (t u ty e : TypeId) (i : TypeInfo) (ht : P.underlying t = some (.slice e)) (hu : P.underlying u = some .string) (hi : P.info? e = some i) (hz : i.zero = some (.int .u8 0))
    (hsize : i.size = 1) (hby : i.bytes = 1) (v : Value) (n : Nat) (xs : List Value) (hown : w.ownsRow base e 1 v n xs) (s : ByteArray)
    (h63 : n + s.size ≤ maxLen) (hbytes : n + s.size ≤ 140737488355328) (v' : Value) (w' : World) (hr : (Builtin.append_ #[t, u] ty #[v, .string s]).run P w = .ok v' w') :
    v'.ownBlock = v.ownBlock ∨ v'.ownBlock = some w.heap.size := by
  have hsmall : n + s.size ≤ 9223372036854775807 := by simp only [maxLen] at h63; omega
  have hxl : xs.length = n := by simpa using hown.1
  rcases hown.2 with ⟨rfl, rfl⟩ | ⟨g, cap, cur, rfl, hbg, hg, hnc, hcm, hcs, htake⟩
  · by_cases hm : s.size = 0
    · have hn : strCells s = [] := List.eq_nil_of_length_eq_zero (by rw [strCells_length]; exact hm)
      have hf := run_firstCells_string (P := P) w 1 s
      rw [hm] at hf
      simp [Builtin.append_, run_underlying ht, run_underlying hu, sizeOf, typeInfo, hi, hsize, Builtin.lenOf, hm, hf, hn] at hr
      left
      rw [← hr.1]
    · have h := run_append_nil_string (P := P) w t u ty e i (.int .u8 0) ht hu hi hz s (by omega) (by omega) (by rw [hby]; omega)
      rw [h] at hr
      cases hr
      exact .inr rfl
  · by_cases hroom : n + s.size ≤ cap
    · have hcs' : cur.size = cap := by simpa using hcs
      have h := run_append_room_string (P := P) w t u ty e i ht hu hi hsize g n cap cur hg s hroom (by omega)
      rw [h] at hr
      cases hr
      exact .inl rfl
    · have holds : ∀ j u, xs[j]? = some u → w.cell? ((⟨g, 0, none⟩ : Addr).add j) = some u := hown.cells (g := g) rfl
      have h := run_append_grow_string (P := P) w t u ty e i (.int .u8 0) ht hu hi hz ⟨g, 0, none⟩ n cap xs (by rw [hsize]; simpa using hxl) holds s (by omega) (by omega) (by rw [hby]; exact growslice_fits (by omega) (by omega))
      rw [h] at hr
      cases hr
      exact .inr rfl

section
variable {P : Program} (w : World)

theorem wp_append_text {o : Oper} {a : Act} {K : Act → World → Prop} {Q : Exit → Act → World → Prop} (sl x : Operand) (t u : TypeId)
    (ho : o.op = .call { callee := .builtin .append, args := #[sl, x], argTypes := #[t, u] })
    (base : Nat) (e : TypeId) (i : TypeInfo) (ht : P.underlying t = some (.slice e)) (hu : P.underlying u = some .string) (hi : P.info? e = some i) (hz : i.zero = some (.int .u8 0))
    (hsize : i.size = 1) (hby : i.bytes = 1) (v : Value) (n : Nat) (xs : List Value) (hs : a.eval sl = v) (hown : w.ownsRow base e 1 v n xs) (s : ByteArray) (hx : a.eval x = .string s)
    (h63 : n + s.size ≤ maxLen) (hbytes : n + s.size ≤ 140737488355328) (hbase : base ≤ w.heap.size)
    (h : ∀ v' w', w'.ownsRow base e 1 v' (n + s.size) (xs ++ strCells s) → w.grownBy w' v.ownBlock → (v'.ownBlock = v.ownBlock ∨ v'.ownBlock = some w.heap.size) → K (a.put o.dst v') w') : o.wp P a w K Q := by
  obtain ⟨v', w', hr, h2, h3, _⟩ := run_append_own_string (P := P) w base t u o.type e i ht hu hi hz hsize hby v n xs hown s h63 hbytes hbase
  have h4 := append_string_lies (P := P) w base t u o.type e i ht hu hi hz hsize hby v n xs hown s h63 hbytes v' w' hr
  unfold Oper.wp execOp
  simp only [ho, resolve, invoke, builtin, Sem.run_bind, Sem.run_pure, Result.andThen_ok, List.map_toArray, List.map_cons, List.map_nil, hs, hx, hr]
  exact h v' w' h2 h3 h4

theorem wpList_append_text {ops : Array Oper} {rest : List Oper} {o : Oper} {a : Act} {Q : Exit → Act → World → Prop} (hgd : o.guard = none) (sl x : Operand) (t u : TypeId)
    (ho : o.op = .call { callee := .builtin .append, args := #[sl, x], argTypes := #[t, u] })
    (base : Nat) (e : TypeId) (i : TypeInfo) (ht : P.underlying t = some (.slice e)) (hu : P.underlying u = some .string) (hi : P.info? e = some i) (hz : i.zero = some (.int .u8 0))
    (hsize : i.size = 1) (hby : i.bytes = 1) (v : Value) (n : Nat) (xs : List Value) (hs : a.eval sl = v) (hown : w.ownsRow base e 1 v n xs) (s : ByteArray) (hx : a.eval x = .string s)
    (h63 : n + s.size ≤ maxLen) (hbytes : n + s.size ≤ 140737488355328) (hbase : base ≤ w.heap.size)
    (h : ∀ v' w', w'.ownsRow base e 1 v' (n + s.size) (xs ++ strCells s) → w.grownBy w' v.ownBlock → (v'.ownBlock = v.ownBlock ∨ v'.ownBlock = some w.heap.size) → wpList P ops Q rest (a.put o.dst v') w') : wpList P ops Q (o :: rest) a w :=
  wpList_plain hgd fun _ hK => wp_append_text w sl x t u ho base e i ht hu hi hz hsize hby v n xs hs hown s hx h63 hbytes hbase fun v' w' h2 h3 h4 => hK _ _ (h v' w' h2 h3 h4)

/-- As one step of a region that draws its order. -/
theorem step_append_text {ops : Array Oper} {o : Oper} {a : Act} {K : Act → World → Prop} {Q : Exit → Act → World → Prop} {E : Prop} (hgd : o.guard = none) (sl x : Operand) (t u : TypeId)
    (ho : o.op = .call { callee := .builtin .append, args := #[sl, x], argTypes := #[t, u] })
    (base : Nat) (e : TypeId) (i : TypeInfo) (ht : P.underlying t = some (.slice e)) (hu : P.underlying u = some .string) (hi : P.info? e = some i) (hz : i.zero = some (.int .u8 0))
    (hsize : i.size = 1) (hby : i.bytes = 1) (v : Value) (n : Nat) (xs : List Value) (hs : a.eval sl = v) (hown : w.ownsRow base e 1 v n xs) (s : ByteArray) (hx : a.eval x = .string s)
    (h63 : n + s.size ≤ maxLen) (hbytes : n + s.size ≤ 140737488355328) (hbase : base ≤ w.heap.size)
    (h : ∀ v' w', w'.ownsRow base e 1 v' (n + s.size) (xs ++ strCells s) → w.grownBy w' v.ownBlock → (v'.ownBlock = v.ownBlock ∨ v'.ownBlock = some w.heap.size) → K (a.put o.dst v') w') :
    if Region.wanted o (yielded ops a.tmps) = true then Oper.wp P o a w K Q else E := by
  have hw : Region.wanted o (yielded ops a.tmps) = true := by simp [Region.wanted, hgd]
  rw [if_pos hw]
  exact wp_append_text w sl x t u ho base e i ht hu hi hz hsize hby v n xs hs hown s hx h63 hbytes hbase h

/-- The same for a slice of cells. -/
theorem step_append_cells {ops : Array Oper} {o : Oper} {a : Act} {K : Act → World → Prop} {Q : Exit → Act → World → Prop} {E : Prop} (hgd : o.guard = none) (s x : Operand) (t : TypeId)
    (ho : o.op = .call { callee := .builtin .append, args := #[s, x], argTypes := #[t, t] })
    (base : Nat) (e : TypeId) (i : TypeInfo) (z : Value) (size bytes : Nat) (ht : P.underlying t = some (.slice e)) (hi : P.info? e = some i) (hz : i.zero = some z)
    (hsize : i.size = size) (hby : i.bytes = bytes) (hzs : z.cells.size = size) (hsz : 0 < size)
    (v : Value) (n : Nat) (xs : List Value) (hs : a.eval s = v) (hown : w.ownsRow base e size v n xs)
    (ad : Addr) (m c : Nat) (news : List Value) (hx : a.eval x = .slice (some ad) m c) (hl : news.length = m * size) (hnews : ∀ j u, news[j]? = some u → w.cell? (ad.add j) = some u) (h1 : ∀ u ∈ news, u.oneCell' = true)
    (h63 : n + m ≤ maxLen) (hbytes : (n + m) * bytes ≤ 140737488355328) (hbase : base ≤ w.heap.size)
    (h : ∀ v' w', w'.ownsRow base e size v' (n + m) (xs ++ news) → w.grownBy w' v.ownBlock → (v'.ownBlock = v.ownBlock ∨ v'.ownBlock = some w.heap.size) → K (a.put o.dst v') w') :
    if Region.wanted o (yielded ops a.tmps) = true then Oper.wp P o a w K Q else E := by
  have hw : Region.wanted o (yielded ops a.tmps) = true := by simp [Region.wanted, hgd]
  rw [if_pos hw]
  obtain ⟨v', w', hr, h2, h3, _, h5⟩ := run_append_own_at (P := P) w base t o.type e i z size bytes ht hi hz hsize hby hzs hsz v n xs hown ad m c news hl hnews h1 h63 hbytes hbase
  unfold Oper.wp execOp
  simp only [ho, resolve, invoke, builtin, Sem.run_bind, Sem.run_pure, Result.andThen_ok, List.map_toArray, List.map_cons, List.map_nil, hs, hx, hr]
  exact h v' w' h2 h3 h5

end

theorem own_form {w : World} {base : Nat} {e : TypeId} {size : Nat} {v : Value} {n : Nat} {xs : List Value} (h : w.ownsRow base e size v n xs) : ∃ a cap, v = .slice a n cap := by
  rcases h.2 with ⟨h, h0⟩ | ⟨g, cap, cur, h, _⟩
  · exact ⟨none, 0, by rw [h, h0]⟩
  · exact ⟨_, _, h⟩

end Go.Proofs.YthfjgffhncogaaaGreat
/- impl's writer: write. -/
namespace Go.Proofs.YthfjgffhncogaaaGreat
open Go.RowKit Go.Deep

theorem heap_setCell_one {w : World} {b : Nat} {arr : Array Value} {e : TypeId} {fr : Nat × Nat} (h : w.heap[b]? = some (.cells arr e fr)) (o : Nat) (v : Value) : (w.setCell ⟨b, o, none⟩ v).heap[b]? = some (.cells (arr.setIfInBounds o v) e fr) := by
  have hlt : b < w.heap.size := (Array.getElem?_eq_some_iff.1 h).1
  simp only [World.setCell, Array.getElem?_modify]
  rw [if_pos True.intro, h]
  rfl

theorem flat_take (ss : List ByteArray) (i : Nat) (h : i < ss.length) : (ss.take (i + 1)).flatMap txtL = (ss.take i).flatMap txtL ++ txtL ss[i] := by
  rw [List.take_succ_eq_append_getElem h, List.flatMap_append]; simp
theorem flat_le (ss : List ByteArray) (i : Nat) : ((ss.take i).flatMap txtL).length ≤ (ss.flatMap txtL).length := by
  have : ss.flatMap txtL = (ss.take i).flatMap txtL ++ (ss.drop i).flatMap txtL := by rw [← List.flatMap_append, List.take_append_drop]
  rw [this, List.length_append]; omega

theorem Stay.drewN (K : Nat → Prop) (w : World) (n : Nat) : Stay K w (w.drewN n) := ⟨rfl, rfl, rfl, Nat.le_refl _, fun _ _ => rfl⟩

set_option maxRecDepth 40000 in
set_option maxHeartbeats 1000000 in
theorem write_any (K : Nat → Prop) (b most : Nat) (xs : List Int) (ss : List ByteArray) (tb : Nat) (w : World) (hW : Wri K b most xs w) (htb : K tb) (hc : ∀ i (h : i < ss.length), w.cell? ⟨tb, i, none⟩ = some (.string ss[i]))
    (hmost : most ≤ 2 ^ 40) (hss : ∀ s ∈ ss, s.size ≤ 2 ^ 47) (hlen : ss.length ≤ 2 ^ 40) :
    Calls Tryz.prog 83 #[.pointer (some ⟨b, 0, none⟩), .slice (some ⟨tb, 0, none⟩) ss.length ss.length] w fun e w' => WEnd K b most xs (ss.flatMap txtL) w e w' := by
  go_enter Tryz.func83, Tryz.ntmps83
  have HW := hide hW
  have HC := hide hc
  have HS := hide hss
  clear hW hc hss
  go_wp2_with fail
  go_loopw [8] (fun iv wr => ∃ i : Nat, i ≤ ss.length ∧ iv = .int .i64 i ∧ Stay K w wr ∧ Wri K b most (xs ++ (ss.take i).flatMap txtL) wr) (fun iv _ => ss.length - (intOf iv).toNat)
  case atStart => exact ⟨0, Nat.zero_le _, rfl, Stay.refl _ _, by simpa using unhide HW⟩
  case round =>
    obtain ⟨i, hi, rfl, hst, hwr⟩ := hrel
    by_cases hlt : i < ss.length
    · have ht := (hst.cell htb i).trans (unhide HC i hlt)
      have hsz : (ss[i]'hlt).size ≤ 2 ^ 47 := unhide HS _ (List.getElem_mem hlt)
      have hfl := hide (flat_take ss i hlt)
      obtain ⟨s, hs⟩ : ∃ s, s = ss[i]'hlt := ⟨_, rfl⟩
      rw [← hs] at ht hsz
      obtain ⟨ys, hys⟩ : ∃ ys, ys = xs ++ (ss.take i).flatMap txtL := ⟨_, rfl⟩
      rw [← hys] at hwr
      have hfew := hwr.few
      obtain ⟨a, cap, hb, ho, hsep⟩ := hwr.row
      have c0 : wr.cell? ⟨b, 0, none⟩ = some (.int .i64 most) := cell_of_heap hb 0
      have c1 : wr.cell? ⟨b, 1, none⟩ = some (.slice a ys.length cap) := cell_of_heap hb 1
      have HS1 := hide hs
      have HY := hide hys
      have HST := hide hst
      have HWR := hide hwr
      have HB := hide hb
      have HO := hide ho
      have HSEP := hide hsep
      clear hs hys hst hwr hb ho hsep
      go_upto_region 3 with fail
      go_quiet (fail)
      have hst' : Stay K w (wr.drewN nq) := (unhide HST).trans (Stay.drewN _ _ _)
      have hb' : (wr.drewN nq).heap[b]? = some (.cells #[.int .i64 most, .slice a ys.length cap] 54 (0, 0)) := unhide HB
      have ho' : (wr.drewN nq).ownsRow (b + 1) 5 1 (.slice a ys.length cap) ys.length (u8c ys) := unhide HO
      have hlt' : ∀ k, K k → k < (wr.drewN nq).heap.size := (unhide HWR).lt
      have c0' : (wr.drewN nq).cell? ⟨b, 0, none⟩ = some (.int .i64 most) := c0
      have c1' : (wr.drewN nq).cell? ⟨b, 1, none⟩ = some (.slice a ys.length cap) := c1
      clear c0 c1
      generalize wr.drewN nq = wd at hst' hb' ho' hlt' c0' c1' ⊢
      by_cases hfit : most < ys.length + s.size
      · have hfit' : (most : Int) < (ys.length : Int) + (s.size : Int) := by omega
        have HST2 := hide hst'
        clear hst' hb' ho' hlt'
        go_wp2_with fail
        refine ⟨rfl, unhide HST2, .inr ⟨?_, rfl⟩⟩
        have h1 := flat_le ss (i + 1)
        rw [unhide hfl, List.length_append, txtL_length, ← unhide HS1] at h1
        have h2 : ys.length = xs.length + ((ss.take i).flatMap txtL).length := by rw [unhide HY, List.length_append]
        omega
      · have hfit' : ¬ (most : Int) < (ys.length : Int) + (s.size : Int) := by omega
        have HST2 := hide hst'
        have HB2 := hide hb'
        have HO2 := hide ho'
        have HLT2 := hide hlt'
        clear hst' hb' ho' hlt'
        obtain ⟨i0, hi0, hz0, hz1, hz2⟩ := info_parts info_byte
        have hm1 := hide (show ys.length + s.size ≤ maxLen by unfold maxLen; omega)
        have hm2 := hide (show ys.length + s.size ≤ 140737488355328 by omega)
        have hm3 := hide (show b + 1 ≤ wd.heap.size from (Array.getElem?_eq_some_iff.1 (unhide HB2)).1)
        go_upto_region 5 with fail
        go_wp2_with (at_builtin; refine wpList_append_text _ rfl (.tmp 31) (.tmp 32) 22 9 rfl (b + 1) 5 i0 Tryz.underlying22 Tryz.underlying9 hi0 hz0 hz1 hz2 _ _ _ rfl (unhide HO2) _ rfl (unhide hm1) (unhide hm2) (unhide hm3) ?_)
        intro v w1 ho1 hg1 hat
        have hlb : ∀ k, (Value.slice a ys.length cap).ownBlock = some k → b + 1 ≤ k := fun k hk => ((unhide HO2).lt k hk).1
        have hb1 : w1.heap[b]? = some (.cells #[.int .i64 most, .slice a ys.length cap] 54 (0, 0)) := (hg1.block b (unhide hm3) (fun e => by have := hlb b e.symm; omega)).trans (unhide HB2)
        have hst1 : Stay K w w1 := (unhide HST2).grown hg1 (unhide HLT2) (unhide HSEP)
        have hlt1 : ∀ k, K k → k < w1.heap.size := fun k hk => Nat.lt_of_lt_of_le (unhide HLT2 k hk) hg1.size
        have hsep1 : ∀ g, v.ownBlock = some g → ¬ K g := fun g hg hk => by
          rcases hat with h | h
          · exact unhide HSEP g (by rw [← h]; exact hg) hk
          · rw [h] at hg
            cases hg
            exact absurd (unhide HLT2 _ hk) (Nat.lt_irrefl _)
        obtain ⟨a1, cap1, rfl⟩ := own_form ho1
        have c1 : w1.cell? ⟨b, 1, none⟩ = some (.slice a ys.length cap) := cell_of_heap hb1 1
        have z1 := frozen_of_heap hb1 1
        have HO1 := hide ho1
        have HB1 := hide hb1
        have HST1 := hide hst1
        have HLT1 := hide hlt1
        have HSEP1 := hide hsep1
        clear ho1 hb1 hst1 hlt1 hsep1 hg1 hat hlb c0' c1' ht
        go_wp2_with fail
        go_roundw
        case rel =>
          have hself := (unhide HWR).self
          have hz : ys ++ txtL s = xs ++ (ss.take (i + 1)).flatMap txtL := by rw [unhide hfl, ← List.append_assoc, ← unhide HY, ← unhide HS1]
          refine ⟨i + 1, hlt, by go_num, (unhide HST1).setCell hself _, ?_⟩
          rw [← hz]
          have hlen1 : (ys ++ txtL s).length = ys.length + s.size := by rw [List.length_append, txtL_length]
          refine ⟨fun k hk => by have := unhide HLT1 k hk; simpa using this, hself, by rw [hlen1]; omega, a1, cap1, ?_, ?_, ?_⟩
          · rw [hlen1]
            have := heap_setCell_one (unhide HB1) 1 (.slice a1 (ys.length + s.size) cap1)
            simpa using this
          · rw [hlen1, u8c_append, ← strCells_txt]
            exact ownsRow_setCell_below (unhide HO1) (by simp) _
          · rw [hlen1]
            exact unhide HSEP1
        case measure => simp [intOf]; omega
    · have hkk : i = ss.length := by omega
      subst hkk
      rw [List.take_length] at hwr
      go_wp2_with fail
      refine bodyPost_ret (v := .tuple #[]) (by simp [results, Tryz.results83, go_sem]) rfl ?_
      exact ⟨hst, .inl ⟨by have := hwr.few; rwa [List.length_append] at this, rfl, hwr⟩⟩

end Go.Proofs.YthfjgffhncogaaaGreat
/- impl's writer: bytes, number. -/
namespace Go.Proofs.YthfjgffhncogaaaGreat
open Go.RowKit Go.Deep

theorem WEnd.step {K K' : Nat → Prop} {b most : Nat} {xs ys : List Int} {w w0 : World} {e : Ending} {w' : World} (h : WEnd K' b most xs ys w0 e w') (hK : ∀ k, K k → K' k) (hs : Stay K w w0) : WEnd K b most xs ys w e w' := by
  obtain ⟨h1, h2⟩ := h
  refine ⟨hs.trans (h1.mono hK), ?_⟩
  rcases h2 with ⟨a, b, c⟩ | h2
  · exact .inl ⟨a, b, c.mono hK⟩
  · exact .inr h2

/-- One text, in a block of its own that was made just now. -/
theorem write_one (K : Nat → Prop) (b most : Nat) (xs : List Int) (s : ByteArray) (T : TypeId) (w : World) (hW : Wri K b most xs w) (hmost : most ≤ 2 ^ 40) (hs : s.size ≤ 2 ^ 47) :
    Calls Tryz.prog 83 #[.pointer (some ⟨b, 0, none⟩), .slice (some ⟨w.heap.size, 0, none⟩) 1 1] (w.alloc (.cells #[.string s] T)) fun e w' => WEnd K b most xs (txtL s) w e w' := by
  have hW' : Wri (fun k => K k ∨ k = w.heap.size) b most xs (w.alloc (.cells #[.string s] T)) := hW.more ((Below.refl _ _).alloc (Nat.le_refl _) _) fun k hk => hk.imp id fun h => by subst h; simp
  have h := write_any (fun k => K k ∨ k = w.heap.size) b most xs [s] w.heap.size (w.alloc (.cells #[.string s] T)) hW' (.inr rfl) (fun i hi => by
    have : i = 0 := by simpa using hi
    subst this
    exact cell_of_heap (heap_new _ _) 0) hmost (by simpa using hs) (by simp)
  refine h.mono fun e w' he => ?_
  have he' := he.step (K := K) (w := w) (fun k hk => .inl hk) ((Stay.refl _ _).alloc hW.lt _)
  simpa using he'

set_option maxRecDepth 40000 in
set_option maxHeartbeats 1000000 in
theorem wbytes_any (K : Nat → Prop) (b most : Nat) (xs ys : List Int) (rb n cap : Nat) (w : World) (hW : Wri K b most xs w) (hn : ys.length = n) (hy : ∀ y ∈ ys, B8 y) (hc : ∀ i, i < n → w.cell? ⟨rb, 0 + i, none⟩ = some (.int .u8 (ys.getD i 0)))
    (hmost : most ≤ 2 ^ 40) (hys : n ≤ 2 ^ 47) :
    Calls Tryz.prog 43 #[.pointer (some ⟨b, 0, none⟩), .slice (some ⟨rb, 0, none⟩) n cap] w fun e w' => WEnd K b most xs ys w e w' := by
  have hcv := run_convert_bytes_arg (P := Tryz.prog) w 22 5 Tryz.underlying22 Tryz.underlying5 rb 0 n cap ys hn hc 9 Tryz.underlying9
  have ht := hide (txtL_nums ys hy)
  have hsz : (strOfNums ys).size = n := by rw [← txtL_length, unhide ht, hn]
  obtain ⟨S, hS⟩ : ∃ S, S = strOfNums ys := ⟨_, rfl⟩
  rw [← hS] at hcv ht hsz
  have hw := hide (write_one K b most xs S 9 w hW hmost (by omega))
  rw [unhide ht] at hw
  clear hS hc hsz
  go_enter Tryz.func43, Tryz.ntmps43
  go_wp2_with fail
  refine (unhide hw).mono ?_
  rintro e w' ⟨hst, ⟨h1, rfl, h2⟩ | ⟨h1, rfl⟩⟩
  · go_wp2_with fail
    refine bodyPost_ret (v := .tuple #[]) (by simp [results, Tryz.results43, go_sem]) rfl ?_
    exact ⟨hst, .inl ⟨h1, rfl, h2⟩⟩
  · exact ⟨rfl, hst, .inr ⟨h1, rfl⟩⟩

/-- Bytes in a block of their own that was made just now. -/
theorem lit_any (K : Nat → Prop) (b most : Nat) (xs ys : List Int) (n : Nat) (T : TypeId) (w : World) (hW : Wri K b most xs w) (hn : ys.length = n) (hy : ∀ y ∈ ys, B8 y) (hmost : most ≤ 2 ^ 40) (hys : n ≤ 2 ^ 47) :
    Calls Tryz.prog 43 #[.pointer (some ⟨b, 0, none⟩), .slice (some ⟨w.heap.size, 0, none⟩) n n] (w.alloc (.cells (u8c ys).toArray T)) fun e w' => WEnd K b most xs ys w e w' := by
  have hb : Below w.heap.size w (w.alloc (.cells (u8c ys).toArray T)) := (Below.refl _ _).alloc (Nat.le_refl _) _
  refine (wbytes_any K b most xs ys w.heap.size n n _ (hW.same hb) hn hy (fun i hi => ?_) hmost hys).mono fun e w' he => he.step (fun _ h => h) ((Stay.refl _ _).alloc hW.lt _)
  rw [Nat.zero_add, cell_of_heap (heap_new _ _) i]
  have hi' : i < ys.length := by omega
  simp [u8c, hi']

set_option maxRecDepth 40000 in
set_option maxHeartbeats 1000000 in
theorem number_any (K : Nat → Prop) (b most : Nat) (xs : List Int) (n : Int) (size : Nat) (w : World) (hW : Wri K b most xs w) (hmost : most ≤ 2 ^ 40) (hs : size ≤ 8) :
    Calls Tryz.prog 165 #[.pointer (some ⟨b, 0, none⟩), .int .i64 n, .int .i64 size] w fun e w' => WEnd K b most xs (beL n size) w e w' := by
  go_enter Tryz.func165, Tryz.ntmps165
  have HW := hide hW
  clear hW
  go_wp2_with fail
  go_loopw [6] (fun iv wr => ∃ q : Nat, q ≤ size ∧ iv = .int .i64 ((q : Int) - 1) ∧ Stay K w wr ∧ Wri K b most (xs ++ beL (n / 2 ^ (8 * q)) (size - q)) wr) (fun iv _ => (intOf iv + 1).toNat)
  case atStart => exact ⟨size, Nat.le_refl _, rfl, Stay.refl _ _, by simpa [beL] using unhide HW⟩
  case round =>
    obtain ⟨q, hq, rfl, hst, hwr⟩ := hrel
    cases q with
    | zero =>
      have e0 : ((0 : Nat) : Int) - 1 = -1 := rfl
      rw [e0]
      have e1 : beL (n / 2 ^ (8 * 0)) (size - 0) = beL n size := by simp
      rw [e1] at hwr
      have HWR := hide hwr
      have HST := hide hst
      clear e1 hwr hst
      go_wp2_with fail
      refine bodyPost_ret (v := .tuple #[]) (by simp [results, Tryz.results165, go_sem]) rfl ?_
      exact ⟨unhide HST, .inl ⟨by have := (unhide HWR).few; rwa [List.length_append] at this, rfl, unhide HWR⟩⟩
    | succ q =>
      have e0 : ((q + 1 : Nat) : Int) - 1 = q := by omega
      rw [e0]
      have hf := hide (beL_front n q (size - (q + 1)))
      have hl := hide (lit_any K b most _ [n / 2 ^ (8 * q) % 256] 1 5 wr hwr rfl (by simp [B8]; omega) hmost (by omega))
      have hfew := hide (hwr.few)
      have HST := hide hst
      clear hwr hst
      go_wp2_with fail
      refine (unhide hl).mono ?_
      rintro e w' ⟨hst, ⟨h1, rfl, h2⟩ | ⟨h1, rfl⟩⟩
      · rw [List.append_assoc, ← unhide hf] at h2
        have HW2 := hide h2
        have HST2 := hide ((unhide HST).trans hst)
        clear h1 h2 hst
        go_wp2_with fail
        go_roundw
        case rel =>
          refine ⟨q, by omega, by go_num, unhide HST2, ?_⟩
          rw [show size - q = size - (q + 1) + 1 by omega]
          exact unhide HW2
        case measure => simp [intOf]
      · refine ⟨rfl, (unhide HST).trans hst, .inr ⟨?_, rfl⟩⟩
        have h2 := unhide hfew
        rw [List.length_append, beL_length] at h1 h2
        rw [beL_length]
        simp at h1
        omega

end Go.Proofs.YthfjgffhncogaaaGreat
