/- impl's writer: write. -/
import Derived.Test.YtaggnncndbdmjaaWr0
import Derived.Test.YtaggnncndbdmjaaNby
import Derived.Test.YtaggnncndbdmjaaWra
import Derived.Deep.QuietTactic
import Derived.BigQuiet
import Derived.Deep.DeepCutAuto
namespace Go.Proofs.Ytaggnncndbdmjaa
open Go.RowKit Go.Deep

theorem heap_setCell_one {w : World} {b : Nat} {arr : Array Value} {e : TypeId} {fr : Nat × Nat} (h : w.heap[b]? = some (.cells arr e fr)) (o : Nat) (v : Value) : (w.setCell ⟨b, o, none⟩ v).heap[b]? = some (.cells (arr.setIfInBounds o v) e fr) := by
  have hlt : b < w.heap.size := (Array.getElem?_eq_some_iff.1 h).1
  simp only [World.setCell, Array.getElem?_modify]
  rw [if_pos True.intro, h]
  rfl

theorem flat_take (ss : List ByteArray) (i : Nat) (h : i < ss.length) : (ss.take (i + 1)).flatMap txtL = (ss.take i).flatMap txtL ++ txtL ss[i] := by
  rw [List.take_succ_eq_append_getElem h, List.flatMap_append]; simp
theorem flat_le (ss : List ByteArray) (i : Nat) : ((ss.take i).flatMap txtL).length ≤ (ss.flatMap txtL).length := by
  have : ss.flatMap txtL = (ss.take i).flatMap txtL ++ (ss.drop i).flatMap txtL := by rw [← List.flatMap_append, List.take_append_drop]
  rw [this, List.length_append]; omega

theorem Stay.drewN (K : Nat → Prop) (w : World) (n : Nat) : Stay K w (w.drewN n) := ⟨rfl, rfl, rfl, Nat.le_refl _, fun _ _ => rfl⟩

set_option maxRecDepth 40000 in
set_option maxHeartbeats 1000000 in
theorem write_any (K : Nat → Prop) (b most : Nat) (xs : List Int) (ss : List ByteArray) (tb : Nat) (w : World) (hW : Wri K b most xs w) (htb : K tb) (hc : ∀ i (h : i < ss.length), w.cell? ⟨tb, i, none⟩ = some (.string ss[i]))
    (hmost : most ≤ 2 ^ 40) (hss : ∀ s ∈ ss, s.size ≤ 2 ^ 47) (hlen : ss.length ≤ 2 ^ 40) :
    Calls Try.prog 23 #[.pointer (some ⟨b, 0, none⟩), .slice (some ⟨tb, 0, none⟩) ss.length ss.length] w fun e w' => WEnd K b most xs (ss.flatMap txtL) w e w' := by
  go_enter Try.func23, Try.ntmps23
  have HW := hide hW
  have HC := hide hc
  have HS := hide hss
  clear hW hc hss
  go_wp2_with fail
  go_loopw [8] (fun iv wr => ∃ i : Nat, i ≤ ss.length ∧ iv = .int .i64 i ∧ Stay K w wr ∧ Wri K b most (xs ++ (ss.take i).flatMap txtL) wr) (fun iv _ => ss.length - (intOf iv).toNat)
  case atStart => exact ⟨0, Nat.zero_le _, rfl, Stay.refl _ _, by simpa using unhide HW⟩
  case round =>
    obtain ⟨i, hi, rfl, hst, hwr⟩ := hrel
    by_cases hlt : i < ss.length
    · have ht := (hst.cell htb i).trans (unhide HC i hlt)
      have hsz : (ss[i]'hlt).size ≤ 2 ^ 47 := unhide HS _ (List.getElem_mem hlt)
      have hfl := hide (flat_take ss i hlt)
      obtain ⟨s, hs⟩ : ∃ s, s = ss[i]'hlt := ⟨_, rfl⟩
      rw [← hs] at ht hsz
      obtain ⟨ys, hys⟩ : ∃ ys, ys = xs ++ (ss.take i).flatMap txtL := ⟨_, rfl⟩
      rw [← hys] at hwr
      have hfew := hwr.few
      obtain ⟨a, cap, hb, ho, hsep⟩ := hwr.row
      have c0 : wr.cell? ⟨b, 0, none⟩ = some (.int .i64 most) := cell_of_heap hb 0
      have c1 : wr.cell? ⟨b, 1, none⟩ = some (.slice a ys.length cap) := cell_of_heap hb 1
      have HS1 := hide hs
      have HY := hide hys
      have HST := hide hst
      have HWR := hide hwr
      have HB := hide hb
      have HO := hide ho
      have HSEP := hide hsep
      clear hs hys hst hwr hb ho hsep
      go_upto_region 3 with fail
      go_quiet (fail)
      have hst' : Stay K w (wr.drewN nq) := (unhide HST).trans (Stay.drewN _ _ _)
      have hb' : (wr.drewN nq).heap[b]? = some (.cells #[.int .i64 most, .slice a ys.length cap] 44 (0, 0)) := unhide HB
      have ho' : (wr.drewN nq).ownsRow (b + 1) 5 1 (.slice a ys.length cap) ys.length (u8c ys) := unhide HO
      have hlt' : ∀ k, K k → k < (wr.drewN nq).heap.size := (unhide HWR).lt
      have c0' : (wr.drewN nq).cell? ⟨b, 0, none⟩ = some (.int .i64 most) := c0
      have c1' : (wr.drewN nq).cell? ⟨b, 1, none⟩ = some (.slice a ys.length cap) := c1
      clear c0 c1
      generalize wr.drewN nq = wd at hst' hb' ho' hlt' c0' c1' ⊢
      by_cases hfit : most < ys.length + s.size
      · have hfit' : (most : Int) < (ys.length : Int) + (s.size : Int) := by omega
        have HST2 := hide hst'
        clear hst' hb' ho' hlt'
        go_wp2_with fail
        refine ⟨rfl, unhide HST2, .inr ⟨?_, rfl⟩⟩
        have h1 := flat_le ss (i + 1)
        rw [unhide hfl, List.length_append, txtL_length, ← unhide HS1] at h1
        have h2 : ys.length = xs.length + ((ss.take i).flatMap txtL).length := by rw [unhide HY, List.length_append]
        omega
      · have hfit' : ¬ (most : Int) < (ys.length : Int) + (s.size : Int) := by omega
        have HST2 := hide hst'
        have HB2 := hide hb'
        have HO2 := hide ho'
        have HLT2 := hide hlt'
        clear hst' hb' ho' hlt'
        obtain ⟨i0, hi0, hz0, hz1, hz2⟩ := info_parts info_byte
        have hm1 := hide (show ys.length + s.size ≤ maxLen by unfold maxLen; omega)
        have hm2 := hide (show ys.length + s.size ≤ 140737488355328 by omega)
        have hm3 := hide (show b + 1 ≤ wd.heap.size from (Array.getElem?_eq_some_iff.1 (unhide HB2)).1)
        go_upto_region 5 with fail
        go_wp2_with (at_builtin; refine wpList_append_text _ rfl (.tmp 31) (.tmp 32) 36 9 rfl (b + 1) 5 i0 Try.underlying36 Try.underlying9 hi0 hz0 hz1 hz2 _ _ _ rfl (unhide HO2) _ rfl (unhide hm1) (unhide hm2) (unhide hm3) ?_)
        intro v w1 ho1 hg1 hat
        have hlb : ∀ k, (Value.slice a ys.length cap).ownBlock = some k → b + 1 ≤ k := fun k hk => ((unhide HO2).lt k hk).1
        have hb1 : w1.heap[b]? = some (.cells #[.int .i64 most, .slice a ys.length cap] 44 (0, 0)) := (hg1.block b (unhide hm3) (fun e => by have := hlb b e.symm; omega)).trans (unhide HB2)
        have hst1 : Stay K w w1 := (unhide HST2).grown hg1 (unhide HLT2) (unhide HSEP)
        have hlt1 : ∀ k, K k → k < w1.heap.size := fun k hk => Nat.lt_of_lt_of_le (unhide HLT2 k hk) hg1.size
        have hsep1 : ∀ g, v.ownBlock = some g → ¬ K g := fun g hg hk => by
          rcases hat with h | h
          · exact unhide HSEP g (by rw [← h]; exact hg) hk
          · rw [h] at hg
            cases hg
            exact absurd (unhide HLT2 _ hk) (Nat.lt_irrefl _)
        obtain ⟨a1, cap1, rfl⟩ := own_form ho1
        have c1 : w1.cell? ⟨b, 1, none⟩ = some (.slice a ys.length cap) := cell_of_heap hb1 1
        have z1 := frozen_of_heap hb1 1
        have HO1 := hide ho1
        have HB1 := hide hb1
        have HST1 := hide hst1
        have HLT1 := hide hlt1
        have HSEP1 := hide hsep1
        clear ho1 hb1 hst1 hlt1 hsep1 hg1 hat hlb c0' c1' ht
        go_wp2_with fail
        go_roundw
        case rel =>
          have hself := (unhide HWR).self
          have hz : ys ++ txtL s = xs ++ (ss.take (i + 1)).flatMap txtL := by rw [unhide hfl, ← List.append_assoc, ← unhide HY, ← unhide HS1]
          refine ⟨i + 1, hlt, by go_num, (unhide HST1).setCell hself _, ?_⟩
          rw [← hz]
          have hlen1 : (ys ++ txtL s).length = ys.length + s.size := by rw [List.length_append, txtL_length]
          refine ⟨fun k hk => by have := unhide HLT1 k hk; simpa using this, hself, by rw [hlen1]; omega, a1, cap1, ?_, ?_, ?_⟩
          · rw [hlen1]
            have := heap_setCell_one (unhide HB1) 1 (.slice a1 (ys.length + s.size) cap1)
            simpa using this
          · rw [hlen1, u8c_append, ← strCells_txt]
            exact ownsRow_setCell_below (unhide HO1) (by simp) _
          · rw [hlen1]
            exact unhide HSEP1
        case measure => simp [intOf]; omega
    · have hkk : i = ss.length := by omega
      subst hkk
      rw [List.take_length] at hwr
      go_wp2_with fail
      refine bodyPost_ret (v := .tuple #[]) (by simp [results, Try.results23, go_sem]) rfl ?_
      exact ⟨hst, .inl ⟨by have := hwr.few; rwa [List.length_append] at this, rfl, hwr⟩⟩

end Go.Proofs.Ytaggnncndbdmjaa
