/- What the frames of the laws on terms have in common: a term that came in is a tree that lies in memory. -/
import Derived.Test.YtaggnncndbdmjaaTm
import Derived.Test.YtaggnncndbdmjaaRows
import Derived.ProofKit
import Derived.OpenShut
import Derived.SizedLaws
import Derived.Lib.SmallJoins
namespace Go.Proofs.Ytaggnncndbdmjaa
open Go.ChangeShapes Go.WideShapes Go.ChangeAt Go.RowKit Go.Joins

theorem own : ownKnob Try.prog.godebug = none := by kernel_rfl
theorem laidOut : laidOutB Try.prog = true := by kernel_rfl
theorem cellsTerm : Try.prog.cellsOf 24 = 4 := by kernel_rfl
theorem cellsInt : Try.prog.cellsOf 3 = 1 := by kernel_rfl
theorem cellsStr : Try.prog.cellsOf 9 = 1 := by kernel_rfl
theorem cellsTerms : Try.prog.cellsOf 22 = 1 := by kernel_rfl
theorem bytesTerm : Try.prog.bytesOf 24 = 56 := by kernel_rfl

theorem in64_of {n : Int} (h : (Lit.int .i64 n).wf = true) : In64 n := by
  have := bounds_i64 h
  exact this
theorem list4 {α : Type} {xs : List α} (h : xs.length = 4) : ∃ a b c d, xs = [a, b, c, d] := by
  match xs, h with
  | [a, b, c, d], _ => exact ⟨a, b, c, d, rfl⟩

theorem list_of {α : Type} {R : Nat → α → Prop} : ∀ (len : Nat), (∀ i, i < len → ∃ t, R i t) → ∃ ks : List α, ks.length = len ∧ ∀ i (h : i < ks.length), R i ks[i]
  | 0, _ => ⟨[], rfl, fun i h => by simp at h⟩
  | len + 1, H => by
    obtain ⟨ks, h1, h2⟩ := list_of len fun i h => H i (by omega)
    obtain ⟨t, ht⟩ := H len (by omega)
    refine ⟨ks ++ [t], by simp [h1], fun i h => ?_⟩
    by_cases hi : i < ks.length
    · rw [List.getElem_append_left hi]; exact h2 i hi
    · have : i = ks.length := by simp at h; omega
      subst this
      simp only [List.getElem_concat_length]
      rw [h1]; exact ht

theorem weights_mem_all {H : Type} {P : Program} {e : TypeId} : ∀ {ds : List (DataW H)} {d : DataW H}, d ∈ ds → ∀ y ∈ d.weights P e, y ∈ DataW.weightsAll P e ds
  | _ :: _, d, h, y, hy => by
    rw [DataW.weightsAll, List.mem_append]
    rcases List.mem_cons.1 h with rfl | h
    · exact Or.inl hy
    · exact Or.inr (weights_mem_all h y hy)

section
variable {H : Type} {enc : TypeId × Value → H}

set_option maxRecDepth 40000 in
theorem open_term (W : World) : ∀ (n fuel : Nat), fuel / 2 = n → ∀ (cs : List Value) (x : DataW H × List MemPlace), DataW.trod enc Try.prog W 0 (fun _ => true) true fuel 24 cs = some x →
    (∀ y ∈ x.1.weights Try.prog 24, y ≤ reachBytes) → ∃ (t : Tm n) (c0 c1 c2 c3 : Value), cs = [c0, c1, c2, c3] ∧ TAt (Under W.heap.size) W n t c0 c1 c2 c3 := by
  intro n
  induction n with
  | zero =>
    intro fuel hfu cs x h _
    obtain ⟨xs, m, hm, rfl, _, hxs, hf⟩ := DataW.trod_struct Try.underlying24 h
    have : m = 0 := by omega
    subst this
    have h0 := hf 0 _ rfl
    rw [List.getElem?_eq_getElem (by rw [hxs]; decide)] at h0
    simp [DataW.trod] at h0
  | succ n ih =>
    intro fuel hfu cs x h hw
    obtain ⟨xs, m, hm, rfl, hcs, hxs, hf⟩ := DataW.trod_struct Try.underlying24 h
    rw [cellsTerm] at hcs
    obtain ⟨y0, y1, y2, y3, rfl⟩ := list4 hxs
    obtain ⟨c0, c1, c2, c3, rfl⟩ := list4 hcs
    have h0 : DataW.trod enc Try.prog W 0 (fun _ => true) true m 3 [c0] = some y0 := by have := hf 0 _ rfl; simpa [cellsInt] using this
    have h1 : DataW.trod enc Try.prog W 0 (fun _ => true) true m 3 [c1] = some y1 := by have := hf 1 _ rfl; simpa [cellsInt] using this
    have h2 : DataW.trod enc Try.prog W 0 (fun _ => true) true m 9 [c2] = some y2 := by have := hf 2 _ rfl; simpa [cellsStr] using this
    have h3 : DataW.trod enc Try.prog W 0 (fun _ => true) true m 22 [c3] = some y3 := by have := hf 3 _ rfl; simpa [cellsTerms] using this
    obtain ⟨k, e0, rfl, wk⟩ := DataW.trod_int Try.underlying3 h0
    obtain ⟨q, e1, rfl, wq⟩ := DataW.trod_int Try.underlying3 h1
    obtain ⟨s, e2, rfl, hs⟩ := DataW.trod_string Try.underlying9 h2
    have hwt : ∀ y ∈ (DataW.weights Try.prog 9 (.lit (.string s.data.toList) : DataW H)) ++ y3.1.weights Try.prog 22, y ≤ reachBytes := fun y hy => hw y (by
      simp only [List.map_cons, List.map_nil, DataW.weights, Try.underlying24, DataW.weightsEach] at hy ⊢
      simpa using hy)
    have hsz : s.size ≤ reachBytes := by
      have := hwt s.data.toList.length (by simp [DataW.weights])
      simpa using this
    have hk : ∃ ks : List (Tm n), SAt (Under W.heap.size) W (TAt (Under W.heap.size) W n) ks c3 := by
      rcases DataW.trod_slice Try.underlying22 h3 with ⟨hc, _⟩ | ⟨a, len, cap, elems, rest, g, hg, hc, rfl, hb, hl, hcm, hlen, hel, hsp, _⟩
      · obtain rfl : c3 = .slice none 0 0 := by simpa using hc
        exact ⟨[], none, 0, rfl, by simp, by simp, fun i hi => by simp at hi⟩
      · obtain rfl : c3 = .slice (some a) len cap := by simpa using hc
        have hrl := (hsp rfl).1
        have hwc : (elems.length + rest.length) * 56 ≤ reachBytes := by
          have := hwt ((elems.length + rest.length) * 56) (by simp [DataW.weights, Try.underlying22, bytesTerm])
          exact this
        have hR := reachBytes_lt
        have hspot : 0 < len → a.spot = none := fun h => by
          have he := hel 0 h
          rw [List.getElem?_eq_getElem (by omega)] at he
          obtain ⟨cs', hcs', _⟩ := Option.bind_eq_some_iff.1 he
          rw [cellsTerm] at hcs'
          obtain ⟨_, hl4, hcell⟩ := World.cells?_some hcs'
          have hc0 := hcell 0 (by decide)
          rw [List.getElem?_eq_getElem (by omega)] at hc0
          simpa [Addr.add] using World.cell?_spot hc0
        have hkid : ∀ i, i < len → ∃ t : Tm n, ∃ b off d0 d1 d2 d3, (some a : Option Addr) = some ⟨b, off, none⟩ ∧ Under W.heap.size b ∧
            W.cell? ⟨b, off + i * 4, none⟩ = some d0 ∧ W.cell? ⟨b, off + i * 4 + 1, none⟩ = some d1 ∧ W.cell? ⟨b, off + i * 4 + 2, none⟩ = some d2 ∧
            W.cell? ⟨b, off + i * 4 + 3, none⟩ = some d3 ∧ TAt (Under W.heap.size) W n t d0 d1 d2 d3 := by
          intro i hi
          have he := hel i hi
          rw [List.getElem?_eq_getElem (by omega)] at he
          obtain ⟨cs', hcs', htr⟩ := Option.bind_eq_some_iff.1 he
          obtain ⟨t, d0, d1, d2, d3, rfl, hT⟩ := ih g (by omega) cs' _ htr (fun y hy => hwt y (by
            simp only [DataW.weights, Try.underlying22, List.mem_append, List.mem_cons]
            refine Or.inr (Or.inr (Or.inl ?_))
            exact weights_mem_all (by rw [List.mem_map]; exact ⟨_, List.getElem_mem (by omega), rfl⟩) y hy))
          rw [cellsTerm] at hcs'
          obtain ⟨_, _, hcell⟩ := World.cells?_some hcs'
          have hblk := World.cells?_block hcs' (by decide)
          have hsn := hspot (by omega)
          obtain ⟨b, off, sp⟩ := a
          obtain rfl : sp = none := hsn
          have hadd : ∀ j, ((⟨b, off, none⟩ : Addr).add (i * 4)).add j = ⟨b, off + i * 4 + j, none⟩ := fun j => by rw [add_plain, add_plain]
          have hc0 := hcell 0 (by decide)
          have hc1 := hcell 1 (by decide)
          have hc2 := hcell 2 (by decide)
          have hc3 := hcell 3 (by decide)
          rw [hadd] at hc0 hc1 hc2 hc3
          refine ⟨t, b, off, d0, d1, d2, d3, rfl, ?_, hc0, hc1, hc2, hc3, hT⟩
          rw [add_plain] at hblk
          exact hblk
        obtain ⟨ks, hkl, hks⟩ := list_of len hkid
        exact ⟨ks, some a, cap, by rw [hkl], by omega, by omega, fun i hi => hks i hi⟩
    obtain ⟨ks, hks⟩ := hk
    simp only [List.cons.injEq, and_true] at e0 e1 e2
    refine ⟨(k, q, s, ks), c0, c1, c2, c3, rfl, e0, e1, e2, in64_of wk, in64_of wq, ?_, hks⟩
    have := reachBytes_lt; omega
end
end Go.Proofs.Ytaggnncndbdmjaa
