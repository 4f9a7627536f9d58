/- The law FnOrder holds for every input: whatever bytes it is given, it returns true, and its argument reads behind the call as before: of the three terms drawn from the bytes, when they are right, the order of the first two turned round is turned round, it is zero just when they are the same, and it goes on from one to the next. No condition. -/
import Derived.Test.YtjhdljmghhdhgaaFrt
import Derived.Test.YtjhdljmghhdhgaaLor
namespace Go.Proofs.Ytjhdljmghhdhgaa.fnOrder
open Go.ChangeShapes Go.WideShapes Go.ChangeAt Go.RowKit Go.Joins

theorem cellsByte : Try.prog.cellsOf 5 = 1 := by kernel_rfl
theorem bytesByte : Try.prog.bytesOf 5 = 1 := by kernel_rfl

section
variable {H : Type} {enc : TypeId × Value → H}
set_option maxRecDepth 40000 in
/-- Bytes that came in. -/
theorem open_code (W : World) (fuel : Nat) (cs : List Value) (x : DataW H × List MemPlace) (h : DataW.trod enc Try.prog W 0 (fun _ => true) true fuel 22 cs = some x) (hw : ∀ y ∈ x.1.weights Try.prog 22, y ≤ reachBytes) :
    ∃ (L : Nat) (v : Value), cs = [v] ∧ CodeIn W L v := by
  rcases DataW.trod_slice Try.underlying22 h with ⟨hc, _⟩ | ⟨a, len, cap, elems, rest, g, hg, hc, rfl, hb, hl, hcm, hlen, hel, hsp, _⟩
  · exact ⟨0, _, hc, none, 0, rfl, Nat.le_refl _, by omega, fun i hi => by omega⟩
  · have hrl := (hsp rfl).1
    have hwc : (elems.length + rest.length) * 1 ≤ reachBytes := by
      have := hw ((elems.length + rest.length) * 1) (by simp [DataW.weights, Try.underlying22, bytesByte])
      exact this
    have hR := reachBytes_lt
    have hspot : 0 < len → a.spot = none := fun h => by
      have he := hel 0 h
      rw [List.getElem?_eq_getElem (by omega)] at he
      obtain ⟨cs', hcs', _⟩ := Option.bind_eq_some_iff.1 he
      rw [cellsByte] at hcs'
      obtain ⟨_, hl4, hcell⟩ := World.cells?_some hcs'
      have hc0 := hcell 0 (by decide)
      rw [List.getElem?_eq_getElem (by omega)] at hc0
      simpa [Addr.add] using World.cell?_spot hc0
    refine ⟨len, _, hc, some a, cap, rfl, hl, by omega, fun i hi => ?_⟩
    have he := hel i hi
    rw [List.getElem?_eq_getElem (by omega)] at he
    obtain ⟨cs', hcs', htr⟩ := Option.bind_eq_some_iff.1 he
    obtain ⟨n, rfl, _, hn⟩ := DataW.trod_int Try.underlying5 htr
    rw [cellsByte] at hcs'
    obtain ⟨_, _, hcell⟩ := World.cells?_some hcs'
    have hblk := World.cells?_block hcs' (by decide)
    have hsn := hspot (by omega)
    obtain ⟨b, off, sp⟩ := a
    obtain rfl : sp = none := hsn
    have hc0 := hcell 0 (by decide)
    rw [add_plain, add_plain] at hc0
    rw [add_plain] at hblk
    refine ⟨b, off, n, rfl, hblk, by simpa using hc0, ?_⟩
    have := bounds_u8 hn
    omega
end

set_option maxRecDepth 100000 in
theorem lifted (os : Os) (started : os.Started) (H : Type) (enc : TypeId × Value → H) :
    ReturnsInHanded {} Try.checked os 3 .any (Rows.fnOrderSpec.pre6 enc Try.prog Try.f3 Rows.fnOrderRow.domain false) (Rows.fnOrderSpec.post enc Try.prog Try.f3 false true false false) := by
  refine returnsInHanded_of_change_sized (C := Try.checked) own started (by kernel_rfl) Try.func3
    (ChangeSpec.witness6 (enc := enc) (C := Try.checked) false ⟨#[], #[.slice none 0 0], []⟩ 8 (by kernel_rfl) (by kernel_rfl) (by kernel_rfl) (by kernel_rfl)) ?_
  intro W base args ds gs before hval0 hW _ hsz0 _
  have hval : ∀ (j : Nat) t v, Try.f3.params[j]? = some t → args[j]? = some v → Value.okWide Try.prog W .any base t v := hval0
  have hW' := hW
  obtain ⟨p, q, hA0, hV, rfl, _, _⟩ := hW
  have hA : DataW.TrodAll enc Try.prog W 0 (fun _ => true) true Try.f3.params.toList args.toList ds p := hA0
  rw [Try.params3] at hA hval
  obtain ⟨v0, d0, hargs, rfl, h0⟩ := trodAll_one hA
  obtain rfl : args = #[v0] := by cases args; simp_all
  obtain ⟨rfl, rfl⟩ := trodVars_none hV
  obtain ⟨a, len, cap, rfl⟩ := okWide_slice Try.underlying22 (hval 0 22 v0 rfl rfl)
  have hsz : (DataW.weightsEach Try.prog [22] [d0]).all (fun x => decide (x ≤ reachBytes)) = true := hsz0
  have h0' := h0
  obtain ⟨fuel, hf⟩ := h0
  have hw : ∀ y ∈ d0.weights Try.prog 22, y ≤ reachBytes := fun y hy => by
    have := List.all_eq_true.1 hsz y (by simp [DataW.weightsEach, hy])
    simpa using this
  obtain ⟨L, v, hcs, hC⟩ := open_code W fuel [.slice a len cap] _ (by simpa [Value.cells] using hf) hw
  obtain rfl : v = .slice a len cap := by simpa using hcs.symm
  have hlt : ∀ x ∈ p, x.block < W.heap.size := fun x hx => hW'.lt x (by simp [hx])
  clear hA0 hA hf hsz0 hsz hval0
  refine (lor_any L _ W hC).mono fun e W' ⟨he, hb⟩ => ?_
  subst he
  exact ⟨_, rfl, _, _, _, [], p ++ [], [], hW', trodAll_cons_mk (shut_bool Try.underlying4 _) trodAll_mk0,
    trodAll_cons_mk (Below.trod laidOut (by kernel_rfl) (of_decide_eq_true (by kernel_rfl)) h0' hb hlt) trodAll_mk0, rfl, hb.frame _, fun h => by cases h⟩

theorem holds : Rows.FnOrderSaid :=
  OpenClaim.holds_of_wide 3 Try.f3 rfl rfl rfl rfl rfl rfl rfl ⟨rfl, rfl, rfl, rfl, rfl⟩ rfl rfl rfl rfl rfl (by kernel_rfl) Try.func3 (by kernel_rfl)
    (of_decide_eq_true (by kernel_rfl)) (by unfold Func.isWrapper; first | (rw [if_pos (by decide +kernel)]; kernel_rfl) | (rw [if_neg (by decide +kernel)]; exact ⟨rfl, rfl⟩))
    (fun os started H enc _ => lifted os started H enc)
end Go.Proofs.Ytjhdljmghhdhgaa.fnOrder
