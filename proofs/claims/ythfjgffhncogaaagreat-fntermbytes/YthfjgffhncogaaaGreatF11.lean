/- The law FnTermBytes holds for every input: whatever bytes it is given, it returns true, and its argument reads behind the call as before: the bytes that both sides make of the term drawn from them are the same, they are read as that term, and with one byte more or one less they are no term's. No condition. -/
import Derived.Test.YthfjgffhncogaaaGreatQ3
import Derived.Test.YthfjgffhncogaaaGreatQ47
namespace Go.Proofs.YthfjgffhncogaaaGreat.fnTermBytes
open Go.ChangeShapes Go.WideShapes Go.ChangeAt Go.RowKit Go.Joins

set_option maxRecDepth 100000 in
theorem lifted (os : Os) (started : os.Started) (H : Type) (enc : TypeId × Value → H) :
    ReturnsInHanded {} Tryz.checked os 4 .any (Rows.fnTermBytesSpec.pre6 enc Tryz.prog Tryz.f4 Rows.fnTermBytesRow.domain false) (Rows.fnTermBytesSpec.post enc Tryz.prog Tryz.f4 false true false false) := by
  refine returnsInHanded_of_change_sized (C := Tryz.checked) own started (by kernel_rfl) Tryz.func4
    (ChangeSpec.witness6 (enc := enc) (C := Tryz.checked) false ⟨#[], #[.slice none 0 0], []⟩ 8 (by kernel_rfl) (by kernel_rfl) (by kernel_rfl) (by kernel_rfl)) ?_
  intro W base args ds gs before hval0 hW _ hsz0 _
  have hval : ∀ (j : Nat) t v, Tryz.f4.params[j]? = some t → args[j]? = some v → Value.okWide Tryz.prog W .any base t v := hval0
  have hW' := hW
  obtain ⟨p, q, hA0, hV, rfl, _, _⟩ := hW
  have hA : DataW.TrodAll enc Tryz.prog W 0 (fun _ => true) true Tryz.f4.params.toList args.toList ds p := hA0
  rw [Tryz.params4] at hA hval
  obtain ⟨v0, d0, hargs, rfl, h0⟩ := trodAll_one hA
  obtain rfl : args = #[v0] := by cases args; simp_all
  obtain ⟨rfl, rfl⟩ := trodVars_none hV
  obtain ⟨a, len, cap, rfl⟩ := okWide_slice Tryz.underlying22 (hval 0 22 v0 rfl rfl)
  have hsz : (DataW.weightsEach Tryz.prog [22] [d0]).all (fun x => decide (x ≤ reachBytes)) = true := hsz0
  have h0' := h0
  obtain ⟨fuel, hf⟩ := h0
  have hw : ∀ y ∈ d0.weights Tryz.prog 22, y ≤ reachBytes := fun y hy => by
    have := List.all_eq_true.1 hsz y (by simp [DataW.weightsEach, hy])
    simpa using this
  obtain ⟨L, v, hcs, hC⟩ := open_code W fuel [.slice a len cap] _ (by simpa [Value.cells] using hf) hw
  obtain rfl : v = .slice a len cap := by simpa using hcs.symm
  have hlt : ∀ x ∈ p, x.block < W.heap.size := fun x hx => hW'.lt x (by simp [hx])
  clear hA0 hA hf hsz0 hsz hval0
  refine (law10_any L _ W hC).mono fun e W' ⟨he, hb⟩ => ?_
  subst he
  exact ⟨_, rfl, _, _, _, [], p ++ [], [], hW', trodAll_cons_mk (shut_bool Tryz.underlying4 _) trodAll_mk0,
    trodAll_cons_mk (Below.trod laidOut (by kernel_rfl) (of_decide_eq_true (by kernel_rfl)) h0' hb hlt) trodAll_mk0, rfl, hb.frame _, fun h => by cases h⟩

theorem holds : Rows.FnTermBytesSaid :=
  OpenClaim.holds_of_wide 4 Tryz.f4 rfl rfl rfl rfl rfl rfl rfl ⟨rfl, rfl, rfl, rfl, rfl⟩ rfl rfl rfl rfl rfl (by kernel_rfl) Tryz.func4 (by kernel_rfl)
    (of_decide_eq_true (by kernel_rfl)) (by unfold Func.isWrapper; first | (rw [if_pos (by decide +kernel)]; kernel_rfl) | (rw [if_neg (by decide +kernel)]; exact ⟨rfl, rfl⟩))
    (fun os started H enc _ => lifted os started H enc)
end Go.Proofs.YthfjgffhncogaaaGreat.fnTermBytes
