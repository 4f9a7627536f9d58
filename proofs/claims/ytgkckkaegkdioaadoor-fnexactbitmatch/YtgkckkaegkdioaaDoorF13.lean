/- The law FnExactBitMatch holds for every input: whatever bits and segments it is given, it returns true, and its arguments read behind the call as before. The table of masks is as the program's text lays it (the card ties it). -/
import Derived.Test.YtgkckkaegkdioaaDoorQ1
import Derived.Test.YtgkckkaegkdioaaDoorQ2
import Derived.Test.YtgkckkaegkdioaaDoorQ8
namespace Go.Proofs.YtgkckkaegkdioaaDoor.fnExactBitMatch
open Go.ChangeShapes Go.WideShapes Go.ChangeAt Go.RowKit Go.Joins

theorem segs_one {W : World} {n : Nat} {gs : List (SgT n)} {v : Value} (h : SgsAt (Under W.heap.size) W n gs v) : ∃ (m : Nat) (ls : List (SgT (m + 1))), SgsAt (Under W.heap.size) W (m + 1) ls v := by
  cases n with
  | succ m => exact ⟨m, gs, h⟩
  | zero =>
    obtain ⟨a, cap, hv, h1, h2, h3⟩ := h
    have h0 : gs = [] := by
      cases gs with
      | nil => rfl
      | cons g _ => exact g.2.2.2.2.2.elim
    subst h0
    exact ⟨0, [], a, cap, hv, h1, h2, fun i hi => by cases hi⟩

set_option maxRecDepth 100000 in
/-- What the walk gives, for every argument and every world that holds the table. -/
theorem contract (H : Type) (enc : TypeId × Value → H) (W : World) (base : Nat) (args : Array Value) (ds gs : List (DataW H)) (before : List MemPlace)
    (hval : ∀ (j : Nat) t v, Tryd.f3.params[j]? = some t → args[j]? = some v → Value.okWide Tryd.prog W .any base t v)
    (hW : DataW.Whole enc Tryd.prog Tryd.f3.params.toList Rows.fnExactBitMatchSpec.vars false W args.toList ds gs before) (hL : laidMetH Tryd.prog Rows.fnExactBitMatchRow.laid W)
    (hsz0 : (DataW.weightsEach Tryd.prog (Tryd.f3.params.toList ++ (OpenSpec.ofChange Rows.fnExactBitMatchSpec).bare.plain.varTypes Tryd.prog) (ds ++ gs)).all (· ≤ reachBytes) = true) :
    Calls Tryd.prog 3 args W fun e W' => ∃ v, e = .returned v ∧ Rows.fnExactBitMatchSpec.post enc Tryd.prog Tryd.f3 false true false false W args v W' := by
  have hW' := hW
  obtain ⟨p, q, hA0, hV, rfl, hfz, hnd⟩ := hW
  have hA : DataW.TrodAll enc Tryd.prog W 0 (fun _ => true) true Tryd.f3.params.toList args.toList ds p := hA0
  rw [Tryd.params3] at hA hval hsz0
  obtain ⟨v0, vs0, d0, ds0, p0, q0, hargs, rfl, rfl, h0, r0⟩ := trodAll_cons hA
  obtain ⟨v1, vs1, d1, ds1, p1, q1, rfl, rfl, rfl, h1, r1⟩ := trodAll_cons r0
  obtain ⟨rfl, rfl, rfl⟩ := trodAll_nil r1
  obtain rfl : args = #[v0, v1] := by cases args; simp_all
  have hM := masks_of (table hL)
  obtain ⟨n0, s0, rfl, wn0, hs0⟩ := bits_open (hval 0 23 v0 rfl rfl) h0
  obtain ⟨a, len, cap, rfl⟩ := okWide_slice Tryd.underlying24 (hval 1 24 v1 rfl rfl)
  have h1' := h1
  obtain ⟨fuel, hf⟩ := h1
  have hw : ∀ y ∈ d1.weights Tryd.prog 24, y ≤ reachBytes := fun y hy => by
    have := List.all_eq_true.1 hsz0 y (by simp [DataW.weightsEach, hy])
    simpa using this
  obtain ⟨n', L', hC'⟩ := open_segs W fuel (.slice a len cap) _ (by simpa [Value.cells] using hf) hw
  obtain ⟨n, L, hC⟩ := segs_one hC'
  have hlt0 : ∀ x ∈ p0, x.block < W.heap.size := fun x hx => hW'.lt x (by simp [hx])
  have hlt1 : ∀ x ∈ p1, x.block < W.heap.size := fun x hx => hW'.lt x (by simp [hx])
  clear hA0 hA hf hsz0
  refine (law12_any n0 s0 L _ W hC hM hs0).mono fun e W' ⟨he, hb⟩ => ?_
  subst he
  have hV' : DataW.TrodVars enc Tryd.prog W (fun _ => true) [maskName] gs q := hV
  obtain ⟨g, t, cs, fuel, d, pv, rfl, _⟩ := trodVars_one hV'
  exact ⟨_, rfl, _, _, _, [], p0 ++ (p1 ++ []), q, hW', trodAll_cons_mk (shut_bool Tryd.underlying4 _) trodAll_mk0,
    trodAll_cons_mk (bits_again h0 hb hlt0) (trodAll_cons_mk (Below.trod laidOut (by kernel_rfl) (of_decide_eq_true (by kernel_rfl)) h1' hb hlt1) trodAll_mk0), vars_keep hV' hb hM.1, hb.frame _, fun h => by cases h⟩

abbrev noSegs : Value := .slice none 0 0
theorem laid_met (os : Os) : laidMet Tryd.prog Rows.fnExactBitMatchRow.laid ((laidWorld os).forCall (fun _ _ => 0) ⟨#[], #[noBits, noSegs], []⟩).memory :=
  laidMet_of_run' 8 (by kernel_rfl) (by kernel_rfl)
theorem reads (os : Os) {H : Type} (enc : TypeId × Value → H) : ∃ g places, DataW.whole enc Tryd.prog ((laidWorld os).forCall (fun _ _ => 0) ⟨#[], #[noBits, noSegs], []⟩).memory Tryd.f3.params.toList Rows.fnExactBitMatchSpec.vars false (#[noBits, noSegs] : Array Value).toList 8 = some ([noBitsData, .nil], [g], places) :=
  ⟨Rows.laid_loop_example_g00019_impl_bitMasks, MemPlace.row ⟨0, 0, none⟩ 8, by kernel_rfl⟩

set_option maxRecDepth 100000 in
theorem lifted (os : Os) (started : os.Started) (H : Type) (enc : TypeId × Value → H) (F : Stop.Interp) :
    ReturnsInHanded {} Tryd.checked os 3 .any ((OpenSpec.ofChange Rows.fnExactBitMatchSpec).preRow enc Tryd.prog Tryd.f3 Rows.fnExactBitMatchRow.domain false Rows.fnExactBitMatchRow.laid) (((OpenSpec.ofChange Rows.fnExactBitMatchSpec).at F).post enc Tryd.prog Tryd.f3 false true false false) := by
  obtain ⟨g, places, hx⟩ := reads os enc
  refine returnsInHanded_of_row (C := Tryd.checked) (s := OpenSpec.ofChange Rows.fnExactBitMatchSpec) own started (by kernel_rfl) Tryd.func3
    (witness_row_at (enc := enc) (C := Tryd.checked) false (laidWorld os) #[noBits, noSegs] rfl (by kernel_rfl) (by kernel_rfl) (by kernel_rfl)
      (OpenSpec.preRow_of_cond 8 hx (by kernel_rfl) (fun k hk => by cases hk) (by kernel_rfl) (laid_met os))) ?_
  intro W base args ds gs before hval hW _ _ hsz hL _ _
  exact contract H enc W base args ds gs before hval hW hL hsz

theorem said : Rows.FnExactBitMatchSaid :=
  OpenClaim.holds_of_cond 3 Tryd.f3 rfl rfl rfl rfl rfl rfl rfl ⟨rfl, rfl, rfl, rfl, rfl⟩ rfl rfl rfl rfl rfl (by kernel_rfl) Tryd.func3 (by kernel_rfl)
    (of_decide_eq_true (by kernel_rfl)) (by unfold Func.isWrapper; first | (rw [if_pos (by decide +kernel)]; kernel_rfl) | (rw [if_neg (by decide +kernel)]; exact ⟨rfl, rfl⟩))
    (fun os started H enc _ F => by rw [OpenClaim.pre_eq_preRow]; exact lifted os started H enc F)

/-- No parameter wants a stand-in; the program's own looks are off: what the card asks. -/
theorem plain (f : FuncId) (fn : Func) (hf : Tryd.pinned.checked.prog.funcNamed "loop.example/g00019/laws.FnExactBitMatch" = some f) (hfn : Tryd.pinned.checked.prog.funcs[f]? = some fn) :
    false = Tryd.pinned.checked.prog.looks [] ∧ ∀ (j : Nat) t, fn.params[j]? = some t → Tryd.pinned.checked.prog.wantsStandIn t = false := by
  obtain rfl : f = 3 := Option.some.inj ((show Tryd.prog.funcNamed "loop.example/g00019/laws.FnExactBitMatch" = some 3 by kernel_rfl).symm.trans hf) |>.symm
  obtain rfl : fn = Tryd.f3 := (Option.some.inj (Tryd.func3.symm.trans hfn)).symm
  refine ⟨by kernel_rfl, fun j t ht => ?_⟩
  rw [Tryd.params3] at ht
  have hm : t ∈ [23, 24] := by simpa using Array.mem_of_getElem? ht
  have hall : ([23, 24].all fun u => !Tryd.prog.wantsStandIn u) = true := by kernel_rfl
  exact (show Tryd.prog.wantsStandIn t = false by simpa using List.all_eq_true.1 hall t hm)

/-- The card. -/
theorem card : Rows.FnExactBitMatchCardSaid :=
  Claim7.holds_tied_plain_at .later [] _ _ _ _ said (fun _ h => by cases h) (by kernel_rfl) (fun _ h => by cases h) fnExactBitMatch_row_tie rfl ⟨rfl, rfl⟩ (by kernel_rfl) rfl plain (by kernel_rfl)
end Go.Proofs.YtgkckkaegkdioaaDoor.fnExactBitMatch
