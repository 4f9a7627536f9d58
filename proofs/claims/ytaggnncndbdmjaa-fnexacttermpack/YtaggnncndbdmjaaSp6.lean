/- spec.TermPack. -/
import Derived.Test.YtaggnncndbdmjaaSp5
import Derived.Test.YtaggnncndbdmjaaBx4
namespace Go.Proofs.Ytaggnncndbdmjaa
open Go.RowKit Go.Deep

theorem ret_sn {s s' : ByteArray} {x x' : Int} (h : s = s') (h' : x = x') : Ending.returned (.tuple #[.string s, .int .i64 x]) = .returned (.tuple #[.string s', .int .i64 x']) := by rw [h, h']

set_option maxRecDepth 40000 in
set_option maxHeartbeats 1000000 in
theorem sPack_any {n : Nat} (t : Tm n) (c0 c1 c2 c3 : Value) (w : World) (ht : TAt (Under w.heap.size) w n t c0 c1 c2 c3) (hl : tot n t ≤ 1048576) :
    Calls Try.prog 5 #[.agg #[c0, c1, c2, c3]] w fun e w' => e = .returned (.tuple #[.string (packStr n t), .int .i64 (packCode n t)]) ∧ Below w.heap.size w w' := by
  obtain ⟨k0, k1, k2, k3, k4, k5, rfl, rfl, rfl, rfl⟩ := ht.shape
  have hbx := fun x : Obj => (Below.refl w.heap.size w).alloc (Nat.le_refl _) x
  have hc := hide (fun x => sOK_any t _ _ _ _ (w.alloc x) (ht.up (hbx x)))
  by_cases hf : okB n t = true
  · rw [hf] at hc
    have hok := ok_val.1 hf
    go_enter Try.func5, Try.ntmps5
    go_wp2_with fail
    refine ((unhide hc) _).mono ?_
    rintro e w1 ⟨rfl, hb⟩
    obtain ⟨f0, f1, f2, f3⟩ := box4 w _ _ _ _ _ (hb.mono (by simp))
    have hb2 := (hbx _).trans (hb.mono (by simp))
    have hown : (w1.alloc (.cells #[.int .u8 131] 5)).ownsRow w1.heap.size 5 1 (.slice (some ⟨w1.heap.size, 0, none⟩) 1 1) 1 (u8c [131]) :=
      ⟨rfl, .inr ⟨w1.heap.size, 1, #[.int .u8 131], rfl, Nat.le_refl _, heap_new _ _, Nat.le_refl _, by unfold maxLen; omega, rfl, rfl⟩⟩
    have hbl : Below w1.heap.size w1 (w1.alloc (.cells #[.int .u8 131] 5)) := (Below.refl _ _).alloc (Nat.le_refl _) _
    have hs1 : w.heap.size + 1 ≤ w1.heap.size := by have := hb.size; simpa using this
    obtain ⟨q0, q1, q2, q3⟩ := box4 w _ _ _ _ _ ((hb.mono (by simp)).trans (hbl.mono hs1))
    have hp := hide (sp_any n t _ _ _ _ (.slice (some ⟨w1.heap.size, 0, none⟩) 1 1) 1 [131] w1.heap.size (w1.alloc (.cells #[.int .u8 131] 5)) ((ht.up hb2).below hbl fun _ h => h) hok.1 (by have := hok.2.1; omega) hown hbl.size (by omega))
    have HF := hide hf
    have HB2 := hide hb2
    have HBL := hide hbl
    clear hf hok hb hb2 hown hbl hc hs1
    go_wp2_with fail
    refine (unhide hp).mono ?_
    rintro e w3 ⟨v3, rfl, ho3, hg3, hl3⟩
    have hb3 : Below w.heap.size w w3 := by
      refine (unhide HB2).trans (((unhide HBL).mono (unhide HB2).size).trans ⟨hg3.os, hg3.tape, hg3.output, hg3.size, fun k hk => hg3.block k ?_ ?_⟩)
      · have := (unhide HB2).size; simp; omega
      · intro e
        have e' : k = w1.heap.size := by simpa [Value.ownBlock] using e
        have := (unhide HB2).size
        omega
    obtain ⟨g, cap, rfl, hg, hgl⟩ := ho3.form (by simp; omega)
    obtain ⟨N, hN⟩ : ∃ N, N = ([131] : List Int).length + (packT n t).length := ⟨_, rfl⟩
    rw [← hN] at ho3 ⊢
    have hN1 : N = 1 + (packT n t).length := hN
    have hcv := run_convert_bytes_arg (P := Try.prog) w3 36 5 Try.underlying36 Try.underlying5 g 0 N cap (131 :: packT n t) (by rw [hN1, List.length_cons]; omega) (fun i hi => by
      have hi' : i < (u8c (131 :: packT n t)).length := by rw [u8c_length, List.length_cons]; omega
      have hc := ho3.cells (g := g) rfl i _ (List.getElem?_eq_getElem hi')
      have hadd : (⟨g, 0, none⟩ : Addr).add i = ⟨g, i, none⟩ := by unfold Addr.add; split <;> simp_all
      rw [hadd] at hc
      rw [Nat.zero_add, hc, u8c_get hi']) 9 Try.underlying9
    obtain ⟨S, hS⟩ : ∃ S, S = strOfNums (131 :: packT n t) := ⟨_, rfl⟩
    rw [← hS] at hcv
    have HN := hide hN1
    have HS := hide hS
    have HB3 := hide hb3
    by_cases hfit : N ≤ 40000
    · have hfit' : ¬ (40000 : Int) < N := by omega
      have HFIT := hide hfit
      clear hp ho3 hg3 hl3 hb3 hN hN1 hS hg hgl
      go_wp2_with fail
      go_ret2
      have h1 : 1 + (packT n t).length ≤ 40000 := by have := unhide HN; omega
      exact ⟨ret_sn (by rw [packStr_yes (unhide HF) h1, unhide HS]) (packCode_yes (unhide HF) h1).symm, unhide HB3⟩
    · have hfit' : (40000 : Int) < N := by omega
      clear hp ho3 hg3 hl3 hb3 hN hN1 hS hg hgl hcv
      go_wp2_with fail
      go_ret2
      have h1 : ¬ 1 + (packT n t).length ≤ 40000 := by have := unhide HN; omega
      exact ⟨ret_sn (packStr_full h1).symm (packCode_full (unhide HF) h1).symm, unhide HB3⟩
  · have hf' : okB n t = false := by simpa using hf
    rw [hf'] at hc
    have HF := hide hf
    clear hf hf'
    go_enter Try.func5, Try.ntmps5
    go_wp2_with (go_at_call 10; refine ((unhide hc) _).mono ?_; rintro e w1 ⟨rfl, hb⟩)
    go_ret2
    exact ⟨ret_sn (packStr_no (unhide HF)).symm (packCode_no (unhide HF)).symm, (hbx _).trans (hb.mono (by simp))⟩

end Go.Proofs.Ytaggnncndbdmjaa
