/- spec's l01PackAll, l01Small. -/
import Derived.Test.YtaggnncndbdmjaaSp1
namespace Go.Proofs.Ytaggnncndbdmjaa
open Go.RowKit Go.Deep

theorem TAt.num {S : Nat → Prop} {w : World} : ∀ {n : Nat} {t : Tm n} {c0 c1 c2 c3 : Value}, TAt S w n t c0 c1 c2 c3 → c1 = .int .i64 (numT n t)
  | 0, t, _, _, _, _, _ => t.elim
  | _ + 1, (_, _, _, _), _, _, _, _, h => h.2.1

def SpSaid (n : Nat) : Prop := ∀ (t : Tm n) (c0 c1 c2 c3 v : Value) (N : Nat) (xs : List Int) (B : Nat) (w : World), TAt (Under B) w n t c0 c1 c2 c3 → rightB n t = true → siz n t ≤ 2000 → w.ownsRow B 5 1 v N (u8c xs) → B ≤ w.heap.size →
  N + 10 + 10 * tot n t ≤ 2 ^ 40 → Calls Try.prog 11 #[v, .agg #[c0, c1, c2, c3]] w fun e w' => PkEnd B v xs (packT n t) w e w'

theorem totS_len {n : Nat} (ks : List (Tm n)) (i : Nat) (hi : i < ks.length) : totS (ks.take i) + tot n ks[i] ≤ totS ks := by
  have h1 := totS_take ks i hi
  have h2 := totS_le ks (i + 1)
  omega
theorem packS_length {n : Nat} (ks : List (Tm n)) : (packS ks).length ≤ 10 * ks.length + 10 * totS ks := by
  unfold packS totS
  rw [List.length_flatMap, ← sum_lin]
  exact sum_le _ _ ks fun t _ => packT_length n t

section
variable {n : Nat} (ks : List (Tm n)) (a : Option Addr) (cap : Nat) (v : Value) (N B : Nat) (xs : List Int) (w : World)

set_option maxRecDepth 40000 in
set_option maxHeartbeats 1000000 in
theorem spAll_any (h : SpSaid n) (hs : SAt (Under B) w (TAt (Under B) w n) ks (.slice a ks.length cap)) (hr : ks.all (rightB n) = true) (hz : ∀ t ∈ ks, siz n t ≤ 2000) (hv : w.ownsRow B 5 1 v N (u8c xs)) (hB : B ≤ w.heap.size)
    (hN : N + 10 * ks.length + 10 * totS ks ≤ 2 ^ 40) : Calls Try.prog 21 #[v, .slice a ks.length cap] w fun e w' => PkEnd B v xs (packS ks) w e w' := by
  obtain ⟨a', cap', hv', hl1, hl2, hel⟩ := hs
  obtain ⟨rfl, rfl⟩ : a = a' ∧ cap = cap' := by cases hv'; exact ⟨rfl, rfl⟩
  have hNx : N = xs.length := by have := hv.1; rw [u8c_length] at this; omega
  have hlb := hide (fun g hg => (hv.lt g hg).1 : ∀ g, v.ownBlock = some g → B ≤ g)
  have HEL := hide hel
  have HR := hide hr
  have HZ := hide hz
  have HV := hide hv
  clear hel hr hz hv hv'
  go_enter Try.func21, Try.ntmps21
  go_wp2_with fail
  go_loopw [0, 5] (fun ov iv wr => ∃ i : Nat, i ≤ ks.length ∧ iv = .int .i64 i ∧ wr.ownsRow B 5 1 ov (N + (packS (ks.take i)).length) (u8c (xs ++ packS (ks.take i))) ∧ w.grownBy wr v.ownBlock ∧ ∀ g, ov.ownBlock = some g → v.ownBlock = some g ∨ w.heap.size ≤ g) (fun _ iv _ => ks.length - (intOf iv).toNat)
  case atStart => exact ⟨0, Nat.zero_le _, rfl, by simpa [packS] using unhide HV, ⟨rfl, rfl, rfl, Nat.le_refl _, fun _ _ _ => rfl⟩, fun g hg => .inl hg⟩
  case round =>
    obtain ⟨i, hi, rfl, ho, hg, hl⟩ := hrel
    have hb : Below B w wr := ⟨hg.os, hg.tape, hg.output, hg.size, fun k hk => hg.block k (by omega) fun e => by have := unhide hlb k e.symm; omega⟩
    by_cases hlt : i < ks.length
    · obtain ⟨bb, off, d0, d1, d2, d3, rfl, hS, e0, e1, e2, e3, hr⟩ := unhide HEL i hlt
      have hcl : ∀ o, wr.cell? ⟨bb, o, none⟩ = w.cell? ⟨bb, o, none⟩ := fun o => World.cell?_of_block (w := w) (hb.block bb hS)
      have f0 := (hcl _).trans e0
      have f1 := (hcl _).trans e1
      have f2 := (hcl _).trans e2
      have f3 := (hcl _).trans e3
      have ht := hide (packS_take ks i hlt)
      have hlen := totS_len ks i hlt
      have hpl := packS_length (ks.take i)
      have hpt := packT_length n ks[i]
      rw [List.length_take, Nat.min_eq_left hi] at hpl
      have hrt : rightB n ks[i] = true := List.all_eq_true.1 (unhide HR) _ (List.getElem_mem hlt)
      have hcall := hide (h ks[i] d0 d1 d2 d3 _ (N + (packS (ks.take i)).length) _ B wr (hr.below hb fun _ h => h) hrt (unhide HZ _ (List.getElem_mem hlt)) ho (by have := hg.size; omega) (by omega))
      obtain ⟨l0, l1, l2, l3, l4, l5, rfl, rfl, rfl, rfl⟩ := hr.shape
      have HG := hide hg
      have HL := hide hl
      have HO := hide ho
      clear e0 e1 e2 e3 hcl hr hrt hg hl ho hb hpl hpt hlen
      go_wp2_with (go_at_call 11; refine (unhide hcall).mono ?_; rintro e w3 ⟨v3, rfl, ho3, hg3, hl3⟩; have HO3 := hide ho3; have HG3 := hide hg3; have HL3 := hide hl3; clear ho3 hg3 hl3)
      go_roundw
      case rel =>
        have hg := unhide HG
        have hg3 := unhide HG3
        refine ⟨i + 1, hlt, by go_num, ?_, ⟨hg3.os.trans hg.os, hg3.tape.trans hg.tape, hg3.output.trans hg.output, Nat.le_trans hg.size hg3.size, fun k hk hne => ?_⟩, fun g hv3 => ?_⟩
        · have ho3 := unhide HO3
          rw [unhide ht, ← List.append_assoc]
          have hn : N + (packS (ks.take i) ++ packT n ks[i]).length = (xs ++ packS (ks.take i)).length + (packT n ks[i]).length := by rw [List.length_append, List.length_append]; omega
          rw [hn]
          exact ho3
        · refine (hg3.block k (Nat.lt_of_lt_of_le hk hg.size) fun e => ?_).trans (hg.block k hk hne)
          rcases unhide HL k e.symm with h1 | h1
          · exact hne h1.symm
          · omega
        · rcases unhide HL3 g hv3 with h1 | h1
          · exact unhide HL g h1
          · exact .inr (Nat.le_trans hg.size h1)
      case measure => simp [intOf]; omega
    · have hkk : i = ks.length := by omega
      subst hkk
      rw [List.take_length] at ho
      have HG := hide hg
      have HL := hide hl
      have HO := hide ho
      clear hg hl ho hb
      go_wp2_with fail
      go_ret
      refine ⟨_, rfl, ?_, unhide HG, unhide HL⟩
      have := unhide HO
      rwa [hNx] at this

set_option maxRecDepth 40000 in
set_option maxHeartbeats 1000000 in
theorem small_any (hs : SAt (Under B) w (TAt (Under B) w n) ks (.slice a ks.length cap)) : Calls Try.prog 22 #[.slice a ks.length cap] w fun e w' => e = .returned (.bool (ks.all (smallB n))) ∧ w' = w := by
  obtain ⟨a', cap', hv', hl1, hl2, hel⟩ := hs
  obtain ⟨rfl, rfl⟩ : a = a' ∧ cap = cap' := by cases hv'; exact ⟨rfl, rfl⟩
  have HEL := hide hel
  clear hel hv'
  go_enter Try.func22, Try.ntmps22
  go_wp2_with fail
  go_loop [3] (fun iv => ∃ i : Nat, i ≤ ks.length ∧ iv = .int .i64 i ∧ (ks.take i).all (smallB n) = true) (fun iv => ks.length - (intOf iv).toNat)
  case atStart => exact ⟨0, Nat.zero_le _, rfl, rfl⟩
  case round =>
    obtain ⟨i, hi, rfl, hall⟩ := hrel
    by_cases hlt : i < ks.length
    · obtain ⟨bb, off, d0, d1, d2, d3, rfl, hS, e0, e1, e2, e3, hr⟩ := unhide HEL i hlt
      obtain ⟨q, m, hd0, hd1, hsm⟩ : ∃ q m, d0 = .int .i64 q ∧ d1 = .int .i64 m ∧ smallB n ks[i] = (decide (q = 1) && (decide (0 ≤ m) && decide (m ≤ 255))) := by
        revert hr
        generalize ks[i] = t
        match n, t with
        | 0, t => exact t.elim
        | _ + 1, (q, m, s, k2) => exact fun hr => ⟨q, m, hr.1, hr.2.1, rfl⟩
      subst hd0 hd1
      have HA := hide hall
      have HS := hide hsm
      clear e2 e3 hr hall hsm
      by_cases h1 : q = 1
      · have b1 : (q != 1) = false := by simp [h1]
        by_cases h2 : m < 0
        · have HN := hide (all_no _ ks i hlt ((unhide HS).trans (by simp; omega)))
          clear h1
          go_wp2_with fail
          go_ret
          exact ⟨ret_bool (unhide HN).symm, rfl⟩
        · by_cases h3 : 255 < m
          · have HN := hide (all_no _ ks i hlt ((unhide HS).trans (by simp; omega)))
            clear h1
            go_wp2_with fail
            go_ret
            exact ⟨ret_bool (unhide HN).symm, rfl⟩
          · have HY := hide (all_take _ ks i hlt (unhide HA) ((unhide HS).trans (by simp; omega)))
            clear h1
            go_wp2_with fail
            go_round
            case rel => exact ⟨i + 1, hlt, by go_num, unhide HY⟩
            case measure => simp [intOf]; omega
      · have b1 : (q != 1) = true := by simpa using h1
        have HN := hide (all_no _ ks i hlt ((unhide HS).trans (by simp [h1])))
        clear h1
        go_wp2_with fail
        go_ret
        exact ⟨ret_bool (unhide HN).symm, rfl⟩
    · have hkk : i = ks.length := by omega
      subst hkk
      rw [List.take_length] at hall
      have HA := hide hall
      clear hall
      go_wp2_with fail
      go_ret
      exact ⟨ret_bool (unhide HA).symm, rfl⟩

end
end Go.Proofs.Ytaggnncndbdmjaa
