/- impl's order: slices.CompareFunc at its instances, the methods, orderOf. -/
import Derived.Test.YtcgbonlffcpofaaGreatDoorVal
namespace Go.Proofs.YtcgbonlffcpofaaGreatDoor
open Go.RowKit

def OrdSaid (n m : Nat) : Prop := ∀ (t : Tm n) (u : Tm m) (v v' : Value) (w : World), VAt (Under w.heap.size) w n t v → VAt (Under w.heap.size) w m u v' → rightB n t = true → rightB m u = true →
  Calls Tryz.prog 75 #[v, v'] w fun e w' => e = .returned (.int .i64 (cmpT n m t u)) ∧ Below w.heap.size w w'

/-- What CompareFunc answers, the first that tells them apart being e. -/
def cfT (e : Int) (l l' : Nat) : Int := if e = 0 then sgn l l' else e
theorem cfT_lt {l l' : Nat} (h : l' < l) : cfT 0 l l' = 1 := by unfold cfT sgn; rw [if_pos rfl, if_neg (by omega), if_pos (by omega)]
theorem cfT_gt {l l' : Nat} (h : l < l') : cfT 0 l l' = -1 := by unfold cfT sgn; rw [if_pos rfl, if_pos (by omega)]
theorem cfT_eq {l l' : Nat} (h : l = l') : cfT 0 l l' = 0 := by unfold cfT sgn; rw [if_pos rfl, if_neg (by omega), if_neg (by omega)]
theorem cfT_ne {e : Int} {l l' : Nat} (h : e ≠ 0) : cfT e l l' = e := if_neg h

theorem bone {W w1 : World} (hb : Below W.heap.size W w1) {b o : Nat} {v : Value} (h : b < W.heap.size) (e : W.cell? ⟨b, o, none⟩ = some v) : w1.cell? ⟨b, o, none⟩ = some v := (bcell hb b o h).trans e

def CfVSaid (n m : Nat) : Prop := ∀ (ks : List (Tm n)) (ls : List (Tm m)) (a a' : Option Addr) (cap cap' : Nat) (w : World), KAt (Under w.heap.size) w (VAt (Under w.heap.size) w n) ks a →
  KAt (Under w.heap.size) w (VAt (Under w.heap.size) w m) ls a' → ks.length / 2 ≤ cap → cap ≤ 2 ^ 47 → ls.length / 2 ≤ cap' → cap' ≤ 2 ^ 47 → ks.all (rightB n) = true → ls.all (rightB m) = true →
  Calls Tryz.prog 121 #[.slice a ks.length cap, .slice a' ls.length cap', .func (.func 75) #[] #[]] w
    fun e w' => e = .returned (.int .i64 (cfT (eachI (cmpT n m) ks ls 1 ks.length 0) ks.length ls.length)) ∧ Below w.heap.size w w'

set_option maxHeartbeats 2000000 in
theorem cfV_of {n m : Nat} (h : OrdSaid n m) : CfVSaid n m := by
  intro ks ls a a' cap cap' w hu hv hc1 hc2 hc3 hc4 hr1 hr2
  have HR1 := hide (List.all_eq_true.1 hr1)
  have HR2 := hide (List.all_eq_true.1 hr2)
  clear hr1 hr2
  go_enter Tryz.func121, Tryz.ntmps121
  go_wp2_with fail
  go_loopw [13] (fun iv wr => ∃ k fuel : Nat, iv = .int .i64 k ∧ k ≤ ks.length ∧ k ≤ ls.length ∧ ks.length ≤ k + fuel ∧ eachI (cmpT n m) ks ls 1 ks.length 0 = eachI (cmpT n m) ks ls 1 fuel k ∧ Below w.heap.size w wr) (fun iv _ => ks.length - (intOf iv).toNat)
  case atStart => exact ⟨0, ks.length, rfl, Nat.zero_le _, Nat.zero_le _, by omega, rfl, Below.refl _ _⟩
  case round =>
    obtain ⟨k, fuel, rfl, hk1, hk2, hk3, heq, hb⟩ := hrel
    by_cases hlt : k < ks.length
    · obtain ⟨b, off, v1, rfl, hS, e1, hv1⟩ := hu k hlt
      have g1 := bone hb hS e1
      by_cases hlt' : k < ls.length
      · obtain ⟨fuel, rfl⟩ : ∃ f, fuel = f + 1 := ⟨fuel - 1, by omega⟩
        rw [eachI_in _ _ _ _ _ _ hlt hlt'] at heq
        obtain ⟨b', off', v2, rfl, hS', e2, hv2⟩ := hv k hlt'
        have g2 := bone hb hS' e2
        have hc := hide (h ks[k] ls[k] v1 v2 wr (hv1.up hb) (hv2.up hb) (unhide HR1 _ (List.getElem_mem hlt)) (unhide HR2 _ (List.getElem_mem hlt')))
        clear e1 e2
        by_cases hz : cmpT n m ks[k] ls[k] = 0
        · rw [hz] at hc
          rw [if_pos hz] at heq
          have HE := hide heq
          clear heq hz
          go_wp2_with (go_at_call 75; refine (unhide hc).mono ?_; rintro e w' ⟨rfl, hb2⟩)
          go_roundw
          case rel => exact ⟨k + 1, fuel, by go_num, by omega, by omega, by omega, unhide HE, hb.trans (hb2.mono hb.size)⟩
          case measure => simp [intOf]; omega
        · rw [if_neg hz] at heq
          have HE := hide heq
          have HZ := hide hz
          have hz2 : (cmpT n m ks[k] ls[k] != 0) = true := by simpa using hz
          clear heq hz
          go_wp2_with (go_at_call 75; refine (unhide hc).mono ?_; rintro e w' ⟨rfl, hb2⟩)
          go_ret
          exact ⟨ret_int (by rw [unhide HE, cfT_ne (unhide HZ)]), hb.trans (hb2.mono hb.size)⟩
      · rw [eachI_out (cmpT n m) ks ls 1 fuel k (.inr (by omega))] at heq
        have HE := hide heq
        clear heq
        go_wp2_with fail
        go_ret
        exact ⟨ret_int (by rw [unhide HE, cfT_lt (by omega)]), hb⟩
    · rw [eachI_out (cmpT n m) ks ls 1 fuel k (.inl (by omega))] at heq
      have HE := hide heq
      clear heq
      by_cases hll : ks.length < ls.length
      · go_wp2_with fail
        go_ret
        exact ⟨ret_int (by rw [unhide HE, cfT_gt hll]), hb⟩
      · go_wp2_with fail
        go_ret
        exact ⟨ret_int (by rw [unhide HE, cfT_eq (by omega)]), hb⟩

def CfLSaid (n m : Nat) : Prop := ∀ (ks : List (Tm n)) (ls : List (Tm m)) (a a' : Option Addr) (cap cap' : Nat) (w : World), KAt (Under w.heap.size) w (VAt (Under w.heap.size) w n) ks a →
  KAt (Under w.heap.size) w (VAt (Under w.heap.size) w m) ls a' → ks.length / 2 ≤ cap → cap ≤ 2 ^ 47 → ls.length / 2 ≤ cap' → cap' ≤ 2 ^ 47 → ks.all (rightB n) = true → ls.all (rightB m) = true →
  Calls Tryz.prog 143 #[.slice a ks.length cap, .slice a' ls.length cap', .func (.func 75) #[] #[]] w
    fun e w' => e = .returned (.int .i64 (cfT (eachI (cmpT n m) ks ls 1 ks.length 0) ks.length ls.length)) ∧ Below w.heap.size w w'

set_option maxHeartbeats 2000000 in
theorem cfL_of {n m : Nat} (h : OrdSaid n m) : CfLSaid n m := by
  intro ks ls a a' cap cap' w hu hv hc1 hc2 hc3 hc4 hr1 hr2
  have HR1 := hide (List.all_eq_true.1 hr1)
  have HR2 := hide (List.all_eq_true.1 hr2)
  clear hr1 hr2
  go_enter Tryz.func143, Tryz.ntmps143
  go_wp2_with fail
  go_loopw [13] (fun iv wr => ∃ k fuel : Nat, iv = .int .i64 k ∧ k ≤ ks.length ∧ k ≤ ls.length ∧ ks.length ≤ k + fuel ∧ eachI (cmpT n m) ks ls 1 ks.length 0 = eachI (cmpT n m) ks ls 1 fuel k ∧ Below w.heap.size w wr) (fun iv _ => ks.length - (intOf iv).toNat)
  case atStart => exact ⟨0, ks.length, rfl, Nat.zero_le _, Nat.zero_le _, by omega, rfl, Below.refl _ _⟩
  case round =>
    obtain ⟨k, fuel, rfl, hk1, hk2, hk3, heq, hb⟩ := hrel
    by_cases hlt : k < ks.length
    · obtain ⟨b, off, v1, rfl, hS, e1, hv1⟩ := hu k hlt
      have g1 := bone hb hS e1
      by_cases hlt' : k < ls.length
      · obtain ⟨fuel, rfl⟩ : ∃ f, fuel = f + 1 := ⟨fuel - 1, by omega⟩
        rw [eachI_in _ _ _ _ _ _ hlt hlt'] at heq
        obtain ⟨b', off', v2, rfl, hS', e2, hv2⟩ := hv k hlt'
        have g2 := bone hb hS' e2
        have hc := hide (h ks[k] ls[k] v1 v2 wr (hv1.up hb) (hv2.up hb) (unhide HR1 _ (List.getElem_mem hlt)) (unhide HR2 _ (List.getElem_mem hlt')))
        clear e1 e2
        by_cases hz : cmpT n m ks[k] ls[k] = 0
        · rw [hz] at hc
          rw [if_pos hz] at heq
          have HE := hide heq
          clear heq hz
          go_wp2_with (go_at_call 75; refine (unhide hc).mono ?_; rintro e w' ⟨rfl, hb2⟩)
          go_roundw
          case rel => exact ⟨k + 1, fuel, by go_num, by omega, by omega, by omega, unhide HE, hb.trans (hb2.mono hb.size)⟩
          case measure => simp [intOf]; omega
        · rw [if_neg hz] at heq
          have HE := hide heq
          have HZ := hide hz
          have hz2 : (cmpT n m ks[k] ls[k] != 0) = true := by simpa using hz
          clear heq hz
          go_wp2_with (go_at_call 75; refine (unhide hc).mono ?_; rintro e w' ⟨rfl, hb2⟩)
          go_ret
          exact ⟨ret_int (by rw [unhide HE, cfT_ne (unhide HZ)]), hb.trans (hb2.mono hb.size)⟩
      · rw [eachI_out (cmpT n m) ks ls 1 fuel k (.inr (by omega))] at heq
        have HE := hide heq
        clear heq
        go_wp2_with fail
        go_ret
        exact ⟨ret_int (by rw [unhide HE, cfT_lt (by omega)]), hb⟩
    · rw [eachI_out (cmpT n m) ks ls 1 fuel k (.inl (by omega))] at heq
      have HE := hide heq
      clear heq
      by_cases hll : ks.length < ls.length
      · go_wp2_with fail
        go_ret
        exact ⟨ret_int (by rw [unhide HE, cfT_gt hll]), hb⟩
      · go_wp2_with fail
        go_ret
        exact ⟨ret_int (by rw [unhide HE, cfT_eq (by omega)]), hb⟩

end Go.Proofs.YtcgbonlffcpofaaGreatDoor
