/- impl's order at pairs: the closures of mapValue.order, slices.CompareFunc at pairs. -/
import Derived.Test.YtcgbonlffcpofaaGreatDoorOrd
namespace Go.Proofs.YtcgbonlffcpofaaGreatDoor
open Go.RowKit

/-- The shape of a value. -/
theorem VAt.shape {S : Nat → Prop} {w : World} : ∀ {n : Nat} {t : Tm n} {v : Value}, VAt S w n t v → ∃ u x, v = .iface u x
  | 0, t, _, _ => t.elim
  | _ + 1, (_, _, _, _), _, ⟨_, _, h⟩ => by
    rcases h with h | h | h | h | h | ⟨a, cap, _, _, _, h⟩
    all_goals first | exact ⟨_, _, h.2⟩ | (rcases h with h | h | h | h <;> exact ⟨_, _, h.2⟩)

theorem clo0_any {n m : Nat} (h : OrdSaid n m) (t : Tm n) (u : Tm m) (x0 x1 y0 y1 : Value) (w : World) (h1 : VAt (Under w.heap.size) w n t x0) (h2 : VAt (Under w.heap.size) w m u y0) (r1 : rightB n t = true) (r2 : rightB m u = true) :
    Calls Tryz.prog 137 #[.agg #[x0, x1], .agg #[y0, y1]] w fun e w' => e = .returned (.int .i64 (cmpT n m t u)) ∧ Below w.heap.size w w' := by
  have hb2 := below_two w
  have hc := hide (fun a b => h t u _ _ _ (h1.up (hb2 a b)) (h2.up (hb2 a b)) r1 r2)
  clear h1 h2
  go_enter Tryz.func137, Tryz.ntmps137
  go_wp2_with (go_at_call 75; refine ((unhide hc) _ _).mono ?_; rintro e w' ⟨rfl, hb⟩)
  go_ret
  exact ⟨rfl, (hb2 _ _).trans (hb.mono (by simp; omega))⟩

def CfP0Said (n m : Nat) : Prop := ∀ (ks : List (Tm n)) (ls : List (Tm m)) (a a' : Option Addr) (cap cap' : Nat) (w : World), KAt (Under w.heap.size) w (VAt (Under w.heap.size) w n) ks a →
  KAt (Under w.heap.size) w (VAt (Under w.heap.size) w m) ls a' → ks.length / 2 ≤ cap → cap ≤ 2 ^ 47 → ls.length / 2 ≤ cap' → cap' ≤ 2 ^ 47 → ks.length % 2 = 0 → ls.length % 2 = 0 → ks.all (rightB n) = true → ls.all (rightB m) = true →
  Calls Tryz.prog 136 #[.slice a (ks.length / 2) cap, .slice a' (ls.length / 2) cap', .func (.func 137) #[] #[]] w
    fun e w' => e = .returned (.int .i64 (cfT (eachI (cmpT n m) ks ls 2 ks.length 0) (ks.length / 2) (ls.length / 2))) ∧ Below w.heap.size w w'

set_option maxHeartbeats 2000000 in
theorem cfP0_of {n m : Nat} (h : OrdSaid n m) : CfP0Said n m := by
  intro ks ls a a' cap cap' w hu hv hc1 hc2 hc3 hc4 he1 he2 hr1 hr2
  have HR1 := hide (List.all_eq_true.1 hr1)
  have HR2 := hide (List.all_eq_true.1 hr2)
  clear hr1 hr2
  obtain ⟨p, hp⟩ : ∃ p, ks.length = 2 * p := ⟨ks.length / 2, by omega⟩
  obtain ⟨p', hp'⟩ : ∃ p, ls.length = 2 * p := ⟨ls.length / 2, by omega⟩
  have ep : ks.length / 2 = p := by omega
  have ep' : ls.length / 2 = p' := by omega
  rw [ep, ep']
  have HP := hide hp
  have HP' := hide hp'
  have c1 : p ≤ cap := by omega
  have c3 : p' ≤ cap' := by omega
  clear hp hp' ep ep' he1 he2
  go_enter Tryz.func136, Tryz.ntmps136
  go_wp2_with fail
  go_loopw [13] (fun iv wr => ∃ k fuel : Nat, iv = .int .i64 k ∧ k ≤ p ∧ k ≤ p' ∧ ks.length ≤ 2 * k + fuel ∧ eachI (cmpT n m) ks ls 2 ks.length 0 = eachI (cmpT n m) ks ls 2 fuel (2 * k) ∧ Below w.heap.size w wr) (fun iv _ => p - (intOf iv).toNat)
  case atStart => exact ⟨0, ks.length, rfl, Nat.zero_le _, Nat.zero_le _, by omega, rfl, Below.refl _ _⟩
  case round =>
    obtain ⟨k, fuel, rfl, hk1, hk2, hk3, heq, hb⟩ := hrel
    by_cases hlt : k < p
    · have j1 : 2 * k + 1 < ks.length := by have := unhide HP; omega
      obtain ⟨b, off, v1, rfl, hS, e1, hv1⟩ := hu (2 * k) (by omega)
      obtain ⟨bq, offq, w1, hbo, hSq, e1q, hv1q⟩ := hu (2 * k + 1) j1
      simp only [Option.some.injEq, Addr.mk.injEq, and_true] at hbo
      obtain ⟨rfl, rfl⟩ := hbo
      have g1 : wr.cell? ⟨b, off + k * 2, none⟩ = some v1 := bone hb hS (by rw [Nat.mul_comm k 2]; exact e1)
      have g1q : wr.cell? ⟨b, off + k * 2 + 1, none⟩ = some w1 := bone hb hS (by rw [Nat.mul_comm k 2]; exact e1q)
      by_cases hlt' : k < p'
      · obtain ⟨fuel, rfl⟩ : ∃ f, fuel = f + 1 := ⟨fuel - 1, by omega⟩
        have j2 : 2 * k + 1 < ls.length := by have := unhide HP'; omega
        have hi1 : 2 * k < ks.length := by omega
        have hi2 : 2 * k < ls.length := by omega
        rw [eachI_in (cmpT n m) ks ls 2 fuel (2 * k) hi1 hi2] at heq
        obtain ⟨b', off', v2, rfl, hS', e2, hv2⟩ := hv (2 * k) (by omega)
        obtain ⟨bq', offq', w2, hbo, hSq', e2q, hv2q⟩ := hv (2 * k + 1) j2
        simp only [Option.some.injEq, Addr.mk.injEq, and_true] at hbo
        obtain ⟨rfl, rfl⟩ := hbo
        have g2 : ∀ o, (wr.alloc o).cell? ⟨b', off' + k * 2, none⟩ = some v2 := fun o => bone (hb.trans (((Below.refl _ _).alloc (Nat.le_refl _) o).mono hb.size)) hS' (by rw [Nat.mul_comm k 2]; exact e2)
        have g2q : ∀ o, (wr.alloc o).cell? ⟨b', off' + k * 2 + 1, none⟩ = some w2 := fun o => bone (hb.trans (((Below.refl _ _).alloc (Nat.le_refl _) o).mono hb.size)) hS' (by rw [Nat.mul_comm k 2]; exact e2q)
        have hc := hide (fun (W : World) (hW : Below wr.heap.size wr W) => clo0_any h ks[2 * k] ls[2 * k] v1 w1 v2 w2 W ((hv1.up hb).up hW) ((hv2.up hb).up hW) (unhide HR1 _ (List.getElem_mem hi1)) (unhide HR2 _ (List.getElem_mem hi2)))
        obtain ⟨_, _, rfl⟩ := hv1.shape
        obtain ⟨_, _, rfl⟩ := hv1q.shape
        obtain ⟨_, _, rfl⟩ := hv2.shape
        obtain ⟨_, _, rfl⟩ := hv2q.shape
        clear e1 e1q e2 e2q
        by_cases hz : cmpT n m ks[2 * k] ls[2 * k] = 0
        · rw [hz] at hc
          rw [if_pos hz] at heq
          have HE := hide heq
          clear heq hz
          go_wp2_with (go_at_call 137; refine ((unhide hc) _ (below_two _ _ _)).mono ?_; rintro e w' ⟨rfl, hb2⟩)
          go_roundw
          case rel => exact ⟨k + 1, fuel, by go_num, by omega, by omega, by omega, by rw [unhide HE]; congr 1, hb.trans (((below_two _ _ _).trans (hb2.mono (by simp; omega))).mono hb.size)⟩
          case measure => simp [intOf]; omega
        · rw [if_neg hz] at heq
          have HE := hide heq
          have HZ := hide hz
          have hz2 : (cmpT n m ks[2 * k] ls[2 * k] != 0) = true := by simpa using hz
          clear heq hz
          go_wp2_with (go_at_call 137; refine ((unhide hc) _ (below_two _ _ _)).mono ?_; rintro e w' ⟨rfl, hb2⟩)
          go_ret
          exact ⟨ret_int (by rw [unhide HE, cfT_ne (unhide HZ)]), hb.trans (((below_two _ _ _).trans (hb2.mono (by simp; omega))).mono hb.size)⟩
      · obtain ⟨_, _, rfl⟩ := hv1.shape
        obtain ⟨_, _, rfl⟩ := hv1q.shape
        rw [eachI_out (cmpT n m) ks ls 2 fuel (2 * k) (.inr (by have := unhide HP'; omega))] at heq
        have HE := hide heq
        clear heq
        go_wp2_with fail
        go_ret
        exact ⟨ret_int (by rw [unhide HE, cfT_lt (by omega)]), hb.trans (((Below.refl _ _).alloc (Nat.le_refl _) _).mono hb.size)⟩
    · rw [eachI_out (cmpT n m) ks ls 2 fuel (2 * k) (.inl (by have := unhide HP; omega))] at heq
      have HE := hide heq
      clear heq
      by_cases hll : p < p'
      · go_wp2_with fail
        go_ret
        exact ⟨ret_int (by rw [unhide HE, cfT_gt hll]), hb⟩
      · go_wp2_with fail
        go_ret
        exact ⟨ret_int (by rw [unhide HE, cfT_eq (by omega)]), hb⟩

theorem clo1_any {n m : Nat} (h : OrdSaid n m) (t : Tm n) (u : Tm m) (x0 x1 y0 y1 : Value) (w : World) (h1 : VAt (Under w.heap.size) w n t x1) (h2 : VAt (Under w.heap.size) w m u y1) (r1 : rightB n t = true) (r2 : rightB m u = true) :
    Calls Tryz.prog 138 #[.agg #[x0, x1], .agg #[y0, y1]] w fun e w' => e = .returned (.int .i64 (cmpT n m t u)) ∧ Below w.heap.size w w' := by
  have hb2 := below_two w
  have hc := hide (fun a b => h t u _ _ _ (h1.up (hb2 a b)) (h2.up (hb2 a b)) r1 r2)
  clear h1 h2
  go_enter Tryz.func138, Tryz.ntmps138
  go_wp2_with (go_at_call 75; refine ((unhide hc) _ _).mono ?_; rintro e w' ⟨rfl, hb⟩)
  go_ret
  exact ⟨rfl, (hb2 _ _).trans (hb.mono (by simp; omega))⟩

def CfP1Said (n m : Nat) : Prop := ∀ (ks : List (Tm n)) (ls : List (Tm m)) (a a' : Option Addr) (cap cap' : Nat) (w : World), KAt (Under w.heap.size) w (VAt (Under w.heap.size) w n) ks a →
  KAt (Under w.heap.size) w (VAt (Under w.heap.size) w m) ls a' → ks.length / 2 ≤ cap → cap ≤ 2 ^ 47 → ls.length / 2 ≤ cap' → cap' ≤ 2 ^ 47 → ks.length % 2 = 0 → ls.length % 2 = 0 → ks.all (rightB n) = true → ls.all (rightB m) = true →
  Calls Tryz.prog 136 #[.slice a (ks.length / 2) cap, .slice a' (ls.length / 2) cap', .func (.func 138) #[] #[]] w
    fun e w' => e = .returned (.int .i64 (cfT (eachI (cmpT n m) ks ls 2 ks.length 1) (ks.length / 2) (ls.length / 2))) ∧ Below w.heap.size w w'

set_option maxHeartbeats 2000000 in
theorem cfP1_of {n m : Nat} (h : OrdSaid n m) : CfP1Said n m := by
  intro ks ls a a' cap cap' w hu hv hc1 hc2 hc3 hc4 he1 he2 hr1 hr2
  have HR1 := hide (List.all_eq_true.1 hr1)
  have HR2 := hide (List.all_eq_true.1 hr2)
  clear hr1 hr2
  obtain ⟨p, hp⟩ : ∃ p, ks.length = 2 * p := ⟨ks.length / 2, by omega⟩
  obtain ⟨p', hp'⟩ : ∃ p, ls.length = 2 * p := ⟨ls.length / 2, by omega⟩
  have ep : ks.length / 2 = p := by omega
  have ep' : ls.length / 2 = p' := by omega
  rw [ep, ep']
  have HP := hide hp
  have HP' := hide hp'
  have c1 : p ≤ cap := by omega
  have c3 : p' ≤ cap' := by omega
  clear hp hp' ep ep' he1 he2
  go_enter Tryz.func136, Tryz.ntmps136
  go_wp2_with fail
  go_loopw [13] (fun iv wr => ∃ k fuel : Nat, iv = .int .i64 k ∧ k ≤ p ∧ k ≤ p' ∧ ks.length ≤ 2 * k + 1 + fuel ∧ eachI (cmpT n m) ks ls 2 ks.length 1 = eachI (cmpT n m) ks ls 2 fuel (2 * k + 1) ∧ Below w.heap.size w wr) (fun iv _ => p - (intOf iv).toNat)
  case atStart => exact ⟨0, ks.length, rfl, Nat.zero_le _, Nat.zero_le _, by omega, rfl, Below.refl _ _⟩
  case round =>
    obtain ⟨k, fuel, rfl, hk1, hk2, hk3, heq, hb⟩ := hrel
    by_cases hlt : k < p
    · have j1 : 2 * k + 1 < ks.length := by have := unhide HP; omega
      obtain ⟨b, off, v1, rfl, hS, e1, hv1⟩ := hu (2 * k) (by omega)
      obtain ⟨bq, offq, w1, hbo, hSq, e1q, hv1q⟩ := hu (2 * k + 1) j1
      simp only [Option.some.injEq, Addr.mk.injEq, and_true] at hbo
      obtain ⟨rfl, rfl⟩ := hbo
      have g1 : wr.cell? ⟨b, off + k * 2, none⟩ = some v1 := bone hb hS (by rw [Nat.mul_comm k 2]; exact e1)
      have g1q : wr.cell? ⟨b, off + k * 2 + 1, none⟩ = some w1 := bone hb hS (by rw [Nat.mul_comm k 2]; exact e1q)
      by_cases hlt' : k < p'
      · obtain ⟨fuel, rfl⟩ : ∃ f, fuel = f + 1 := ⟨fuel - 1, by omega⟩
        have j2 : 2 * k + 1 < ls.length := by have := unhide HP'; omega
        have hi1 : 2 * k + 1 < ks.length := by omega
        have hi2 : 2 * k + 1 < ls.length := by omega
        rw [eachI_in (cmpT n m) ks ls 2 fuel (2 * k + 1) hi1 hi2] at heq
        obtain ⟨b', off', v2, rfl, hS', e2, hv2⟩ := hv (2 * k) (by omega)
        obtain ⟨bq', offq', w2, hbo, hSq', e2q, hv2q⟩ := hv (2 * k + 1) j2
        simp only [Option.some.injEq, Addr.mk.injEq, and_true] at hbo
        obtain ⟨rfl, rfl⟩ := hbo
        have g2 : ∀ o, (wr.alloc o).cell? ⟨b', off' + k * 2, none⟩ = some v2 := fun o => bone (hb.trans (((Below.refl _ _).alloc (Nat.le_refl _) o).mono hb.size)) hS' (by rw [Nat.mul_comm k 2]; exact e2)
        have g2q : ∀ o, (wr.alloc o).cell? ⟨b', off' + k * 2 + 1, none⟩ = some w2 := fun o => bone (hb.trans (((Below.refl _ _).alloc (Nat.le_refl _) o).mono hb.size)) hS' (by rw [Nat.mul_comm k 2]; exact e2q)
        have hc := hide (fun (W : World) (hW : Below wr.heap.size wr W) => clo1_any h ks[2 * k + 1] ls[2 * k + 1] v1 w1 v2 w2 W ((hv1q.up hb).up hW) ((hv2q.up hb).up hW) (unhide HR1 _ (List.getElem_mem hi1)) (unhide HR2 _ (List.getElem_mem hi2)))
        obtain ⟨_, _, rfl⟩ := hv1.shape
        obtain ⟨_, _, rfl⟩ := hv1q.shape
        obtain ⟨_, _, rfl⟩ := hv2.shape
        obtain ⟨_, _, rfl⟩ := hv2q.shape
        clear e1 e1q e2 e2q
        by_cases hz : cmpT n m ks[2 * k + 1] ls[2 * k + 1] = 0
        · rw [hz] at hc
          rw [if_pos hz] at heq
          have HE := hide heq
          clear heq hz
          go_wp2_with (go_at_call 138; refine ((unhide hc) _ (below_two _ _ _)).mono ?_; rintro e w' ⟨rfl, hb2⟩)
          go_roundw
          case rel => exact ⟨k + 1, fuel, by go_num, by omega, by omega, by omega, by rw [unhide HE]; congr 1, hb.trans (((below_two _ _ _).trans (hb2.mono (by simp; omega))).mono hb.size)⟩
          case measure => simp [intOf]; omega
        · rw [if_neg hz] at heq
          have HE := hide heq
          have HZ := hide hz
          have hz2 : (cmpT n m ks[2 * k + 1] ls[2 * k + 1] != 0) = true := by simpa using hz
          clear heq hz
          go_wp2_with (go_at_call 138; refine ((unhide hc) _ (below_two _ _ _)).mono ?_; rintro e w' ⟨rfl, hb2⟩)
          go_ret
          exact ⟨ret_int (by rw [unhide HE, cfT_ne (unhide HZ)]), hb.trans (((below_two _ _ _).trans (hb2.mono (by simp; omega))).mono hb.size)⟩
      · obtain ⟨_, _, rfl⟩ := hv1.shape
        obtain ⟨_, _, rfl⟩ := hv1q.shape
        rw [eachI_out (cmpT n m) ks ls 2 fuel (2 * k + 1) (.inr (by have := unhide HP'; omega))] at heq
        have HE := hide heq
        clear heq
        go_wp2_with fail
        go_ret
        exact ⟨ret_int (by rw [unhide HE, cfT_lt (by omega)]), hb.trans (((Below.refl _ _).alloc (Nat.le_refl _) _).mono hb.size)⟩
    · rw [eachI_out (cmpT n m) ks ls 2 fuel (2 * k + 1) (.inl (by have := unhide HP; omega))] at heq
      have HE := hide heq
      clear heq
      by_cases hll : p < p'
      · go_wp2_with fail
        go_ret
        exact ⟨ret_int (by rw [unhide HE, cfT_gt hll]), hb⟩
      · go_wp2_with fail
        go_ret
        exact ⟨ret_int (by rw [unhide HE, cfT_eq (by omega)]), hb⟩

end Go.Proofs.YtcgbonlffcpofaaGreatDoor
