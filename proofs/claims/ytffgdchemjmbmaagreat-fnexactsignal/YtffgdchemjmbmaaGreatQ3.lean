/- impl's values: how they lie in memory; cmp.Compare at its instances. -/
import Derived.Test.YtffgdchemjmbmaaGreatQ2
namespace Go.Proofs.YtffgdchemjmbmaaGreat
open Go.RowKit

/-- A row of one-cell values in blocks of which S holds; cell i stands for ks[i]. -/
def KAt {α : Type} (S : Nat → Prop) (w : World) (R : α → Value → Prop) (ks : List α) (a : Option Addr) : Prop :=
  ∀ i (h : i < ks.length), ∃ b off v, a = some ⟨b, off, none⟩ ∧ S b ∧ w.cell? ⟨b, off + i, none⟩ = some v ∧ R ks[i] v

/-- A value that stands for a term. -/
def VAt (S : Nat → Prop) (w : World) : (n : Nat) → Tm n → Value → Prop
  | 0, t => t.elim
  | n + 1, (k, m, s, ks) => fun v => In64 m ∧ s.size ≤ 2 ^ 47 ∧
    ((k = 1 ∧ v = .iface 65 (.int .i64 m)) ∨ (k = 2 ∧ v = .iface 59 (.string s)) ∨ (k = 3 ∧ v = .iface 66 (.int .i64 m)) ∨
     (k = 5 ∧ v = .iface 71 (.int .i64 m)) ∨ (k = 9 ∧ v = .iface 77 (.string s)) ∨
     (∃ a cap, KAt S w (VAt S w n) ks a ∧ ks.length / 2 ≤ cap ∧ cap ≤ 2 ^ 47 ∧
       ((k = 4 ∧ v = .iface 69 (.agg #[.int .i64 m, .slice a ks.length cap])) ∨ (k = 6 ∧ v = .iface 72 (.slice a ks.length cap)) ∨
        (k = 8 ∧ v = .iface 76 (.slice a ks.length cap)) ∨ (k = 7 ∧ v = .iface 74 (.slice a (ks.length / 2) cap)))))

theorem KAt.keep {α : Type} {S : Nat → Prop} {w w' : World} {R R' : α → Value → Prop} {ks : List α} {a : Option Addr}
    (h : KAt S w R ks a) (hk : ∀ b, S b → w'.heap[b]? = w.heap[b]?) (hR : ∀ t ∈ ks, ∀ v, R t v → R' t v) : KAt S w' R' ks a := by
  intro i hi
  obtain ⟨b, off, v, ha, hS, e, hr⟩ := h i hi
  exact ⟨b, off, v, ha, hS, by rw [World.cell?_of_block (w := w) (hk b hS), e], hR _ (List.getElem_mem hi) _ hr⟩
theorem KAt.mono {α : Type} {S S' : Nat → Prop} {w : World} {R R' : α → Value → Prop} {ks : List α} {a : Option Addr}
    (h : KAt S w R ks a) (hk : ∀ b, S b → S' b) (hR : ∀ t ∈ ks, ∀ v, R t v → R' t v) : KAt S' w R' ks a := by
  intro i hi
  obtain ⟨b, off, v, ha, hS, e, hr⟩ := h i hi
  exact ⟨b, off, v, ha, hk b hS, e, hR _ (List.getElem_mem hi) _ hr⟩

theorem VAt.keep {S : Nat → Prop} {w w' : World} (hk : ∀ b, S b → w'.heap[b]? = w.heap[b]?) : ∀ {n : Nat} {t : Tm n} {v : Value}, VAt S w n t v → VAt S w' n t v := by
  intro n
  induction n with
  | zero => intro t; exact t.elim
  | succ n ih =>
    rintro ⟨k, m, s, ks⟩ v ⟨hm, hs, h⟩
    refine ⟨hm, hs, ?_⟩
    rcases h with h | h | h | h | h | ⟨a, cap, hK, h⟩
    · exact .inl h
    · exact .inr (.inl h)
    · exact .inr (.inr (.inl h))
    · exact .inr (.inr (.inr (.inl h)))
    · exact .inr (.inr (.inr (.inr (.inl h))))
    · exact .inr (.inr (.inr (.inr (.inr ⟨a, cap, hK.keep hk fun t _ v hv => ih hv, h⟩))))
theorem VAt.mono {S S' : Nat → Prop} {w : World} (hk : ∀ b, S b → S' b) : ∀ {n : Nat} {t : Tm n} {v : Value}, VAt S w n t v → VAt S' w n t v := by
  intro n
  induction n with
  | zero => intro t; exact t.elim
  | succ n ih =>
    rintro ⟨k, m, s, ks⟩ v ⟨hm, hs, h⟩
    refine ⟨hm, hs, ?_⟩
    rcases h with h | h | h | h | h | ⟨a, cap, hK, h⟩
    · exact .inl h
    · exact .inr (.inl h)
    · exact .inr (.inr (.inl h))
    · exact .inr (.inr (.inr (.inl h)))
    · exact .inr (.inr (.inr (.inr (.inl h))))
    · exact .inr (.inr (.inr (.inr (.inr ⟨a, cap, hK.mono hk fun t _ v hv => ih hv, h⟩))))
theorem VAt.up {w w' : World} (hb : Below w.heap.size w w') {n : Nat} {t : Tm n} {v : Value} (h : VAt (Under w.heap.size) w n t v) : VAt (Under w'.heap.size) w' n t v :=
  (h.keep fun b hs => hb.block b hs).mono fun _ h => Nat.lt_of_lt_of_le h hb.size
theorem KAt.up {w w' : World} (hb : Below w.heap.size w w') {n : Nat} {ks : List (Tm n)} {a : Option Addr} (h : KAt (Under w.heap.size) w (VAt (Under w.heap.size) w n) ks a) :
    KAt (Under w'.heap.size) w' (VAt (Under w'.heap.size) w' n) ks a :=
  (h.keep (R' := VAt (Under w.heap.size) w' n) (fun b hs => hb.block b hs) fun _ _ _ hv => hv.keep fun b hs => hb.block b hs).mono (fun _ h => Nat.lt_of_lt_of_le h hb.size) fun _ _ _ hv => hv.mono fun _ h => Nat.lt_of_lt_of_le h hb.size

set_option maxHeartbeats 400000 in
theorem cmpInt_any (a b : Int) (w : World) : Calls Tryz.prog 52 #[.int .i64 a, .int .i64 b] w fun e w' => e = .returned (.int .i64 (sgn a b)) ∧ w' = w := by
  by_cases h1 : a < b
  · go_enter Tryz.func52, Tryz.ntmps52
    go_wp2
    go_ret
    exact ⟨ret_int (by simp [sgn, h1]), rfl⟩
  · by_cases h2 : b < a
    all_goals
      go_enter Tryz.func52, Tryz.ntmps52
      go_wp2
      go_ret
      exact ⟨ret_int (by unfold sgn; split <;> first | omega | (split <;> omega)), rfl⟩

set_option maxHeartbeats 400000 in
theorem cmpIv_any (a b : Int) (w : World) : Calls Tryz.prog 81 #[.int .i64 a, .int .i64 b] w fun e w' => e = .returned (.int .i64 (sgn a b)) ∧ w' = w := by
  by_cases h1 : a < b
  · go_enter Tryz.func81, Tryz.ntmps81
    go_wp2
    go_ret
    exact ⟨ret_int (by simp [sgn, h1]), rfl⟩
  · by_cases h2 : b < a
    all_goals
      go_enter Tryz.func81, Tryz.ntmps81
      go_wp2
      go_ret
      exact ⟨ret_int (by unfold sgn; split <;> first | omega | (split <;> omega)), rfl⟩

set_option maxHeartbeats 400000 in
theorem cmpRv_any (a b : Int) (w : World) : Calls Tryz.prog 87 #[.int .i64 a, .int .i64 b] w fun e w' => e = .returned (.int .i64 (sgn a b)) ∧ w' = w := by
  by_cases h1 : a < b
  · go_enter Tryz.func87, Tryz.ntmps87
    go_wp2
    go_ret
    exact ⟨ret_int (by simp [sgn, h1]), rfl⟩
  · by_cases h2 : b < a
    all_goals
      go_enter Tryz.func87, Tryz.ntmps87
      go_wp2
      go_ret
      exact ⟨ret_int (by unfold sgn; split <;> first | omega | (split <;> omega)), rfl⟩

set_option maxHeartbeats 400000 in
theorem cmpPv_any (a b : Int) (w : World) : Calls Tryz.prog 99 #[.int .i64 a, .int .i64 b] w fun e w' => e = .returned (.int .i64 (sgn a b)) ∧ w' = w := by
  by_cases h1 : a < b
  · go_enter Tryz.func99, Tryz.ntmps99
    go_wp2
    go_ret
    exact ⟨ret_int (by simp [sgn, h1]), rfl⟩
  · by_cases h2 : b < a
    all_goals
      go_enter Tryz.func99, Tryz.ntmps99
      go_wp2
      go_ret
      exact ⟨ret_int (by unfold sgn; split <;> first | omega | (split <;> omega)), rfl⟩

set_option maxHeartbeats 400000 in
theorem cmpAv_any (a b : ByteArray) (w : World) : Calls Tryz.prog 74 #[.string a, .string b] w fun e w' => e = .returned (.int .i64 (ordS a b)) ∧ w' = w := by
  by_cases h1 : Op.bytesLess a.toList b.toList = true
  · go_enter Tryz.func74, Tryz.ntmps74
    go_wp2
    go_ret
    exact ⟨ret_int (by simp [ordS, h1]), rfl⟩
  · have h1' : Op.bytesLess a.toList b.toList = false := by simpa using h1
    by_cases h2 : (a.toList == b.toList) = true
    · go_enter Tryz.func74, Tryz.ntmps74
      go_wp2
      go_ret
      exact ⟨ret_int (by unfold ordS; rw [h1', h2]; rfl), rfl⟩
    · have h2' : (a.toList == b.toList) = false := by simpa using h2
      go_enter Tryz.func74, Tryz.ntmps74
      go_wp2
      go_ret
      exact ⟨ret_int (by unfold ordS; rw [h1', h2']; rfl), rfl⟩

set_option maxHeartbeats 400000 in
theorem cmpBv_any (a b : ByteArray) (w : World) : Calls Tryz.prog 121 #[.string a, .string b] w fun e w' => e = .returned (.int .i64 (ordS a b)) ∧ w' = w := by
  by_cases h1 : Op.bytesLess a.toList b.toList = true
  · go_enter Tryz.func121, Tryz.ntmps121
    go_wp2
    go_ret
    exact ⟨ret_int (by simp [ordS, h1]), rfl⟩
  · have h1' : Op.bytesLess a.toList b.toList = false := by simpa using h1
    by_cases h2 : (a.toList == b.toList) = true
    · go_enter Tryz.func121, Tryz.ntmps121
      go_wp2
      go_ret
      exact ⟨ret_int (by unfold ordS; rw [h1', h2]; rfl), rfl⟩
    · have h2' : (a.toList == b.toList) = false := by simpa using h2
      go_enter Tryz.func121, Tryz.ntmps121
      go_wp2
      go_ret
      exact ⟨ret_int (by unfold ordS; rw [h1', h2']; rfl), rfl⟩

end Go.Proofs.YtffgdchemjmbmaaGreat
/- impl's order: slices.CompareFunc at its instances, the methods, orderOf. -/
namespace Go.Proofs.YtffgdchemjmbmaaGreat
open Go.RowKit

def OrdSaid (n m : Nat) : Prop := ∀ (t : Tm n) (u : Tm m) (v v' : Value) (w : World), VAt (Under w.heap.size) w n t v → VAt (Under w.heap.size) w m u v' → rightB n t = true → rightB m u = true →
  Calls Tryz.prog 49 #[v, v'] w fun e w' => e = .returned (.int .i64 (cmpT n m t u)) ∧ Below w.heap.size w w'

/-- What CompareFunc answers, the first that tells them apart being e. -/
def cfT (e : Int) (l l' : Nat) : Int := if e = 0 then sgn l l' else e
theorem cfT_lt {l l' : Nat} (h : l' < l) : cfT 0 l l' = 1 := by unfold cfT sgn; rw [if_pos rfl, if_neg (by omega), if_pos (by omega)]
theorem cfT_gt {l l' : Nat} (h : l < l') : cfT 0 l l' = -1 := by unfold cfT sgn; rw [if_pos rfl, if_pos (by omega)]
theorem cfT_eq {l l' : Nat} (h : l = l') : cfT 0 l l' = 0 := by unfold cfT sgn; rw [if_pos rfl, if_neg (by omega), if_neg (by omega)]
theorem cfT_ne {e : Int} {l l' : Nat} (h : e ≠ 0) : cfT e l l' = e := if_neg h

theorem bone {W w1 : World} (hb : Below W.heap.size W w1) {b o : Nat} {v : Value} (h : b < W.heap.size) (e : W.cell? ⟨b, o, none⟩ = some v) : w1.cell? ⟨b, o, none⟩ = some v := (bcell hb b o h).trans e

def CfVSaid (n m : Nat) : Prop := ∀ (ks : List (Tm n)) (ls : List (Tm m)) (a a' : Option Addr) (cap cap' : Nat) (w : World), KAt (Under w.heap.size) w (VAt (Under w.heap.size) w n) ks a →
  KAt (Under w.heap.size) w (VAt (Under w.heap.size) w m) ls a' → ks.length / 2 ≤ cap → cap ≤ 2 ^ 47 → ls.length / 2 ≤ cap' → cap' ≤ 2 ^ 47 → ks.all (rightB n) = true → ls.all (rightB m) = true →
  Calls Tryz.prog 94 #[.slice a ks.length cap, .slice a' ls.length cap', .func (.func 49) #[] #[]] w
    fun e w' => e = .returned (.int .i64 (cfT (eachI (cmpT n m) ks ls 1 ks.length 0) ks.length ls.length)) ∧ Below w.heap.size w w'

set_option maxHeartbeats 2000000 in
theorem cfV_of {n m : Nat} (h : OrdSaid n m) : CfVSaid n m := by
  intro ks ls a a' cap cap' w hu hv hc1 hc2 hc3 hc4 hr1 hr2
  have HR1 := hide (List.all_eq_true.1 hr1)
  have HR2 := hide (List.all_eq_true.1 hr2)
  clear hr1 hr2
  go_enter Tryz.func94, Tryz.ntmps94
  go_wp2_with fail
  go_loopw [13] (fun iv wr => ∃ k fuel : Nat, iv = .int .i64 k ∧ k ≤ ks.length ∧ k ≤ ls.length ∧ ks.length ≤ k + fuel ∧ eachI (cmpT n m) ks ls 1 ks.length 0 = eachI (cmpT n m) ks ls 1 fuel k ∧ Below w.heap.size w wr) (fun iv _ => ks.length - (intOf iv).toNat)
  case atStart => exact ⟨0, ks.length, rfl, Nat.zero_le _, Nat.zero_le _, by omega, rfl, Below.refl _ _⟩
  case round =>
    obtain ⟨k, fuel, rfl, hk1, hk2, hk3, heq, hb⟩ := hrel
    by_cases hlt : k < ks.length
    · obtain ⟨b, off, v1, rfl, hS, e1, hv1⟩ := hu k hlt
      have g1 := bone hb hS e1
      by_cases hlt' : k < ls.length
      · obtain ⟨fuel, rfl⟩ : ∃ f, fuel = f + 1 := ⟨fuel - 1, by omega⟩
        rw [eachI_in _ _ _ _ _ _ hlt hlt'] at heq
        obtain ⟨b', off', v2, rfl, hS', e2, hv2⟩ := hv k hlt'
        have g2 := bone hb hS' e2
        have hc := hide (h ks[k] ls[k] v1 v2 wr (hv1.up hb) (hv2.up hb) (unhide HR1 _ (List.getElem_mem hlt)) (unhide HR2 _ (List.getElem_mem hlt')))
        clear e1 e2
        by_cases hz : cmpT n m ks[k] ls[k] = 0
        · rw [hz] at hc
          rw [if_pos hz] at heq
          have HE := hide heq
          clear heq hz
          go_wp2_with (go_at_call 49; refine (unhide hc).mono ?_; rintro e w' ⟨rfl, hb2⟩)
          go_roundw
          case rel => exact ⟨k + 1, fuel, by go_num, by omega, by omega, by omega, unhide HE, hb.trans (hb2.mono hb.size)⟩
          case measure => simp [intOf]; omega
        · rw [if_neg hz] at heq
          have HE := hide heq
          have HZ := hide hz
          have hz2 : (cmpT n m ks[k] ls[k] != 0) = true := by simpa using hz
          clear heq hz
          go_wp2_with (go_at_call 49; refine (unhide hc).mono ?_; rintro e w' ⟨rfl, hb2⟩)
          go_ret
          exact ⟨ret_int (by rw [unhide HE, cfT_ne (unhide HZ)]), hb.trans (hb2.mono hb.size)⟩
      · rw [eachI_out (cmpT n m) ks ls 1 fuel k (.inr (by omega))] at heq
        have HE := hide heq
        clear heq
        go_wp2_with fail
        go_ret
        exact ⟨ret_int (by rw [unhide HE, cfT_lt (by omega)]), hb⟩
    · rw [eachI_out (cmpT n m) ks ls 1 fuel k (.inl (by omega))] at heq
      have HE := hide heq
      clear heq
      by_cases hll : ks.length < ls.length
      · go_wp2_with fail
        go_ret
        exact ⟨ret_int (by rw [unhide HE, cfT_gt hll]), hb⟩
      · go_wp2_with fail
        go_ret
        exact ⟨ret_int (by rw [unhide HE, cfT_eq (by omega)]), hb⟩

def CfLSaid (n m : Nat) : Prop := ∀ (ks : List (Tm n)) (ls : List (Tm m)) (a a' : Option Addr) (cap cap' : Nat) (w : World), KAt (Under w.heap.size) w (VAt (Under w.heap.size) w n) ks a →
  KAt (Under w.heap.size) w (VAt (Under w.heap.size) w m) ls a' → ks.length / 2 ≤ cap → cap ≤ 2 ^ 47 → ls.length / 2 ≤ cap' → cap' ≤ 2 ^ 47 → ks.all (rightB n) = true → ls.all (rightB m) = true →
  Calls Tryz.prog 116 #[.slice a ks.length cap, .slice a' ls.length cap', .func (.func 49) #[] #[]] w
    fun e w' => e = .returned (.int .i64 (cfT (eachI (cmpT n m) ks ls 1 ks.length 0) ks.length ls.length)) ∧ Below w.heap.size w w'

set_option maxHeartbeats 2000000 in
theorem cfL_of {n m : Nat} (h : OrdSaid n m) : CfLSaid n m := by
  intro ks ls a a' cap cap' w hu hv hc1 hc2 hc3 hc4 hr1 hr2
  have HR1 := hide (List.all_eq_true.1 hr1)
  have HR2 := hide (List.all_eq_true.1 hr2)
  clear hr1 hr2
  go_enter Tryz.func116, Tryz.ntmps116
  go_wp2_with fail
  go_loopw [13] (fun iv wr => ∃ k fuel : Nat, iv = .int .i64 k ∧ k ≤ ks.length ∧ k ≤ ls.length ∧ ks.length ≤ k + fuel ∧ eachI (cmpT n m) ks ls 1 ks.length 0 = eachI (cmpT n m) ks ls 1 fuel k ∧ Below w.heap.size w wr) (fun iv _ => ks.length - (intOf iv).toNat)
  case atStart => exact ⟨0, ks.length, rfl, Nat.zero_le _, Nat.zero_le _, by omega, rfl, Below.refl _ _⟩
  case round =>
    obtain ⟨k, fuel, rfl, hk1, hk2, hk3, heq, hb⟩ := hrel
    by_cases hlt : k < ks.length
    · obtain ⟨b, off, v1, rfl, hS, e1, hv1⟩ := hu k hlt
      have g1 := bone hb hS e1
      by_cases hlt' : k < ls.length
      · obtain ⟨fuel, rfl⟩ : ∃ f, fuel = f + 1 := ⟨fuel - 1, by omega⟩
        rw [eachI_in _ _ _ _ _ _ hlt hlt'] at heq
        obtain ⟨b', off', v2, rfl, hS', e2, hv2⟩ := hv k hlt'
        have g2 := bone hb hS' e2
        have hc := hide (h ks[k] ls[k] v1 v2 wr (hv1.up hb) (hv2.up hb) (unhide HR1 _ (List.getElem_mem hlt)) (unhide HR2 _ (List.getElem_mem hlt')))
        clear e1 e2
        by_cases hz : cmpT n m ks[k] ls[k] = 0
        · rw [hz] at hc
          rw [if_pos hz] at heq
          have HE := hide heq
          clear heq hz
          go_wp2_with (go_at_call 49; refine (unhide hc).mono ?_; rintro e w' ⟨rfl, hb2⟩)
          go_roundw
          case rel => exact ⟨k + 1, fuel, by go_num, by omega, by omega, by omega, unhide HE, hb.trans (hb2.mono hb.size)⟩
          case measure => simp [intOf]; omega
        · rw [if_neg hz] at heq
          have HE := hide heq
          have HZ := hide hz
          have hz2 : (cmpT n m ks[k] ls[k] != 0) = true := by simpa using hz
          clear heq hz
          go_wp2_with (go_at_call 49; refine (unhide hc).mono ?_; rintro e w' ⟨rfl, hb2⟩)
          go_ret
          exact ⟨ret_int (by rw [unhide HE, cfT_ne (unhide HZ)]), hb.trans (hb2.mono hb.size)⟩
      · rw [eachI_out (cmpT n m) ks ls 1 fuel k (.inr (by omega))] at heq
        have HE := hide heq
        clear heq
        go_wp2_with fail
        go_ret
        exact ⟨ret_int (by rw [unhide HE, cfT_lt (by omega)]), hb⟩
    · rw [eachI_out (cmpT n m) ks ls 1 fuel k (.inl (by omega))] at heq
      have HE := hide heq
      clear heq
      by_cases hll : ks.length < ls.length
      · go_wp2_with fail
        go_ret
        exact ⟨ret_int (by rw [unhide HE, cfT_gt hll]), hb⟩
      · go_wp2_with fail
        go_ret
        exact ⟨ret_int (by rw [unhide HE, cfT_eq (by omega)]), hb⟩

end Go.Proofs.YtffgdchemjmbmaaGreat
/- impl's order at pairs: the closures of mapValue.order, slices.CompareFunc at pairs. -/
namespace Go.Proofs.YtffgdchemjmbmaaGreat
open Go.RowKit

/-- The shape of a value. -/
theorem VAt.shape {S : Nat → Prop} {w : World} : ∀ {n : Nat} {t : Tm n} {v : Value}, VAt S w n t v → ∃ u x, v = .iface u x
  | 0, t, _, _ => t.elim
  | _ + 1, (_, _, _, _), _, ⟨_, _, h⟩ => by
    rcases h with h | h | h | h | h | ⟨a, cap, _, _, _, h⟩
    all_goals first | exact ⟨_, _, h.2⟩ | (rcases h with h | h | h | h <;> exact ⟨_, _, h.2⟩)

theorem clo0_any {n m : Nat} (h : OrdSaid n m) (t : Tm n) (u : Tm m) (x0 x1 y0 y1 : Value) (w : World) (h1 : VAt (Under w.heap.size) w n t x0) (h2 : VAt (Under w.heap.size) w m u y0) (r1 : rightB n t = true) (r2 : rightB m u = true) :
    Calls Tryz.prog 110 #[.agg #[x0, x1], .agg #[y0, y1]] w fun e w' => e = .returned (.int .i64 (cmpT n m t u)) ∧ Below w.heap.size w w' := by
  have hb2 := below_two w
  have hc := hide (fun a b => h t u _ _ _ (h1.up (hb2 a b)) (h2.up (hb2 a b)) r1 r2)
  clear h1 h2
  go_enter Tryz.func110, Tryz.ntmps110
  go_wp2_with (go_at_call 49; refine ((unhide hc) _ _).mono ?_; rintro e w' ⟨rfl, hb⟩)
  go_ret
  exact ⟨rfl, (hb2 _ _).trans (hb.mono (by simp; omega))⟩

def CfP0Said (n m : Nat) : Prop := ∀ (ks : List (Tm n)) (ls : List (Tm m)) (a a' : Option Addr) (cap cap' : Nat) (w : World), KAt (Under w.heap.size) w (VAt (Under w.heap.size) w n) ks a →
  KAt (Under w.heap.size) w (VAt (Under w.heap.size) w m) ls a' → ks.length / 2 ≤ cap → cap ≤ 2 ^ 47 → ls.length / 2 ≤ cap' → cap' ≤ 2 ^ 47 → ks.length % 2 = 0 → ls.length % 2 = 0 → ks.all (rightB n) = true → ls.all (rightB m) = true →
  Calls Tryz.prog 109 #[.slice a (ks.length / 2) cap, .slice a' (ls.length / 2) cap', .func (.func 110) #[] #[]] w
    fun e w' => e = .returned (.int .i64 (cfT (eachI (cmpT n m) ks ls 2 ks.length 0) (ks.length / 2) (ls.length / 2))) ∧ Below w.heap.size w w'

set_option maxHeartbeats 2000000 in
theorem cfP0_of {n m : Nat} (h : OrdSaid n m) : CfP0Said n m := by
  intro ks ls a a' cap cap' w hu hv hc1 hc2 hc3 hc4 he1 he2 hr1 hr2
  have HR1 := hide (List.all_eq_true.1 hr1)
  have HR2 := hide (List.all_eq_true.1 hr2)
  clear hr1 hr2
  obtain ⟨p, hp⟩ : ∃ p, ks.length = 2 * p := ⟨ks.length / 2, by omega⟩
  obtain ⟨p', hp'⟩ : ∃ p, ls.length = 2 * p := ⟨ls.length / 2, by omega⟩
  have ep : ks.length / 2 = p := by omega
  have ep' : ls.length / 2 = p' := by omega
  rw [ep, ep']
  have HP := hide hp
  have HP' := hide hp'
  have c1 : p ≤ cap := by omega
  have c3 : p' ≤ cap' := by omega
  clear hp hp' ep ep' he1 he2
  go_enter Tryz.func109, Tryz.ntmps109
  go_wp2_with fail
  go_loopw [13] (fun iv wr => ∃ k fuel : Nat, iv = .int .i64 k ∧ k ≤ p ∧ k ≤ p' ∧ ks.length ≤ 2 * k + fuel ∧ eachI (cmpT n m) ks ls 2 ks.length 0 = eachI (cmpT n m) ks ls 2 fuel (2 * k) ∧ Below w.heap.size w wr) (fun iv _ => p - (intOf iv).toNat)
  case atStart => exact ⟨0, ks.length, rfl, Nat.zero_le _, Nat.zero_le _, by omega, rfl, Below.refl _ _⟩
  case round =>
    obtain ⟨k, fuel, rfl, hk1, hk2, hk3, heq, hb⟩ := hrel
    by_cases hlt : k < p
    · have j1 : 2 * k + 1 < ks.length := by have := unhide HP; omega
      obtain ⟨b, off, v1, rfl, hS, e1, hv1⟩ := hu (2 * k) (by omega)
      obtain ⟨bq, offq, w1, hbo, hSq, e1q, hv1q⟩ := hu (2 * k + 1) j1
      simp only [Option.some.injEq, Addr.mk.injEq, and_true] at hbo
      obtain ⟨rfl, rfl⟩ := hbo
      have g1 : wr.cell? ⟨b, off + k * 2, none⟩ = some v1 := bone hb hS (by rw [Nat.mul_comm k 2]; exact e1)
      have g1q : wr.cell? ⟨b, off + k * 2 + 1, none⟩ = some w1 := bone hb hS (by rw [Nat.mul_comm k 2]; exact e1q)
      by_cases hlt' : k < p'
      · obtain ⟨fuel, rfl⟩ : ∃ f, fuel = f + 1 := ⟨fuel - 1, by omega⟩
        have j2 : 2 * k + 1 < ls.length := by have := unhide HP'; omega
        have hi1 : 2 * k < ks.length := by omega
        have hi2 : 2 * k < ls.length := by omega
        rw [eachI_in (cmpT n m) ks ls 2 fuel (2 * k) hi1 hi2] at heq
        obtain ⟨b', off', v2, rfl, hS', e2, hv2⟩ := hv (2 * k) (by omega)
        obtain ⟨bq', offq', w2, hbo, hSq', e2q, hv2q⟩ := hv (2 * k + 1) j2
        simp only [Option.some.injEq, Addr.mk.injEq, and_true] at hbo
        obtain ⟨rfl, rfl⟩ := hbo
        have g2 : ∀ o, (wr.alloc o).cell? ⟨b', off' + k * 2, none⟩ = some v2 := fun o => bone (hb.trans (((Below.refl _ _).alloc (Nat.le_refl _) o).mono hb.size)) hS' (by rw [Nat.mul_comm k 2]; exact e2)
        have g2q : ∀ o, (wr.alloc o).cell? ⟨b', off' + k * 2 + 1, none⟩ = some w2 := fun o => bone (hb.trans (((Below.refl _ _).alloc (Nat.le_refl _) o).mono hb.size)) hS' (by rw [Nat.mul_comm k 2]; exact e2q)
        have hc := hide (fun (W : World) (hW : Below wr.heap.size wr W) => clo0_any h ks[2 * k] ls[2 * k] v1 w1 v2 w2 W ((hv1.up hb).up hW) ((hv2.up hb).up hW) (unhide HR1 _ (List.getElem_mem hi1)) (unhide HR2 _ (List.getElem_mem hi2)))
        obtain ⟨_, _, rfl⟩ := hv1.shape
        obtain ⟨_, _, rfl⟩ := hv1q.shape
        obtain ⟨_, _, rfl⟩ := hv2.shape
        obtain ⟨_, _, rfl⟩ := hv2q.shape
        clear e1 e1q e2 e2q
        by_cases hz : cmpT n m ks[2 * k] ls[2 * k] = 0
        · rw [hz] at hc
          rw [if_pos hz] at heq
          have HE := hide heq
          clear heq hz
          go_wp2_with (go_at_call 110; refine ((unhide hc) _ (below_two _ _ _)).mono ?_; rintro e w' ⟨rfl, hb2⟩)
          go_roundw
          case rel => exact ⟨k + 1, fuel, by go_num, by omega, by omega, by omega, by rw [unhide HE]; congr 1, hb.trans (((below_two _ _ _).trans (hb2.mono (by simp; omega))).mono hb.size)⟩
          case measure => simp [intOf]; omega
        · rw [if_neg hz] at heq
          have HE := hide heq
          have HZ := hide hz
          have hz2 : (cmpT n m ks[2 * k] ls[2 * k] != 0) = true := by simpa using hz
          clear heq hz
          go_wp2_with (go_at_call 110; refine ((unhide hc) _ (below_two _ _ _)).mono ?_; rintro e w' ⟨rfl, hb2⟩)
          go_ret
          exact ⟨ret_int (by rw [unhide HE, cfT_ne (unhide HZ)]), hb.trans (((below_two _ _ _).trans (hb2.mono (by simp; omega))).mono hb.size)⟩
      · obtain ⟨_, _, rfl⟩ := hv1.shape
        obtain ⟨_, _, rfl⟩ := hv1q.shape
        rw [eachI_out (cmpT n m) ks ls 2 fuel (2 * k) (.inr (by have := unhide HP'; omega))] at heq
        have HE := hide heq
        clear heq
        go_wp2_with fail
        go_ret
        exact ⟨ret_int (by rw [unhide HE, cfT_lt (by omega)]), hb.trans (((Below.refl _ _).alloc (Nat.le_refl _) _).mono hb.size)⟩
    · rw [eachI_out (cmpT n m) ks ls 2 fuel (2 * k) (.inl (by have := unhide HP; omega))] at heq
      have HE := hide heq
      clear heq
      by_cases hll : p < p'
      · go_wp2_with fail
        go_ret
        exact ⟨ret_int (by rw [unhide HE, cfT_gt hll]), hb⟩
      · go_wp2_with fail
        go_ret
        exact ⟨ret_int (by rw [unhide HE, cfT_eq (by omega)]), hb⟩

theorem clo1_any {n m : Nat} (h : OrdSaid n m) (t : Tm n) (u : Tm m) (x0 x1 y0 y1 : Value) (w : World) (h1 : VAt (Under w.heap.size) w n t x1) (h2 : VAt (Under w.heap.size) w m u y1) (r1 : rightB n t = true) (r2 : rightB m u = true) :
    Calls Tryz.prog 111 #[.agg #[x0, x1], .agg #[y0, y1]] w fun e w' => e = .returned (.int .i64 (cmpT n m t u)) ∧ Below w.heap.size w w' := by
  have hb2 := below_two w
  have hc := hide (fun a b => h t u _ _ _ (h1.up (hb2 a b)) (h2.up (hb2 a b)) r1 r2)
  clear h1 h2
  go_enter Tryz.func111, Tryz.ntmps111
  go_wp2_with (go_at_call 49; refine ((unhide hc) _ _).mono ?_; rintro e w' ⟨rfl, hb⟩)
  go_ret
  exact ⟨rfl, (hb2 _ _).trans (hb.mono (by simp; omega))⟩

def CfP1Said (n m : Nat) : Prop := ∀ (ks : List (Tm n)) (ls : List (Tm m)) (a a' : Option Addr) (cap cap' : Nat) (w : World), KAt (Under w.heap.size) w (VAt (Under w.heap.size) w n) ks a →
  KAt (Under w.heap.size) w (VAt (Under w.heap.size) w m) ls a' → ks.length / 2 ≤ cap → cap ≤ 2 ^ 47 → ls.length / 2 ≤ cap' → cap' ≤ 2 ^ 47 → ks.length % 2 = 0 → ls.length % 2 = 0 → ks.all (rightB n) = true → ls.all (rightB m) = true →
  Calls Tryz.prog 109 #[.slice a (ks.length / 2) cap, .slice a' (ls.length / 2) cap', .func (.func 111) #[] #[]] w
    fun e w' => e = .returned (.int .i64 (cfT (eachI (cmpT n m) ks ls 2 ks.length 1) (ks.length / 2) (ls.length / 2))) ∧ Below w.heap.size w w'

set_option maxHeartbeats 2000000 in
theorem cfP1_of {n m : Nat} (h : OrdSaid n m) : CfP1Said n m := by
  intro ks ls a a' cap cap' w hu hv hc1 hc2 hc3 hc4 he1 he2 hr1 hr2
  have HR1 := hide (List.all_eq_true.1 hr1)
  have HR2 := hide (List.all_eq_true.1 hr2)
  clear hr1 hr2
  obtain ⟨p, hp⟩ : ∃ p, ks.length = 2 * p := ⟨ks.length / 2, by omega⟩
  obtain ⟨p', hp'⟩ : ∃ p, ls.length = 2 * p := ⟨ls.length / 2, by omega⟩
  have ep : ks.length / 2 = p := by omega
  have ep' : ls.length / 2 = p' := by omega
  rw [ep, ep']
  have HP := hide hp
  have HP' := hide hp'
  have c1 : p ≤ cap := by omega
  have c3 : p' ≤ cap' := by omega
  clear hp hp' ep ep' he1 he2
  go_enter Tryz.func109, Tryz.ntmps109
  go_wp2_with fail
  go_loopw [13] (fun iv wr => ∃ k fuel : Nat, iv = .int .i64 k ∧ k ≤ p ∧ k ≤ p' ∧ ks.length ≤ 2 * k + 1 + fuel ∧ eachI (cmpT n m) ks ls 2 ks.length 1 = eachI (cmpT n m) ks ls 2 fuel (2 * k + 1) ∧ Below w.heap.size w wr) (fun iv _ => p - (intOf iv).toNat)
  case atStart => exact ⟨0, ks.length, rfl, Nat.zero_le _, Nat.zero_le _, by omega, rfl, Below.refl _ _⟩
  case round =>
    obtain ⟨k, fuel, rfl, hk1, hk2, hk3, heq, hb⟩ := hrel
    by_cases hlt : k < p
    · have j1 : 2 * k + 1 < ks.length := by have := unhide HP; omega
      obtain ⟨b, off, v1, rfl, hS, e1, hv1⟩ := hu (2 * k) (by omega)
      obtain ⟨bq, offq, w1, hbo, hSq, e1q, hv1q⟩ := hu (2 * k + 1) j1
      simp only [Option.some.injEq, Addr.mk.injEq, and_true] at hbo
      obtain ⟨rfl, rfl⟩ := hbo
      have g1 : wr.cell? ⟨b, off + k * 2, none⟩ = some v1 := bone hb hS (by rw [Nat.mul_comm k 2]; exact e1)
      have g1q : wr.cell? ⟨b, off + k * 2 + 1, none⟩ = some w1 := bone hb hS (by rw [Nat.mul_comm k 2]; exact e1q)
      by_cases hlt' : k < p'
      · obtain ⟨fuel, rfl⟩ : ∃ f, fuel = f + 1 := ⟨fuel - 1, by omega⟩
        have j2 : 2 * k + 1 < ls.length := by have := unhide HP'; omega
        have hi1 : 2 * k + 1 < ks.length := by omega
        have hi2 : 2 * k + 1 < ls.length := by omega
        rw [eachI_in (cmpT n m) ks ls 2 fuel (2 * k + 1) hi1 hi2] at heq
        obtain ⟨b', off', v2, rfl, hS', e2, hv2⟩ := hv (2 * k) (by omega)
        obtain ⟨bq', offq', w2, hbo, hSq', e2q, hv2q⟩ := hv (2 * k + 1) j2
        simp only [Option.some.injEq, Addr.mk.injEq, and_true] at hbo
        obtain ⟨rfl, rfl⟩ := hbo
        have g2 : ∀ o, (wr.alloc o).cell? ⟨b', off' + k * 2, none⟩ = some v2 := fun o => bone (hb.trans (((Below.refl _ _).alloc (Nat.le_refl _) o).mono hb.size)) hS' (by rw [Nat.mul_comm k 2]; exact e2)
        have g2q : ∀ o, (wr.alloc o).cell? ⟨b', off' + k * 2 + 1, none⟩ = some w2 := fun o => bone (hb.trans (((Below.refl _ _).alloc (Nat.le_refl _) o).mono hb.size)) hS' (by rw [Nat.mul_comm k 2]; exact e2q)
        have hc := hide (fun (W : World) (hW : Below wr.heap.size wr W) => clo1_any h ks[2 * k + 1] ls[2 * k + 1] v1 w1 v2 w2 W ((hv1q.up hb).up hW) ((hv2q.up hb).up hW) (unhide HR1 _ (List.getElem_mem hi1)) (unhide HR2 _ (List.getElem_mem hi2)))
        obtain ⟨_, _, rfl⟩ := hv1.shape
        obtain ⟨_, _, rfl⟩ := hv1q.shape
        obtain ⟨_, _, rfl⟩ := hv2.shape
        obtain ⟨_, _, rfl⟩ := hv2q.shape
        clear e1 e1q e2 e2q
        by_cases hz : cmpT n m ks[2 * k + 1] ls[2 * k + 1] = 0
        · rw [hz] at hc
          rw [if_pos hz] at heq
          have HE := hide heq
          clear heq hz
          go_wp2_with (go_at_call 111; refine ((unhide hc) _ (below_two _ _ _)).mono ?_; rintro e w' ⟨rfl, hb2⟩)
          go_roundw
          case rel => exact ⟨k + 1, fuel, by go_num, by omega, by omega, by omega, by rw [unhide HE]; congr 1, hb.trans (((below_two _ _ _).trans (hb2.mono (by simp; omega))).mono hb.size)⟩
          case measure => simp [intOf]; omega
        · rw [if_neg hz] at heq
          have HE := hide heq
          have HZ := hide hz
          have hz2 : (cmpT n m ks[2 * k + 1] ls[2 * k + 1] != 0) = true := by simpa using hz
          clear heq hz
          go_wp2_with (go_at_call 111; refine ((unhide hc) _ (below_two _ _ _)).mono ?_; rintro e w' ⟨rfl, hb2⟩)
          go_ret
          exact ⟨ret_int (by rw [unhide HE, cfT_ne (unhide HZ)]), hb.trans (((below_two _ _ _).trans (hb2.mono (by simp; omega))).mono hb.size)⟩
      · obtain ⟨_, _, rfl⟩ := hv1.shape
        obtain ⟨_, _, rfl⟩ := hv1q.shape
        rw [eachI_out (cmpT n m) ks ls 2 fuel (2 * k + 1) (.inr (by have := unhide HP'; omega))] at heq
        have HE := hide heq
        clear heq
        go_wp2_with fail
        go_ret
        exact ⟨ret_int (by rw [unhide HE, cfT_lt (by omega)]), hb.trans (((Below.refl _ _).alloc (Nat.le_refl _) _).mono hb.size)⟩
    · rw [eachI_out (cmpT n m) ks ls 2 fuel (2 * k + 1) (.inl (by have := unhide HP; omega))] at heq
      have HE := hide heq
      clear heq
      by_cases hll : p < p'
      · go_wp2_with fail
        go_ret
        exact ⟨ret_int (by rw [unhide HE, cfT_gt hll]), hb⟩
      · go_wp2_with fail
        go_ret
        exact ⟨ret_int (by rw [unhide HE, cfT_eq (by omega)]), hb⟩

end Go.Proofs.YtffgdchemjmbmaaGreat
/- impl's order: the methods of the nine types, orderOf. -/
namespace Go.Proofs.YtffgdchemjmbmaaGreat
open Go.RowKit

/-- What is known of a dynamic type: its kind, and which functions its methods kind and order are. -/
structure Dyn (u : TypeId) (k : Int) where
  f : FuncId
  g : FuncId
  good : Value → Prop
  mk0 : ∀ (x : Value) (w : World), (method 236 u x "loop.example/g00019/impl.kind").run Tryz.prog w = .ok (f, x) w
  ck : ∀ (x : Value) (w : World), (callFunc f #[x]).run Tryz.prog w = .ok (.enter f #[x]) w
  kc : ∀ (x : Value) (w : World), good x → Calls Tryz.prog f #[x] w fun e w' => e = .returned (.int .i64 k) ∧ Below w.heap.size w w'
  mo : ∀ (x : Value) (w : World), (method 236 u x "loop.example/g00019/impl.order").run Tryz.prog w = .ok (g, x) w
  co : ∀ (x y : Value) (w : World), (callFunc g #[x, y]).run Tryz.prog w = .ok (.enter g #[x, y]) w

theorem kind_int (x : Value) (w : World) (_hx : (fun _ => True) x) : Calls Tryz.prog 77 #[x] w fun e w' => e = .returned (.int .i64 1) ∧ Below w.heap.size w w' := by
  go_enter Tryz.func77, Tryz.ntmps77
  go_wp2
  go_ret
  exact ⟨rfl, Below.refl _ _⟩
theorem ta_int (x : Value) (w : World) : (Instr.typeAssert (.iface 65 x) 45 65 false).run Tryz.prog w = .ok x w := by kernel_rfl
def dyn_int : Dyn 65 1 where
  f := 77
  g := 78
  good := fun _ => True
  mk0 := fun x w => by kernel_rfl
  ck := fun x w => by kernel_rfl
  kc := kind_int
  mo := fun x w => by kernel_rfl
  co := fun x y w => by kernel_rfl

theorem kind_atom (x : Value) (w : World) (_hx : (fun _ => True) x) : Calls Tryz.prog 70 #[x] w fun e w' => e = .returned (.int .i64 2) ∧ Below w.heap.size w w' := by
  go_enter Tryz.func70, Tryz.ntmps70
  go_wp2
  go_ret
  exact ⟨rfl, Below.refl _ _⟩
theorem ta_atom (x : Value) (w : World) : (Instr.typeAssert (.iface 59 x) 45 59 false).run Tryz.prog w = .ok x w := by kernel_rfl
def dyn_atom : Dyn 59 2 where
  f := 70
  g := 71
  good := fun _ => True
  mk0 := fun x w => by kernel_rfl
  ck := fun x w => by kernel_rfl
  kc := kind_atom
  mo := fun x w => by kernel_rfl
  co := fun x y w => by kernel_rfl

theorem kind_ref (x : Value) (w : World) (_hx : (fun _ => True) x) : Calls Tryz.prog 83 #[x] w fun e w' => e = .returned (.int .i64 3) ∧ Below w.heap.size w w' := by
  go_enter Tryz.func83, Tryz.ntmps83
  go_wp2
  go_ret
  exact ⟨rfl, Below.refl _ _⟩
theorem ta_ref (x : Value) (w : World) : (Instr.typeAssert (.iface 66 x) 45 66 false).run Tryz.prog w = .ok x w := by kernel_rfl
def dyn_ref : Dyn 66 3 where
  f := 83
  g := 84
  good := fun _ => True
  mk0 := fun x w => by kernel_rfl
  ck := fun x w => by kernel_rfl
  kc := kind_ref
  mo := fun x w => by kernel_rfl
  co := fun x y w => by kernel_rfl

theorem kind_fun (x : Value) (w : World) (hx : (fun x => ∃ a b, x = .agg #[a, b]) x) : Calls Tryz.prog 89 #[x] w fun e w' => e = .returned (.int .i64 4) ∧ Below w.heap.size w w' := by
  obtain ⟨a, b, rfl⟩ := hx
  go_enter Tryz.func89, Tryz.ntmps89
  go_wp2
  go_ret
  exact ⟨rfl, (Below.refl _ _).alloc (Nat.le_refl _) _⟩
theorem ta_fun (x : Value) (w : World) : (Instr.typeAssert (.iface 69 x) 45 69 false).run Tryz.prog w = .ok x w := by kernel_rfl
def dyn_fun : Dyn 69 4 where
  f := 89
  g := 90
  good := fun x => ∃ a b, x = .agg #[a, b]
  mk0 := fun x w => by kernel_rfl
  ck := fun x w => by kernel_rfl
  kc := kind_fun
  mo := fun x w => by kernel_rfl
  co := fun x y w => by kernel_rfl

theorem kind_pid (x : Value) (w : World) (_hx : (fun _ => True) x) : Calls Tryz.prog 95 #[x] w fun e w' => e = .returned (.int .i64 5) ∧ Below w.heap.size w w' := by
  go_enter Tryz.func95, Tryz.ntmps95
  go_wp2
  go_ret
  exact ⟨rfl, Below.refl _ _⟩
theorem ta_pid (x : Value) (w : World) : (Instr.typeAssert (.iface 71 x) 45 71 false).run Tryz.prog w = .ok x w := by kernel_rfl
def dyn_pid : Dyn 71 5 where
  f := 95
  g := 96
  good := fun _ => True
  mk0 := fun x w => by kernel_rfl
  ck := fun x w => by kernel_rfl
  kc := kind_pid
  mo := fun x w => by kernel_rfl
  co := fun x y w => by kernel_rfl

theorem kind_tup (x : Value) (w : World) (_hx : (fun _ => True) x) : Calls Tryz.prog 101 #[x] w fun e w' => e = .returned (.int .i64 6) ∧ Below w.heap.size w w' := by
  go_enter Tryz.func101, Tryz.ntmps101
  go_wp2
  go_ret
  exact ⟨rfl, Below.refl _ _⟩
theorem ta_tup (x : Value) (w : World) : (Instr.typeAssert (.iface 72 x) 45 72 false).run Tryz.prog w = .ok x w := by kernel_rfl
def dyn_tup : Dyn 72 6 where
  f := 101
  g := 102
  good := fun _ => True
  mk0 := fun x w => by kernel_rfl
  ck := fun x w => by kernel_rfl
  kc := kind_tup
  mo := fun x w => by kernel_rfl
  co := fun x y w => by kernel_rfl

theorem kind_map (x : Value) (w : World) (_hx : (fun _ => True) x) : Calls Tryz.prog 105 #[x] w fun e w' => e = .returned (.int .i64 7) ∧ Below w.heap.size w w' := by
  go_enter Tryz.func105, Tryz.ntmps105
  go_wp2
  go_ret
  exact ⟨rfl, Below.refl _ _⟩
theorem ta_map (x : Value) (w : World) : (Instr.typeAssert (.iface 74 x) 45 74 false).run Tryz.prog w = .ok x w := by kernel_rfl
def dyn_map : Dyn 74 7 where
  f := 105
  g := 106
  good := fun _ => True
  mk0 := fun x w => by kernel_rfl
  ck := fun x w => by kernel_rfl
  kc := kind_map
  mo := fun x w => by kernel_rfl
  co := fun x y w => by kernel_rfl

theorem kind_lst (x : Value) (w : World) (_hx : (fun _ => True) x) : Calls Tryz.prog 112 #[x] w fun e w' => e = .returned (.int .i64 8) ∧ Below w.heap.size w w' := by
  go_enter Tryz.func112, Tryz.ntmps112
  go_wp2
  go_ret
  exact ⟨rfl, Below.refl _ _⟩
theorem ta_lst (x : Value) (w : World) : (Instr.typeAssert (.iface 76 x) 45 76 false).run Tryz.prog w = .ok x w := by kernel_rfl
def dyn_lst : Dyn 76 8 where
  f := 112
  g := 113
  good := fun _ => True
  mk0 := fun x w => by kernel_rfl
  ck := fun x w => by kernel_rfl
  kc := kind_lst
  mo := fun x w => by kernel_rfl
  co := fun x y w => by kernel_rfl

theorem kind_bin (x : Value) (w : World) (_hx : (fun _ => True) x) : Calls Tryz.prog 117 #[x] w fun e w' => e = .returned (.int .i64 9) ∧ Below w.heap.size w w' := by
  go_enter Tryz.func117, Tryz.ntmps117
  go_wp2
  go_ret
  exact ⟨rfl, Below.refl _ _⟩
theorem ta_bin (x : Value) (w : World) : (Instr.typeAssert (.iface 77 x) 45 77 false).run Tryz.prog w = .ok x w := by kernel_rfl
def dyn_bin : Dyn 77 9 where
  f := 117
  g := 118
  good := fun _ => True
  mk0 := fun x w => by kernel_rfl
  ck := fun x w => by kernel_rfl
  kc := kind_bin
  mo := fun x w => by kernel_rfl
  co := fun x y w => by kernel_rfl

set_option maxRecDepth 20000 in
set_option maxHeartbeats 2000000 in
theorem orderOf_ne {u u' : TypeId} {k k' : Int} (D : Dyn u k) (D' : Dyn u' k') (x x' : Value) (w : World) (hg : D.good x) (hg' : D'.good x') (hne : k ≠ k') :
    Calls Tryz.prog 49 #[.iface u x, .iface u' x'] w fun e w' => e = .returned (.int .i64 (sgn k k')) ∧ Below w.heap.size w w' := by
  obtain ⟨f, g, good, mk, ck, kc, mo, co⟩ := D
  obtain ⟨f', g', good', mk', ck', kc', mo', co'⟩ := D'
  have hne' : (k != k') = true := by simpa using hne
  have hm1 := mk x
  have hc1 := ck x
  have hm2 := mk' x'
  have hc2 := ck' x'
  have K1 := hide (fun w => kc x w hg)
  have K2 := hide (fun w => kc' x' w hg')
  clear mk ck kc mo co mk' ck' kc' mo' co' hne hg hg'
  go_enter Tryz.func49, Tryz.ntmps49
  go_wp2_with fail
  refine ((unhide K1) _).mono ?_
  rintro e w1 ⟨rfl, b1⟩
  go_wp2_with fail
  refine ((unhide K2) _).mono ?_
  rintro e w2 ⟨rfl, b2⟩
  go_wp2_with fail
  refine ((unhide K1) _).mono ?_
  rintro e w3 ⟨rfl, b3⟩
  go_wp2_with fail
  refine ((unhide K2) _).mono ?_
  rintro e w4 ⟨rfl, b4⟩
  go_wp2_with (go_at_call 52; refine (cmpInt_any _ _ _).mono ?_; rintro e w' ⟨rfl, rfl⟩)
  go_ret
  exact ⟨rfl, b1.trans ((b2.trans ((b3.trans (b4.mono b3.size)).mono b2.size)).mono b1.size)⟩

set_option maxRecDepth 20000 in
set_option maxHeartbeats 2000000 in
theorem orderOf_eq {u u' : TypeId} {k : Int} (D : Dyn u k) (D' : Dyn u' k) (x x' : Value) (w : World) (c : Int) (hg : D.good x) (hg' : D'.good x')
    (ho : ∀ w1, Below w.heap.size w w1 → Calls Tryz.prog D.g #[x, .iface u' x'] w1 fun e w' => e = .returned (.int .i64 c) ∧ Below w1.heap.size w1 w') :
    Calls Tryz.prog 49 #[.iface u x, .iface u' x'] w fun e w' => e = .returned (.int .i64 c) ∧ Below w.heap.size w w' := by
  obtain ⟨f, g, good, mk, ck, kc, mo, co⟩ := D
  obtain ⟨f', g', good', mk', ck', kc', mo', co'⟩ := D'
  have hm1 := mk x
  have hc1 := ck x
  have hm2 := mk' x'
  have hc2 := ck' x'
  have hm3 := mo x
  have hc3 := co x (.iface u' x')
  have K1 := hide (fun w => kc x w hg)
  have K2 := hide (fun w => kc' x' w hg')
  dsimp only at ho
  have HO := hide ho
  clear mk ck kc mo co mk' ck' kc' mo' co' ho hg hg'
  go_enter Tryz.func49, Tryz.ntmps49
  go_wp2_with fail
  refine ((unhide K1) _).mono ?_
  rintro e w1 ⟨rfl, b1⟩
  go_wp2_with fail
  refine ((unhide K2) _).mono ?_
  rintro e w2 ⟨rfl, b2⟩
  have b12 := b1.trans (b2.mono b1.size)
  go_wp2_with fail
  refine ((unhide HO) _ b12).mono ?_
  rintro e w3 ⟨rfl, b3⟩
  go_wp2_with fail
  go_ret
  exact ⟨rfl, b12.trans (b3.mono b12.size)⟩

set_option maxRecDepth 20000 in
set_option maxHeartbeats 1000000 in
theorem order_int (m m' : Int) (w : World) : Calls Tryz.prog 78 #[.int .i64 m, .iface 65 (.int .i64 m')] w fun e w' => e = .returned (.int .i64 (sgn m m')) ∧ w' = w := by
  have hta := ta_int
  go_enter Tryz.func78, Tryz.ntmps78
  go_wp2_with (go_at_call 81; refine (cmpIv_any _ _ _).mono ?_; rintro e w' ⟨rfl, rfl⟩)
  go_ret
  exact ⟨rfl, rfl⟩

set_option maxRecDepth 20000 in
set_option maxHeartbeats 1000000 in
theorem order_ref (m m' : Int) (w : World) : Calls Tryz.prog 84 #[.int .i64 m, .iface 66 (.int .i64 m')] w fun e w' => e = .returned (.int .i64 (sgn m m')) ∧ w' = w := by
  have hta := ta_ref
  go_enter Tryz.func84, Tryz.ntmps84
  go_wp2_with (go_at_call 87; refine (cmpRv_any _ _ _).mono ?_; rintro e w' ⟨rfl, rfl⟩)
  go_ret
  exact ⟨rfl, rfl⟩

set_option maxRecDepth 20000 in
set_option maxHeartbeats 1000000 in
theorem order_pid (m m' : Int) (w : World) : Calls Tryz.prog 96 #[.int .i64 m, .iface 71 (.int .i64 m')] w fun e w' => e = .returned (.int .i64 (sgn m m')) ∧ w' = w := by
  have hta := ta_pid
  go_enter Tryz.func96, Tryz.ntmps96
  go_wp2_with (go_at_call 99; refine (cmpPv_any _ _ _).mono ?_; rintro e w' ⟨rfl, rfl⟩)
  go_ret
  exact ⟨rfl, rfl⟩

set_option maxRecDepth 20000 in
set_option maxHeartbeats 1000000 in
theorem order_atom (a b : ByteArray) (w : World) : Calls Tryz.prog 71 #[.string a, .iface 59 (.string b)] w fun e w' => e = .returned (.int .i64 (ordS a b)) ∧ w' = w := by
  have hta := ta_atom
  go_enter Tryz.func71, Tryz.ntmps71
  go_wp2_with (go_at_call 74; refine (cmpAv_any _ _ _).mono ?_; rintro e w' ⟨rfl, rfl⟩)
  go_ret
  exact ⟨rfl, rfl⟩

set_option maxRecDepth 20000 in
set_option maxHeartbeats 1000000 in
theorem order_bin (a b : ByteArray) (w : World) : Calls Tryz.prog 118 #[.string a, .iface 77 (.string b)] w fun e w' => e = .returned (.int .i64 (ordS a b)) ∧ w' = w := by
  have hta := ta_bin
  go_enter Tryz.func118, Tryz.ntmps118
  go_wp2_with (go_at_call 121; refine (cmpBv_any _ _ _).mono ?_; rintro e w' ⟨rfl, rfl⟩)
  go_ret
  exact ⟨rfl, rfl⟩

/-- What is known of two rows of kids. -/
structure Rows2 (n m : Nat) (ks : List (Tm n)) (ls : List (Tm m)) (a a' : Option Addr) (cap cap' : Nat) (w : World) : Prop where
  u : KAt (Under w.heap.size) w (VAt (Under w.heap.size) w n) ks a
  v : KAt (Under w.heap.size) w (VAt (Under w.heap.size) w m) ls a'
  c1 : ks.length / 2 ≤ cap
  c2 : cap ≤ 2 ^ 47
  c3 : ls.length / 2 ≤ cap'
  c4 : cap' ≤ 2 ^ 47
  r1 : ks.all (rightB n) = true
  r2 : ls.all (rightB m) = true
theorem Rows2.up {n m : Nat} {ks : List (Tm n)} {ls : List (Tm m)} {a a' : Option Addr} {cap cap' : Nat} {w w' : World} (h : Rows2 n m ks ls a a' cap cap' w) (hb : Below w.heap.size w w') : Rows2 n m ks ls a a' cap cap' w' :=
  ⟨h.u.up hb, h.v.up hb, h.c1, h.c2, h.c3, h.c4, h.r1, h.r2⟩

/-- Of rows of which the shorter one is first. -/
def cntT (e : Int) (l l' : Nat) : Int := if l ≠ l' then sgn l l' else e
def funT (c i i' : Int) : Int := if i ≠ i' then sgn i i' else c
theorem funT_same {c i i' : Int} (h : i = i') : funT c i i' = c := if_neg (by simpa using h)
theorem funT_ne {c i i' : Int} (h : i ≠ i') : funT c i i' = sgn i i' := if_pos h
def mapT (e0 e1 : Int) : Int := if e0 = 0 then e1 else e0
theorem mapT_zero {e0 e1 : Int} (h : e0 = 0) : mapT e0 e1 = e1 := if_pos h
theorem mapT_ne {e0 e1 : Int} (h : e0 ≠ 0) : mapT e0 e1 = e0 := if_neg h
theorem cfT_same {e : Int} {l l' : Nat} (h : l = l') : cfT e l l' = e := by
  by_cases hz : e = 0
  · subst hz; exact cfT_eq h
  · exact cfT_ne hz
theorem cntT_same {e : Int} {l l' : Nat} (h : l = l') : cntT e l l' = e := if_neg (by simpa using h)
theorem cntT_ne {e : Int} {l l' : Nat} (h : l ≠ l') : cntT e l l' = sgn l l' := if_pos h

set_option maxHeartbeats 1000000 in
theorem counted_any {n m : Nat} (h : CfVSaid n m) (ks : List (Tm n)) (ls : List (Tm m)) (a a' : Option Addr) (cap cap' : Nat) (w : World) (hr : Rows2 n m ks ls a a' cap cap' w) :
    Calls Tryz.prog 93 #[.slice a ks.length cap, .slice a' ls.length cap'] w fun e w' => e = .returned (.int .i64 (cntT (eachI (cmpT n m) ks ls 1 ks.length 0) ks.length ls.length)) ∧ Below w.heap.size w w' := by
  have hc := hide (h ks ls a a' cap cap' w hr.u hr.v hr.c1 hr.c2 hr.c3 hr.c4 hr.r1 hr.r2)
  clear hr
  by_cases hl : ks.length = ls.length
  · have hl' : ((ks.length : Int) != (ls.length : Int)) = false := by simp [hl]
    have HL := hide hl
    clear hl
    go_enter Tryz.func93, Tryz.ntmps93
    go_wp2_with (go_at_call 94; refine (unhide hc).mono ?_; rintro e w' ⟨rfl, hb⟩)
    go_ret
    refine ⟨ret_int ?_, hb⟩
    rw [cfT_same (unhide HL), cntT_same (unhide HL)]
  · have hl' : ((ks.length : Int) != (ls.length : Int)) = true := by simpa using (by omega : ¬ (ks.length : Int) = ls.length)
    have HL := hide hl
    clear hl hc
    go_enter Tryz.func93, Tryz.ntmps93
    go_wp2_with (go_at_call 52; refine (cmpInt_any _ _ _).mono ?_; rintro e w' ⟨rfl, rfl⟩)
    go_ret
    exact ⟨ret_int ((cntT_ne (unhide HL)).symm), Below.refl _ _⟩

set_option maxRecDepth 20000 in
set_option maxHeartbeats 1000000 in
theorem order_tup {n m : Nat} (h : CfVSaid n m) (ks : List (Tm n)) (ls : List (Tm m)) (a a' : Option Addr) (cap cap' : Nat) (w : World) (hr : Rows2 n m ks ls a a' cap cap' w) :
    Calls Tryz.prog 102 #[.slice a ks.length cap, .iface 72 (.slice a' ls.length cap')] w fun e w' => e = .returned (.int .i64 (cntT (eachI (cmpT n m) ks ls 1 ks.length 0) ks.length ls.length)) ∧ Below w.heap.size w w' := by
  have hc := hide (counted_any h ks ls a a' cap cap' w hr)
  clear hr
  have hta := ta_tup
  go_enter Tryz.func102, Tryz.ntmps102
  go_wp2_with (go_at_call 93; refine (unhide hc).mono ?_; rintro e w' ⟨rfl, hb⟩)
  go_ret
  exact ⟨rfl, hb⟩

set_option maxRecDepth 20000 in
set_option maxHeartbeats 1000000 in
theorem order_lst {n m : Nat} (h : CfLSaid n m) (ks : List (Tm n)) (ls : List (Tm m)) (a a' : Option Addr) (cap cap' : Nat) (w : World) (hr : Rows2 n m ks ls a a' cap cap' w) :
    Calls Tryz.prog 113 #[.slice a ks.length cap, .iface 76 (.slice a' ls.length cap')] w fun e w' => e = .returned (.int .i64 (cfT (eachI (cmpT n m) ks ls 1 ks.length 0) ks.length ls.length)) ∧ Below w.heap.size w w' := by
  have hc := hide (h ks ls a a' cap cap' w hr.u hr.v hr.c1 hr.c2 hr.c3 hr.c4 hr.r1 hr.r2)
  clear hr
  have hta := ta_lst
  go_enter Tryz.func113, Tryz.ntmps113
  go_wp2_with (go_at_call 116; refine (unhide hc).mono ?_; rintro e w' ⟨rfl, hb⟩)
  go_ret
  exact ⟨rfl, hb⟩

set_option maxRecDepth 20000 in
set_option maxHeartbeats 1000000 in
theorem order_fun {n m : Nat} (h : CfVSaid n m) (i i' : Int) (ks : List (Tm n)) (ls : List (Tm m)) (a a' : Option Addr) (cap cap' : Nat) (w : World) (hr : Rows2 n m ks ls a a' cap cap' w) :
    Calls Tryz.prog 90 #[.agg #[.int .i64 i, .slice a ks.length cap], .iface 69 (.agg #[.int .i64 i', .slice a' ls.length cap'])] w
      fun e w' => e = .returned (.int .i64 (funT (cntT (eachI (cmpT n m) ks ls 1 ks.length 0) ks.length ls.length) i i')) ∧ Below w.heap.size w w' := by
  have hb2 := below_two w
  by_cases hi : i = i'
  · have hi' : (i != i') = false := by simp [hi]
    have hc := hide (fun x y => counted_any h ks ls a a' cap cap' _ (hr.up (hb2 x y)))
    subst hi
    clear hr
    have hta := ta_fun
    go_enter Tryz.func90, Tryz.ntmps90
    go_wp2_with (go_at_call 93; refine ((unhide hc) _ _).mono ?_; rintro e w' ⟨rfl, hb⟩)
    go_ret
    exact ⟨ret_int (funT_same rfl).symm, (hb2 _ _).trans (hb.mono (by simp; omega))⟩
  · have hi' : (i != i') = true := by simpa using hi
    have HI := hide hi
    clear hi hr
    have hta := ta_fun
    go_enter Tryz.func90, Tryz.ntmps90
    go_wp2_with (go_at_call 52; refine (cmpInt_any _ _ _).mono ?_; rintro e w' ⟨rfl, rfl⟩)
    go_ret
    exact ⟨ret_int (funT_ne (unhide HI)).symm, hb2 _ _⟩

set_option maxRecDepth 20000 in
set_option maxHeartbeats 1000000 in
theorem order_map {n m : Nat} (h0 : CfP0Said n m) (h1 : CfP1Said n m) (ks : List (Tm n)) (ls : List (Tm m)) (a a' : Option Addr) (cap cap' : Nat) (w : World) (hr : Rows2 n m ks ls a a' cap cap' w) (he : ks.length % 2 = 0) (he' : ls.length % 2 = 0) :
    Calls Tryz.prog 106 #[.slice a (ks.length / 2) cap, .iface 74 (.slice a' (ls.length / 2) cap')] w
      fun e w' => e = .returned (.int .i64 (cntT (mapT (eachI (cmpT n m) ks ls 2 ks.length 0) (eachI (cmpT n m) ks ls 2 ks.length 1)) ks.length ls.length)) ∧ Below w.heap.size w w' := by
  have hc0 := h0 ks ls a a' cap cap' w hr.u hr.v hr.c1 hr.c2 hr.c3 hr.c4 he he' hr.r1 hr.r2
  have hc1 := hide (fun w1 hb => let hr1 := hr.up (w' := w1) hb; h1 ks ls a a' cap cap' w1 hr1.u hr1.v hr1.c1 hr1.c2 hr1.c3 hr1.c4 he he' hr1.r1 hr1.r2)
  by_cases hl : ks.length = ls.length
  · have hl2 : ks.length / 2 = ls.length / 2 := by rw [hl]
    have HL := hide hl
    have hq : ∀ e : Int, cfT e (ks.length / 2) (ls.length / 2) = e := fun e => cfT_same hl2
    rw [hq] at hc0
    obtain ⟨p, hp⟩ : ∃ p, p = ks.length / 2 := ⟨_, rfl⟩
    have hp' : p = ls.length / 2 := hp.trans hl2
    simp only [hq] at hc1
    rw [← hp, ← hp'] at hc0 ⊢
    simp only [← hp, ← hp'] at hc1
    have hpp : ((p : Int) != (p : Int)) = false := by simp
    have hps : p ≤ 2 ^ 47 := by have := hr.c1; have := hr.c2; omega
    clear hl hl2 hp hp' hq hr he he'
    by_cases hz : eachI (cmpT n m) ks ls 2 ks.length 0 = 0
    · rw [hz] at hc0
      have HC := hide hc0
      have HZ := hide hz
      clear hc0 hz
      have hta := ta_map
      go_enter Tryz.func106, Tryz.ntmps106
      go_wp2_with fail
      refine (unhide HC).mono ?_
      rintro e w1 ⟨rfl, hb⟩
      go_wp2_with fail
      refine ((unhide hc1) _ hb).mono ?_
      rintro e w2 ⟨rfl, hb2⟩
      go_wp2_with fail
      go_ret
      exact ⟨ret_int (by rw [cntT_same (unhide HL), mapT_zero (unhide HZ)]), hb.trans (hb2.mono hb.size)⟩
    · have HC := hide hc0
      have HZ := hide hz
      have hz2 : (eachI (cmpT n m) ks ls 2 ks.length 0 != 0) = true := by simpa using hz
      clear hc0 hz hc1
      have hta := ta_map
      go_enter Tryz.func106, Tryz.ntmps106
      go_wp2_with fail
      refine (unhide HC).mono ?_
      rintro e w1 ⟨rfl, hb⟩
      go_wp2_with fail
      go_ret
      exact ⟨ret_int (by rw [cntT_same (unhide HL), mapT_ne (unhide HZ)]), hb⟩
  · have HL := hide hl
    obtain ⟨p, hp⟩ : ∃ p, p = ks.length / 2 := ⟨_, rfl⟩
    obtain ⟨p', hp'⟩ : ∃ p, p = ls.length / 2 := ⟨_, rfl⟩
    rw [← hp, ← hp']
    have hpp : ((p : Int) != (p' : Int)) = true := by simpa using (by omega : ¬ (p : Int) = p')
    have hs : Hid (sgn p p' = sgn ks.length ls.length) := by
      show _ = _
      unfold sgn
      by_cases hlt : ks.length < ls.length
      · rw [if_pos (by omega), if_pos (by omega)]
      · rw [if_neg (by omega), if_pos (by omega), if_neg (by omega), if_pos (by omega)]
    clear hc0 hc1 hl hr he he' hp hp'
    have hta := ta_map
    go_enter Tryz.func106, Tryz.ntmps106
    go_wp2_with (go_at_call 52; refine (cmpInt_any _ _ _).mono ?_; rintro e w' ⟨rfl, rfl⟩)
    go_ret
    exact ⟨ret_int (by rw [cntT_ne (unhide HL), unhide hs]), Below.refl _ _⟩

end Go.Proofs.YtffgdchemjmbmaaGreat
