/- spec's faces: TermOK, TermSize, TermCompare. -/
import Derived.Test.YthfjgffhncogaaaGreatRgt
namespace Go.Proofs.YthfjgffhncogaaaGreat
open Go.RowKit

theorem right_any : ∀ n, RightSaid n
  | 0 => fun t => t.elim
  | n + 1 => right_of (right_any n)

/-- Right, and not too large or too deep. -/
def okB (n : Nat) (t : Tm n) : Bool := fitsB n t && rightB n t

set_option maxHeartbeats 1000000 in
theorem sOK_any {n : Nat} (t : Tm n) (c0 c1 c2 c3 : Value) (w : World) (ht : TAt (Under w.heap.size) w n t c0 c1 c2 c3) :
    Calls Tryz.prog 28 #[.agg #[c0, c1, c2, c3]] w fun e w' => e = .returned (.bool (okB n t)) ∧ Below w.heap.size w w' := by
  obtain ⟨k0, k1, k2, k3, k4, k5, rfl, rfl, rfl, rfl⟩ := ht.shape
  have hbx := fun x : Obj => (Below.refl w.heap.size w).alloc (Nat.le_refl _) x
  have hc := hide (fun x => fits_any t _ _ _ _ (w.alloc x) (ht.up (hbx x)))
  by_cases hf : fitsB n t = true
  · rw [hf] at hc
    go_enter Tryz.func28, Tryz.ntmps28
    go_wp2_with fail
    refine ((unhide hc) _).mono ?_
    rintro e w1 ⟨rfl, hb⟩
    have hblk := hb.block w.heap.size (by simp)
    rw [heap_new] at hblk
    have hcell := cell_of_heap hblk
    clear hblk
    have hb2 := (hbx _).trans (hb.mono (by simp))
    have hr := hide (right_any n t _ _ _ _ w1 (ht.up hb2))
    go_wp2_with (go_at_call 60; refine (unhide hr).mono ?_; rintro e w' ⟨rfl, hb3⟩)
    go_ret
    exact ⟨ret_bool (by unfold okB; rw [hf]; rfl), hb2.trans (hb3.mono hb2.size)⟩
  · have hf : fitsB n t = false := by simpa using hf
    rw [hf] at hc
    go_enter Tryz.func28, Tryz.ntmps28
    go_wp2_with (go_at_call 59; refine ((unhide hc) _).mono ?_; rintro e w1 ⟨rfl, hb⟩)
    go_ret
    exact ⟨ret_bool (by unfold okB; rw [hf]; rfl), (hbx _).trans (hb.mono (by simp))⟩

/-- What TermSize answers: the number of terms, or ErrBad. -/
def sizeAns (n : Nat) (t : Tm n) : Int := if okB n t = true then siz n t else 0
def codeAns (n : Nat) (t : Tm n) : Int := if okB n t = true then 0 else 1
theorem ok_fits {n : Nat} {t : Tm n} (h : okB n t = true) : siz n t ≤ 2000 ∧ dep n t ≤ 100 := by
  unfold okB fitsB at h
  simp only [Bool.and_eq_true, decide_eq_true_eq] at h
  exact h.1

/-- What TermCompare answers. -/
def cmpAns (n m : Nat) (t : Tm n) (u : Tm m) : Int := if okB n t = true ∧ okB m u = true then cmpT n m t u else 0
def cmpCode (n m : Nat) (t : Tm n) (u : Tm m) : Int := if okB n t = true ∧ okB m u = true then 0 else 1

end Go.Proofs.YthfjgffhncogaaaGreat
/- impl's values: how they lie in memory; cmp.Compare at its instances. -/
namespace Go.Proofs.YthfjgffhncogaaaGreat
open Go.RowKit

/-- A row of one-cell values in blocks of which S holds; cell i stands for ks[i]. -/
def KAt {α : Type} (S : Nat → Prop) (w : World) (R : α → Value → Prop) (ks : List α) (a : Option Addr) : Prop :=
  ∀ i (h : i < ks.length), ∃ b off v, a = some ⟨b, off, none⟩ ∧ S b ∧ w.cell? ⟨b, off + i, none⟩ = some v ∧ R ks[i] v

/-- A value that stands for a term. -/
def VAt (S : Nat → Prop) (w : World) : (n : Nat) → Tm n → Value → Prop
  | 0, t => t.elim
  | n + 1, (k, m, s, ks) => fun v => In64 m ∧ s.size ≤ 2 ^ 47 ∧
    ((k = 1 ∧ v = .iface 101 (.int .i64 m)) ∨ (k = 2 ∧ v = .iface 100 (.string s)) ∨ (k = 3 ∧ v = .iface 102 (.int .i64 m)) ∨
     (k = 5 ∧ v = .iface 103 (.int .i64 m)) ∨ (k = 9 ∧ v = .iface 116 (.string s)) ∨
     (∃ a cap, KAt S w (VAt S w n) ks a ∧ ks.length / 2 ≤ cap ∧ cap ≤ 2 ^ 47 ∧
       ((k = 4 ∧ v = .iface 108 (.agg #[.int .i64 m, .slice a ks.length cap])) ∨ (k = 6 ∧ v = .iface 111 (.slice a ks.length cap)) ∨
        (k = 8 ∧ v = .iface 115 (.slice a ks.length cap)) ∨ (k = 7 ∧ v = .iface 113 (.slice a (ks.length / 2) cap)))))

theorem KAt.keep {α : Type} {S : Nat → Prop} {w w' : World} {R R' : α → Value → Prop} {ks : List α} {a : Option Addr}
    (h : KAt S w R ks a) (hk : ∀ b, S b → w'.heap[b]? = w.heap[b]?) (hR : ∀ t ∈ ks, ∀ v, R t v → R' t v) : KAt S w' R' ks a := by
  intro i hi
  obtain ⟨b, off, v, ha, hS, e, hr⟩ := h i hi
  exact ⟨b, off, v, ha, hS, by rw [World.cell?_of_block (w := w) (hk b hS), e], hR _ (List.getElem_mem hi) _ hr⟩
theorem KAt.mono {α : Type} {S S' : Nat → Prop} {w : World} {R R' : α → Value → Prop} {ks : List α} {a : Option Addr}
    (h : KAt S w R ks a) (hk : ∀ b, S b → S' b) (hR : ∀ t ∈ ks, ∀ v, R t v → R' t v) : KAt S' w R' ks a := by
  intro i hi
  obtain ⟨b, off, v, ha, hS, e, hr⟩ := h i hi
  exact ⟨b, off, v, ha, hk b hS, e, hR _ (List.getElem_mem hi) _ hr⟩

theorem VAt.keep {S : Nat → Prop} {w w' : World} (hk : ∀ b, S b → w'.heap[b]? = w.heap[b]?) : ∀ {n : Nat} {t : Tm n} {v : Value}, VAt S w n t v → VAt S w' n t v := by
  intro n
  induction n with
  | zero => intro t; exact t.elim
  | succ n ih =>
    rintro ⟨k, m, s, ks⟩ v ⟨hm, hs, h⟩
    refine ⟨hm, hs, ?_⟩
    rcases h with h | h | h | h | h | ⟨a, cap, hK, h⟩
    · exact .inl h
    · exact .inr (.inl h)
    · exact .inr (.inr (.inl h))
    · exact .inr (.inr (.inr (.inl h)))
    · exact .inr (.inr (.inr (.inr (.inl h))))
    · exact .inr (.inr (.inr (.inr (.inr ⟨a, cap, hK.keep hk fun t _ v hv => ih hv, h⟩))))
theorem VAt.mono {S S' : Nat → Prop} {w : World} (hk : ∀ b, S b → S' b) : ∀ {n : Nat} {t : Tm n} {v : Value}, VAt S w n t v → VAt S' w n t v := by
  intro n
  induction n with
  | zero => intro t; exact t.elim
  | succ n ih =>
    rintro ⟨k, m, s, ks⟩ v ⟨hm, hs, h⟩
    refine ⟨hm, hs, ?_⟩
    rcases h with h | h | h | h | h | ⟨a, cap, hK, h⟩
    · exact .inl h
    · exact .inr (.inl h)
    · exact .inr (.inr (.inl h))
    · exact .inr (.inr (.inr (.inl h)))
    · exact .inr (.inr (.inr (.inr (.inl h))))
    · exact .inr (.inr (.inr (.inr (.inr ⟨a, cap, hK.mono hk fun t _ v hv => ih hv, h⟩))))
theorem VAt.up {w w' : World} (hb : Below w.heap.size w w') {n : Nat} {t : Tm n} {v : Value} (h : VAt (Under w.heap.size) w n t v) : VAt (Under w'.heap.size) w' n t v :=
  (h.keep fun b hs => hb.block b hs).mono fun _ h => Nat.lt_of_lt_of_le h hb.size
theorem KAt.up {w w' : World} (hb : Below w.heap.size w w') {n : Nat} {ks : List (Tm n)} {a : Option Addr} (h : KAt (Under w.heap.size) w (VAt (Under w.heap.size) w n) ks a) :
    KAt (Under w'.heap.size) w' (VAt (Under w'.heap.size) w' n) ks a :=
  (h.keep (R' := VAt (Under w.heap.size) w' n) (fun b hs => hb.block b hs) fun _ _ _ hv => hv.keep fun b hs => hb.block b hs).mono (fun _ h => Nat.lt_of_lt_of_le h hb.size) fun _ _ _ hv => hv.mono fun _ h => Nat.lt_of_lt_of_le h hb.size

set_option maxHeartbeats 400000 in
theorem cmpInt_any (a b : Int) (w : World) : Calls Tryz.prog 128 #[.int .i64 a, .int .i64 b] w fun e w' => e = .returned (.int .i64 (sgn a b)) ∧ w' = w := by
  by_cases h1 : a < b
  · go_enter Tryz.func128, Tryz.ntmps128
    go_wp2
    go_ret
    exact ⟨ret_int (by simp [sgn, h1]), rfl⟩
  · by_cases h2 : b < a
    all_goals
      go_enter Tryz.func128, Tryz.ntmps128
      go_wp2
      go_ret
      exact ⟨ret_int (by unfold sgn; split <;> first | omega | (split <;> omega)), rfl⟩

set_option maxHeartbeats 400000 in
theorem cmpIv_any (a b : Int) (w : World) : Calls Tryz.prog 164 #[.int .i64 a, .int .i64 b] w fun e w' => e = .returned (.int .i64 (sgn a b)) ∧ w' = w := by
  by_cases h1 : a < b
  · go_enter Tryz.func164, Tryz.ntmps164
    go_wp2
    go_ret
    exact ⟨ret_int (by simp [sgn, h1]), rfl⟩
  · by_cases h2 : b < a
    all_goals
      go_enter Tryz.func164, Tryz.ntmps164
      go_wp2
      go_ret
      exact ⟨ret_int (by unfold sgn; split <;> first | omega | (split <;> omega)), rfl⟩

set_option maxHeartbeats 400000 in
theorem cmpRv_any (a b : Int) (w : World) : Calls Tryz.prog 185 #[.int .i64 a, .int .i64 b] w fun e w' => e = .returned (.int .i64 (sgn a b)) ∧ w' = w := by
  by_cases h1 : a < b
  · go_enter Tryz.func185, Tryz.ntmps185
    go_wp2
    go_ret
    exact ⟨ret_int (by simp [sgn, h1]), rfl⟩
  · by_cases h2 : b < a
    all_goals
      go_enter Tryz.func185, Tryz.ntmps185
      go_wp2
      go_ret
      exact ⟨ret_int (by unfold sgn; split <;> first | omega | (split <;> omega)), rfl⟩

set_option maxHeartbeats 400000 in
theorem cmpPv_any (a b : Int) (w : World) : Calls Tryz.prog 191 #[.int .i64 a, .int .i64 b] w fun e w' => e = .returned (.int .i64 (sgn a b)) ∧ w' = w := by
  by_cases h1 : a < b
  · go_enter Tryz.func191, Tryz.ntmps191
    go_wp2
    go_ret
    exact ⟨ret_int (by simp [sgn, h1]), rfl⟩
  · by_cases h2 : b < a
    all_goals
      go_enter Tryz.func191, Tryz.ntmps191
      go_wp2
      go_ret
      exact ⟨ret_int (by unfold sgn; split <;> first | omega | (split <;> omega)), rfl⟩

set_option maxHeartbeats 400000 in
theorem cmpAv_any (a b : ByteArray) (w : World) : Calls Tryz.prog 158 #[.string a, .string b] w fun e w' => e = .returned (.int .i64 (ordS a b)) ∧ w' = w := by
  by_cases h1 : Op.bytesLess a.toList b.toList = true
  · go_enter Tryz.func158, Tryz.ntmps158
    go_wp2
    go_ret
    exact ⟨ret_int (by simp [ordS, h1]), rfl⟩
  · have h1' : Op.bytesLess a.toList b.toList = false := by simpa using h1
    by_cases h2 : (a.toList == b.toList) = true
    · go_enter Tryz.func158, Tryz.ntmps158
      go_wp2
      go_ret
      exact ⟨ret_int (by unfold ordS; rw [h1', h2]; rfl), rfl⟩
    · have h2' : (a.toList == b.toList) = false := by simpa using h2
      go_enter Tryz.func158, Tryz.ntmps158
      go_wp2
      go_ret
      exact ⟨ret_int (by unfold ordS; rw [h1', h2']; rfl), rfl⟩

set_option maxHeartbeats 400000 in
theorem cmpBv_any (a b : ByteArray) (w : World) : Calls Tryz.prog 222 #[.string a, .string b] w fun e w' => e = .returned (.int .i64 (ordS a b)) ∧ w' = w := by
  by_cases h1 : Op.bytesLess a.toList b.toList = true
  · go_enter Tryz.func222, Tryz.ntmps222
    go_wp2
    go_ret
    exact ⟨ret_int (by simp [ordS, h1]), rfl⟩
  · have h1' : Op.bytesLess a.toList b.toList = false := by simpa using h1
    by_cases h2 : (a.toList == b.toList) = true
    · go_enter Tryz.func222, Tryz.ntmps222
      go_wp2
      go_ret
      exact ⟨ret_int (by unfold ordS; rw [h1', h2]; rfl), rfl⟩
    · have h2' : (a.toList == b.toList) = false := by simpa using h2
      go_enter Tryz.func222, Tryz.ntmps222
      go_wp2
      go_ret
      exact ⟨ret_int (by unfold ordS; rw [h1', h2']; rfl), rfl⟩

end Go.Proofs.YthfjgffhncogaaaGreat
/- impl's order: slices.CompareFunc at its instances, the methods, orderOf. -/
namespace Go.Proofs.YthfjgffhncogaaaGreat
open Go.RowKit

def OrdSaid (n m : Nat) : Prop := ∀ (t : Tm n) (u : Tm m) (v v' : Value) (w : World), VAt (Under w.heap.size) w n t v → VAt (Under w.heap.size) w m u v' → rightB n t = true → rightB m u = true →
  Calls Tryz.prog 120 #[v, v'] w fun e w' => e = .returned (.int .i64 (cmpT n m t u)) ∧ Below w.heap.size w w'

/-- What CompareFunc answers, the first that tells them apart being e. -/
def cfT (e : Int) (l l' : Nat) : Int := if e = 0 then sgn l l' else e
theorem cfT_lt {l l' : Nat} (h : l' < l) : cfT 0 l l' = 1 := by unfold cfT sgn; rw [if_pos rfl, if_neg (by omega), if_pos (by omega)]
theorem cfT_gt {l l' : Nat} (h : l < l') : cfT 0 l l' = -1 := by unfold cfT sgn; rw [if_pos rfl, if_pos (by omega)]
theorem cfT_eq {l l' : Nat} (h : l = l') : cfT 0 l l' = 0 := by unfold cfT sgn; rw [if_pos rfl, if_neg (by omega), if_neg (by omega)]
theorem cfT_ne {e : Int} {l l' : Nat} (h : e ≠ 0) : cfT e l l' = e := if_neg h

theorem bone {W w1 : World} (hb : Below W.heap.size W w1) {b o : Nat} {v : Value} (h : b < W.heap.size) (e : W.cell? ⟨b, o, none⟩ = some v) : w1.cell? ⟨b, o, none⟩ = some v := (bcell hb b o h).trans e

def CfVSaid (n m : Nat) : Prop := ∀ (ks : List (Tm n)) (ls : List (Tm m)) (a a' : Option Addr) (cap cap' : Nat) (w : World), KAt (Under w.heap.size) w (VAt (Under w.heap.size) w n) ks a →
  KAt (Under w.heap.size) w (VAt (Under w.heap.size) w m) ls a' → ks.length / 2 ≤ cap → cap ≤ 2 ^ 47 → ls.length / 2 ≤ cap' → cap' ≤ 2 ^ 47 → ks.all (rightB n) = true → ls.all (rightB m) = true →
  Calls Tryz.prog 200 #[.slice a ks.length cap, .slice a' ls.length cap', .func (.func 120) #[] #[]] w
    fun e w' => e = .returned (.int .i64 (cfT (eachI (cmpT n m) ks ls 1 ks.length 0) ks.length ls.length)) ∧ Below w.heap.size w w'

set_option maxHeartbeats 2000000 in
theorem cfV_of {n m : Nat} (h : OrdSaid n m) : CfVSaid n m := by
  intro ks ls a a' cap cap' w hu hv hc1 hc2 hc3 hc4 hr1 hr2
  have HR1 := hide (List.all_eq_true.1 hr1)
  have HR2 := hide (List.all_eq_true.1 hr2)
  clear hr1 hr2
  go_enter Tryz.func200, Tryz.ntmps200
  go_wp2_with fail
  go_loopw [13] (fun iv wr => ∃ k fuel : Nat, iv = .int .i64 k ∧ k ≤ ks.length ∧ k ≤ ls.length ∧ ks.length ≤ k + fuel ∧ eachI (cmpT n m) ks ls 1 ks.length 0 = eachI (cmpT n m) ks ls 1 fuel k ∧ Below w.heap.size w wr) (fun iv _ => ks.length - (intOf iv).toNat)
  case atStart => exact ⟨0, ks.length, rfl, Nat.zero_le _, Nat.zero_le _, by omega, rfl, Below.refl _ _⟩
  case round =>
    obtain ⟨k, fuel, rfl, hk1, hk2, hk3, heq, hb⟩ := hrel
    by_cases hlt : k < ks.length
    · obtain ⟨b, off, v1, rfl, hS, e1, hv1⟩ := hu k hlt
      have g1 := bone hb hS e1
      by_cases hlt' : k < ls.length
      · obtain ⟨fuel, rfl⟩ : ∃ f, fuel = f + 1 := ⟨fuel - 1, by omega⟩
        rw [eachI_in _ _ _ _ _ _ hlt hlt'] at heq
        obtain ⟨b', off', v2, rfl, hS', e2, hv2⟩ := hv k hlt'
        have g2 := bone hb hS' e2
        have hc := hide (h ks[k] ls[k] v1 v2 wr (hv1.up hb) (hv2.up hb) (unhide HR1 _ (List.getElem_mem hlt)) (unhide HR2 _ (List.getElem_mem hlt')))
        clear e1 e2
        by_cases hz : cmpT n m ks[k] ls[k] = 0
        · rw [hz] at hc
          rw [if_pos hz] at heq
          have HE := hide heq
          clear heq hz
          go_wp2_with (go_at_call 120; refine (unhide hc).mono ?_; rintro e w' ⟨rfl, hb2⟩)
          go_roundw
          case rel => exact ⟨k + 1, fuel, by go_num, by omega, by omega, by omega, unhide HE, hb.trans (hb2.mono hb.size)⟩
          case measure => simp [intOf]; omega
        · rw [if_neg hz] at heq
          have HE := hide heq
          have HZ := hide hz
          have hz2 : (cmpT n m ks[k] ls[k] != 0) = true := by simpa using hz
          clear heq hz
          go_wp2_with (go_at_call 120; refine (unhide hc).mono ?_; rintro e w' ⟨rfl, hb2⟩)
          go_ret
          exact ⟨ret_int (by rw [unhide HE, cfT_ne (unhide HZ)]), hb.trans (hb2.mono hb.size)⟩
      · rw [eachI_out (cmpT n m) ks ls 1 fuel k (.inr (by omega))] at heq
        have HE := hide heq
        clear heq
        go_wp2_with fail
        go_ret
        exact ⟨ret_int (by rw [unhide HE, cfT_lt (by omega)]), hb⟩
    · rw [eachI_out (cmpT n m) ks ls 1 fuel k (.inl (by omega))] at heq
      have HE := hide heq
      clear heq
      by_cases hll : ks.length < ls.length
      · go_wp2_with fail
        go_ret
        exact ⟨ret_int (by rw [unhide HE, cfT_gt hll]), hb⟩
      · go_wp2_with fail
        go_ret
        exact ⟨ret_int (by rw [unhide HE, cfT_eq (by omega)]), hb⟩

def CfLSaid (n m : Nat) : Prop := ∀ (ks : List (Tm n)) (ls : List (Tm m)) (a a' : Option Addr) (cap cap' : Nat) (w : World), KAt (Under w.heap.size) w (VAt (Under w.heap.size) w n) ks a →
  KAt (Under w.heap.size) w (VAt (Under w.heap.size) w m) ls a' → ks.length / 2 ≤ cap → cap ≤ 2 ^ 47 → ls.length / 2 ≤ cap' → cap' ≤ 2 ^ 47 → ks.all (rightB n) = true → ls.all (rightB m) = true →
  Calls Tryz.prog 216 #[.slice a ks.length cap, .slice a' ls.length cap', .func (.func 120) #[] #[]] w
    fun e w' => e = .returned (.int .i64 (cfT (eachI (cmpT n m) ks ls 1 ks.length 0) ks.length ls.length)) ∧ Below w.heap.size w w'

set_option maxHeartbeats 2000000 in
theorem cfL_of {n m : Nat} (h : OrdSaid n m) : CfLSaid n m := by
  intro ks ls a a' cap cap' w hu hv hc1 hc2 hc3 hc4 hr1 hr2
  have HR1 := hide (List.all_eq_true.1 hr1)
  have HR2 := hide (List.all_eq_true.1 hr2)
  clear hr1 hr2
  go_enter Tryz.func216, Tryz.ntmps216
  go_wp2_with fail
  go_loopw [13] (fun iv wr => ∃ k fuel : Nat, iv = .int .i64 k ∧ k ≤ ks.length ∧ k ≤ ls.length ∧ ks.length ≤ k + fuel ∧ eachI (cmpT n m) ks ls 1 ks.length 0 = eachI (cmpT n m) ks ls 1 fuel k ∧ Below w.heap.size w wr) (fun iv _ => ks.length - (intOf iv).toNat)
  case atStart => exact ⟨0, ks.length, rfl, Nat.zero_le _, Nat.zero_le _, by omega, rfl, Below.refl _ _⟩
  case round =>
    obtain ⟨k, fuel, rfl, hk1, hk2, hk3, heq, hb⟩ := hrel
    by_cases hlt : k < ks.length
    · obtain ⟨b, off, v1, rfl, hS, e1, hv1⟩ := hu k hlt
      have g1 := bone hb hS e1
      by_cases hlt' : k < ls.length
      · obtain ⟨fuel, rfl⟩ : ∃ f, fuel = f + 1 := ⟨fuel - 1, by omega⟩
        rw [eachI_in _ _ _ _ _ _ hlt hlt'] at heq
        obtain ⟨b', off', v2, rfl, hS', e2, hv2⟩ := hv k hlt'
        have g2 := bone hb hS' e2
        have hc := hide (h ks[k] ls[k] v1 v2 wr (hv1.up hb) (hv2.up hb) (unhide HR1 _ (List.getElem_mem hlt)) (unhide HR2 _ (List.getElem_mem hlt')))
        clear e1 e2
        by_cases hz : cmpT n m ks[k] ls[k] = 0
        · rw [hz] at hc
          rw [if_pos hz] at heq
          have HE := hide heq
          clear heq hz
          go_wp2_with (go_at_call 120; refine (unhide hc).mono ?_; rintro e w' ⟨rfl, hb2⟩)
          go_roundw
          case rel => exact ⟨k + 1, fuel, by go_num, by omega, by omega, by omega, unhide HE, hb.trans (hb2.mono hb.size)⟩
          case measure => simp [intOf]; omega
        · rw [if_neg hz] at heq
          have HE := hide heq
          have HZ := hide hz
          have hz2 : (cmpT n m ks[k] ls[k] != 0) = true := by simpa using hz
          clear heq hz
          go_wp2_with (go_at_call 120; refine (unhide hc).mono ?_; rintro e w' ⟨rfl, hb2⟩)
          go_ret
          exact ⟨ret_int (by rw [unhide HE, cfT_ne (unhide HZ)]), hb.trans (hb2.mono hb.size)⟩
      · rw [eachI_out (cmpT n m) ks ls 1 fuel k (.inr (by omega))] at heq
        have HE := hide heq
        clear heq
        go_wp2_with fail
        go_ret
        exact ⟨ret_int (by rw [unhide HE, cfT_lt (by omega)]), hb⟩
    · rw [eachI_out (cmpT n m) ks ls 1 fuel k (.inl (by omega))] at heq
      have HE := hide heq
      clear heq
      by_cases hll : ks.length < ls.length
      · go_wp2_with fail
        go_ret
        exact ⟨ret_int (by rw [unhide HE, cfT_gt hll]), hb⟩
      · go_wp2_with fail
        go_ret
        exact ⟨ret_int (by rw [unhide HE, cfT_eq (by omega)]), hb⟩

end Go.Proofs.YthfjgffhncogaaaGreat
