/- spec's faces: TermOK, TermSize, TermCompare. -/
import Derived.Test.YthikciimaegphaaGreatDoorRgt
namespace Go.Proofs.YthikciimaegphaaGreatDoor
open Go.RowKit

theorem right_any : ∀ n, RightSaid n
  | 0 => fun t => t.elim
  | n + 1 => right_of (right_any n)

/-- Right, and not too large or too deep. -/
def okB (n : Nat) (t : Tm n) : Bool := fitsB n t && rightB n t

set_option maxHeartbeats 1000000 in
theorem sOK_any {n : Nat} (t : Tm n) (c0 c1 c2 c3 : Value) (w : World) (ht : TAt (Under w.heap.size) w n t c0 c1 c2 c3) :
    Calls Tryz.prog 16 #[.agg #[c0, c1, c2, c3]] w fun e w' => e = .returned (.bool (okB n t)) ∧ Below w.heap.size w w' := by
  obtain ⟨k0, k1, k2, k3, k4, k5, rfl, rfl, rfl, rfl⟩ := ht.shape
  have hbx := fun x : Obj => (Below.refl w.heap.size w).alloc (Nat.le_refl _) x
  have hc := hide (fun x => fits_any t _ _ _ _ (w.alloc x) (ht.up (hbx x)))
  by_cases hf : fitsB n t = true
  · rw [hf] at hc
    go_enter Tryz.func16, Tryz.ntmps16
    go_wp2_with fail
    refine ((unhide hc) _).mono ?_
    rintro e w1 ⟨rfl, hb⟩
    have hblk := hb.block w.heap.size (by simp)
    rw [heap_new] at hblk
    have hcell := cell_of_heap hblk
    clear hblk
    have hb2 := (hbx _).trans (hb.mono (by simp))
    have hr := hide (right_any n t _ _ _ _ w1 (ht.up hb2))
    go_wp2_with (go_at_call 35; refine (unhide hr).mono ?_; rintro e w' ⟨rfl, hb3⟩)
    go_ret
    exact ⟨ret_bool (by unfold okB; rw [hf]; rfl), hb2.trans (hb3.mono hb2.size)⟩
  · have hf : fitsB n t = false := by simpa using hf
    rw [hf] at hc
    go_enter Tryz.func16, Tryz.ntmps16
    go_wp2_with (go_at_call 34; refine ((unhide hc) _).mono ?_; rintro e w1 ⟨rfl, hb⟩)
    go_ret
    exact ⟨ret_bool (by unfold okB; rw [hf]; rfl), (hbx _).trans (hb.mono (by simp))⟩

/-- What TermSize answers: the number of terms, or ErrBad. -/
def sizeAns (n : Nat) (t : Tm n) : Int := if okB n t = true then siz n t else 0
def codeAns (n : Nat) (t : Tm n) : Int := if okB n t = true then 0 else 1
theorem ok_fits {n : Nat} {t : Tm n} (h : okB n t = true) : siz n t ≤ 2000 ∧ dep n t ≤ 100 := by
  unfold okB fitsB at h
  simp only [Bool.and_eq_true, decide_eq_true_eq] at h
  exact h.1

/-- What TermCompare answers. -/
def cmpAns (n m : Nat) (t : Tm n) (u : Tm m) : Int := if okB n t = true ∧ okB m u = true then cmpT n m t u else 0
def cmpCode (n m : Nat) (t : Tm n) (u : Tm m) : Int := if okB n t = true ∧ okB m u = true then 0 else 1

end Go.Proofs.YthikciimaegphaaGreatDoor
/- impl's values: how they lie in memory; cmp.Compare at its instances. -/
namespace Go.Proofs.YthikciimaegphaaGreatDoor
open Go.RowKit

/-- A row of one-cell values in blocks of which S holds; cell i stands for ks[i]. -/
def KAt {α : Type} (S : Nat → Prop) (w : World) (R : α → Value → Prop) (ks : List α) (a : Option Addr) : Prop :=
  ∀ i (h : i < ks.length), ∃ b off v, a = some ⟨b, off, none⟩ ∧ S b ∧ w.cell? ⟨b, off + i, none⟩ = some v ∧ R ks[i] v

/-- A value that stands for a term. -/
def VAt (S : Nat → Prop) (w : World) : (n : Nat) → Tm n → Value → Prop
  | 0, t => t.elim
  | n + 1, (k, m, s, ks) => fun v => In64 m ∧ s.size ≤ 2 ^ 47 ∧
    ((k = 1 ∧ v = .iface 124 (.int .i64 m)) ∨ (k = 2 ∧ v = .iface 125 (.string s)) ∨ (k = 3 ∧ v = .iface 126 (.int .i64 m)) ∨
     (k = 5 ∧ v = .iface 131 (.int .i64 m)) ∨ (k = 9 ∧ v = .iface 137 (.string s)) ∨
     (∃ a cap, KAt S w (VAt S w n) ks a ∧ ks.length / 2 ≤ cap ∧ cap ≤ 2 ^ 47 ∧
       ((k = 4 ∧ v = .iface 130 (.agg #[.int .i64 m, .slice a ks.length cap])) ∨ (k = 6 ∧ v = .iface 132 (.slice a ks.length cap)) ∨
        (k = 8 ∧ v = .iface 136 (.slice a ks.length cap)) ∨ (k = 7 ∧ v = .iface 134 (.slice a (ks.length / 2) cap)))))

theorem KAt.keep {α : Type} {S : Nat → Prop} {w w' : World} {R R' : α → Value → Prop} {ks : List α} {a : Option Addr}
    (h : KAt S w R ks a) (hk : ∀ b, S b → w'.heap[b]? = w.heap[b]?) (hR : ∀ t ∈ ks, ∀ v, R t v → R' t v) : KAt S w' R' ks a := by
  intro i hi
  obtain ⟨b, off, v, ha, hS, e, hr⟩ := h i hi
  exact ⟨b, off, v, ha, hS, by rw [World.cell?_of_block (w := w) (hk b hS), e], hR _ (List.getElem_mem hi) _ hr⟩
theorem KAt.mono {α : Type} {S S' : Nat → Prop} {w : World} {R R' : α → Value → Prop} {ks : List α} {a : Option Addr}
    (h : KAt S w R ks a) (hk : ∀ b, S b → S' b) (hR : ∀ t ∈ ks, ∀ v, R t v → R' t v) : KAt S' w R' ks a := by
  intro i hi
  obtain ⟨b, off, v, ha, hS, e, hr⟩ := h i hi
  exact ⟨b, off, v, ha, hk b hS, e, hR _ (List.getElem_mem hi) _ hr⟩

theorem VAt.keep {S : Nat → Prop} {w w' : World} (hk : ∀ b, S b → w'.heap[b]? = w.heap[b]?) : ∀ {n : Nat} {t : Tm n} {v : Value}, VAt S w n t v → VAt S w' n t v := by
  intro n
  induction n with
  | zero => intro t; exact t.elim
  | succ n ih =>
    rintro ⟨k, m, s, ks⟩ v ⟨hm, hs, h⟩
    refine ⟨hm, hs, ?_⟩
    rcases h with h | h | h | h | h | ⟨a, cap, hK, h⟩
    · exact .inl h
    · exact .inr (.inl h)
    · exact .inr (.inr (.inl h))
    · exact .inr (.inr (.inr (.inl h)))
    · exact .inr (.inr (.inr (.inr (.inl h))))
    · exact .inr (.inr (.inr (.inr (.inr ⟨a, cap, hK.keep hk fun t _ v hv => ih hv, h⟩))))
theorem VAt.mono {S S' : Nat → Prop} {w : World} (hk : ∀ b, S b → S' b) : ∀ {n : Nat} {t : Tm n} {v : Value}, VAt S w n t v → VAt S' w n t v := by
  intro n
  induction n with
  | zero => intro t; exact t.elim
  | succ n ih =>
    rintro ⟨k, m, s, ks⟩ v ⟨hm, hs, h⟩
    refine ⟨hm, hs, ?_⟩
    rcases h with h | h | h | h | h | ⟨a, cap, hK, h⟩
    · exact .inl h
    · exact .inr (.inl h)
    · exact .inr (.inr (.inl h))
    · exact .inr (.inr (.inr (.inl h)))
    · exact .inr (.inr (.inr (.inr (.inl h))))
    · exact .inr (.inr (.inr (.inr (.inr ⟨a, cap, hK.mono hk fun t _ v hv => ih hv, h⟩))))
theorem VAt.up {w w' : World} (hb : Below w.heap.size w w') {n : Nat} {t : Tm n} {v : Value} (h : VAt (Under w.heap.size) w n t v) : VAt (Under w'.heap.size) w' n t v :=
  (h.keep fun b hs => hb.block b hs).mono fun _ h => Nat.lt_of_lt_of_le h hb.size
theorem KAt.up {w w' : World} (hb : Below w.heap.size w w') {n : Nat} {ks : List (Tm n)} {a : Option Addr} (h : KAt (Under w.heap.size) w (VAt (Under w.heap.size) w n) ks a) :
    KAt (Under w'.heap.size) w' (VAt (Under w'.heap.size) w' n) ks a :=
  (h.keep (R' := VAt (Under w.heap.size) w' n) (fun b hs => hb.block b hs) fun _ _ _ hv => hv.keep fun b hs => hb.block b hs).mono (fun _ h => Nat.lt_of_lt_of_le h hb.size) fun _ _ _ hv => hv.mono fun _ h => Nat.lt_of_lt_of_le h hb.size

set_option maxHeartbeats 400000 in
theorem cmpInt_any (a b : Int) (w : World) : Calls Tryz.prog 92 #[.int .i64 a, .int .i64 b] w fun e w' => e = .returned (.int .i64 (sgn a b)) ∧ w' = w := by
  by_cases h1 : a < b
  · go_enter Tryz.func92, Tryz.ntmps92
    go_wp2
    go_ret
    exact ⟨ret_int (by simp [sgn, h1]), rfl⟩
  · by_cases h2 : b < a
    all_goals
      go_enter Tryz.func92, Tryz.ntmps92
      go_wp2
      go_ret
      exact ⟨ret_int (by unfold sgn; split <;> first | omega | (split <;> omega)), rfl⟩

set_option maxHeartbeats 400000 in
theorem cmpIv_any (a b : Int) (w : World) : Calls Tryz.prog 116 #[.int .i64 a, .int .i64 b] w fun e w' => e = .returned (.int .i64 (sgn a b)) ∧ w' = w := by
  by_cases h1 : a < b
  · go_enter Tryz.func116, Tryz.ntmps116
    go_wp2
    go_ret
    exact ⟨ret_int (by simp [sgn, h1]), rfl⟩
  · by_cases h2 : b < a
    all_goals
      go_enter Tryz.func116, Tryz.ntmps116
      go_wp2
      go_ret
      exact ⟨ret_int (by unfold sgn; split <;> first | omega | (split <;> omega)), rfl⟩

set_option maxHeartbeats 400000 in
theorem cmpRv_any (a b : Int) (w : World) : Calls Tryz.prog 128 #[.int .i64 a, .int .i64 b] w fun e w' => e = .returned (.int .i64 (sgn a b)) ∧ w' = w := by
  by_cases h1 : a < b
  · go_enter Tryz.func128, Tryz.ntmps128
    go_wp2
    go_ret
    exact ⟨ret_int (by simp [sgn, h1]), rfl⟩
  · by_cases h2 : b < a
    all_goals
      go_enter Tryz.func128, Tryz.ntmps128
      go_wp2
      go_ret
      exact ⟨ret_int (by unfold sgn; split <;> first | omega | (split <;> omega)), rfl⟩

set_option maxHeartbeats 400000 in
theorem cmpPv_any (a b : Int) (w : World) : Calls Tryz.prog 140 #[.int .i64 a, .int .i64 b] w fun e w' => e = .returned (.int .i64 (sgn a b)) ∧ w' = w := by
  by_cases h1 : a < b
  · go_enter Tryz.func140, Tryz.ntmps140
    go_wp2
    go_ret
    exact ⟨ret_int (by simp [sgn, h1]), rfl⟩
  · by_cases h2 : b < a
    all_goals
      go_enter Tryz.func140, Tryz.ntmps140
      go_wp2
      go_ret
      exact ⟨ret_int (by unfold sgn; split <;> first | omega | (split <;> omega)), rfl⟩

set_option maxHeartbeats 400000 in
theorem cmpAv_any (a b : ByteArray) (w : World) : Calls Tryz.prog 122 #[.string a, .string b] w fun e w' => e = .returned (.int .i64 (ordS a b)) ∧ w' = w := by
  by_cases h1 : Op.bytesLess a.toList b.toList = true
  · go_enter Tryz.func122, Tryz.ntmps122
    go_wp2
    go_ret
    exact ⟨ret_int (by simp [ordS, h1]), rfl⟩
  · have h1' : Op.bytesLess a.toList b.toList = false := by simpa using h1
    by_cases h2 : (a.toList == b.toList) = true
    · go_enter Tryz.func122, Tryz.ntmps122
      go_wp2
      go_ret
      exact ⟨ret_int (by unfold ordS; rw [h1', h2]; rfl), rfl⟩
    · have h2' : (a.toList == b.toList) = false := by simpa using h2
      go_enter Tryz.func122, Tryz.ntmps122
      go_wp2
      go_ret
      exact ⟨ret_int (by unfold ordS; rw [h1', h2']; rfl), rfl⟩

set_option maxHeartbeats 400000 in
theorem cmpBv_any (a b : ByteArray) (w : World) : Calls Tryz.prog 162 #[.string a, .string b] w fun e w' => e = .returned (.int .i64 (ordS a b)) ∧ w' = w := by
  by_cases h1 : Op.bytesLess a.toList b.toList = true
  · go_enter Tryz.func162, Tryz.ntmps162
    go_wp2
    go_ret
    exact ⟨ret_int (by simp [ordS, h1]), rfl⟩
  · have h1' : Op.bytesLess a.toList b.toList = false := by simpa using h1
    by_cases h2 : (a.toList == b.toList) = true
    · go_enter Tryz.func162, Tryz.ntmps162
      go_wp2
      go_ret
      exact ⟨ret_int (by unfold ordS; rw [h1', h2]; rfl), rfl⟩
    · have h2' : (a.toList == b.toList) = false := by simpa using h2
      go_enter Tryz.func162, Tryz.ntmps162
      go_wp2
      go_ret
      exact ⟨ret_int (by unfold ordS; rw [h1', h2']; rfl), rfl⟩

end Go.Proofs.YthikciimaegphaaGreatDoor
