/- impl's values: how they lie in memory; cmp.Compare at its instances. -/
import Derived.Test.YtcgbonlffcpofaaGreatDoorQ8
namespace Go.Proofs.YtcgbonlffcpofaaGreatDoor
open Go.RowKit

/-- A row of one-cell values in blocks of which S holds; cell i stands for ks[i]. -/
def KAt {α : Type} (S : Nat → Prop) (w : World) (R : α → Value → Prop) (ks : List α) (a : Option Addr) : Prop :=
  ∀ i (h : i < ks.length), ∃ b off v, a = some ⟨b, off, none⟩ ∧ S b ∧ w.cell? ⟨b, off + i, none⟩ = some v ∧ R ks[i] v

/-- A value that stands for a term. -/
def VAt (S : Nat → Prop) (w : World) : (n : Nat) → Tm n → Value → Prop
  | 0, t => t.elim
  | n + 1, (k, m, s, ks) => fun v => In64 m ∧ s.size ≤ 2 ^ 47 ∧
    ((k = 1 ∧ v = .iface 104 (.int .i64 m)) ∨ (k = 2 ∧ v = .iface 105 (.string s)) ∨ (k = 3 ∧ v = .iface 106 (.int .i64 m)) ∨
     (k = 5 ∧ v = .iface 111 (.int .i64 m)) ∨ (k = 9 ∧ v = .iface 117 (.string s)) ∨
     (∃ a cap, KAt S w (VAt S w n) ks a ∧ ks.length / 2 ≤ cap ∧ cap ≤ 2 ^ 47 ∧
       ((k = 4 ∧ v = .iface 110 (.agg #[.int .i64 m, .slice a ks.length cap])) ∨ (k = 6 ∧ v = .iface 112 (.slice a ks.length cap)) ∨
        (k = 8 ∧ v = .iface 116 (.slice a ks.length cap)) ∨ (k = 7 ∧ v = .iface 114 (.slice a (ks.length / 2) cap)))))

theorem KAt.keep {α : Type} {S : Nat → Prop} {w w' : World} {R R' : α → Value → Prop} {ks : List α} {a : Option Addr}
    (h : KAt S w R ks a) (hk : ∀ b, S b → w'.heap[b]? = w.heap[b]?) (hR : ∀ t ∈ ks, ∀ v, R t v → R' t v) : KAt S w' R' ks a := by
  intro i hi
  obtain ⟨b, off, v, ha, hS, e, hr⟩ := h i hi
  exact ⟨b, off, v, ha, hS, by rw [World.cell?_of_block (w := w) (hk b hS), e], hR _ (List.getElem_mem hi) _ hr⟩
theorem KAt.mono {α : Type} {S S' : Nat → Prop} {w : World} {R R' : α → Value → Prop} {ks : List α} {a : Option Addr}
    (h : KAt S w R ks a) (hk : ∀ b, S b → S' b) (hR : ∀ t ∈ ks, ∀ v, R t v → R' t v) : KAt S' w R' ks a := by
  intro i hi
  obtain ⟨b, off, v, ha, hS, e, hr⟩ := h i hi
  exact ⟨b, off, v, ha, hk b hS, e, hR _ (List.getElem_mem hi) _ hr⟩

theorem VAt.keep {S : Nat → Prop} {w w' : World} (hk : ∀ b, S b → w'.heap[b]? = w.heap[b]?) : ∀ {n : Nat} {t : Tm n} {v : Value}, VAt S w n t v → VAt S w' n t v := by
  intro n
  induction n with
  | zero => intro t; exact t.elim
  | succ n ih =>
    rintro ⟨k, m, s, ks⟩ v ⟨hm, hs, h⟩
    refine ⟨hm, hs, ?_⟩
    rcases h with h | h | h | h | h | ⟨a, cap, hK, h⟩
    · exact .inl h
    · exact .inr (.inl h)
    · exact .inr (.inr (.inl h))
    · exact .inr (.inr (.inr (.inl h)))
    · exact .inr (.inr (.inr (.inr (.inl h))))
    · exact .inr (.inr (.inr (.inr (.inr ⟨a, cap, hK.keep hk fun t _ v hv => ih hv, h⟩))))
theorem VAt.mono {S S' : Nat → Prop} {w : World} (hk : ∀ b, S b → S' b) : ∀ {n : Nat} {t : Tm n} {v : Value}, VAt S w n t v → VAt S' w n t v := by
  intro n
  induction n with
  | zero => intro t; exact t.elim
  | succ n ih =>
    rintro ⟨k, m, s, ks⟩ v ⟨hm, hs, h⟩
    refine ⟨hm, hs, ?_⟩
    rcases h with h | h | h | h | h | ⟨a, cap, hK, h⟩
    · exact .inl h
    · exact .inr (.inl h)
    · exact .inr (.inr (.inl h))
    · exact .inr (.inr (.inr (.inl h)))
    · exact .inr (.inr (.inr (.inr (.inl h))))
    · exact .inr (.inr (.inr (.inr (.inr ⟨a, cap, hK.mono hk fun t _ v hv => ih hv, h⟩))))
theorem VAt.up {w w' : World} (hb : Below w.heap.size w w') {n : Nat} {t : Tm n} {v : Value} (h : VAt (Under w.heap.size) w n t v) : VAt (Under w'.heap.size) w' n t v :=
  (h.keep fun b hs => hb.block b hs).mono fun _ h => Nat.lt_of_lt_of_le h hb.size
theorem KAt.up {w w' : World} (hb : Below w.heap.size w w') {n : Nat} {ks : List (Tm n)} {a : Option Addr} (h : KAt (Under w.heap.size) w (VAt (Under w.heap.size) w n) ks a) :
    KAt (Under w'.heap.size) w' (VAt (Under w'.heap.size) w' n) ks a :=
  (h.keep (R' := VAt (Under w.heap.size) w' n) (fun b hs => hb.block b hs) fun _ _ _ hv => hv.keep fun b hs => hb.block b hs).mono (fun _ h => Nat.lt_of_lt_of_le h hb.size) fun _ _ _ hv => hv.mono fun _ h => Nat.lt_of_lt_of_le h hb.size

set_option maxHeartbeats 400000 in
theorem cmpInt_any (a b : Int) (w : World) : Calls Tryz.prog 78 #[.int .i64 a, .int .i64 b] w fun e w' => e = .returned (.int .i64 (sgn a b)) ∧ w' = w := by
  by_cases h1 : a < b
  · go_enter Tryz.func78, Tryz.ntmps78
    go_wp2
    go_ret
    exact ⟨ret_int (by simp [sgn, h1]), rfl⟩
  · by_cases h2 : b < a
    all_goals
      go_enter Tryz.func78, Tryz.ntmps78
      go_wp2
      go_ret
      exact ⟨ret_int (by unfold sgn; split <;> first | omega | (split <;> omega)), rfl⟩

set_option maxHeartbeats 400000 in
theorem cmpIv_any (a b : Int) (w : World) : Calls Tryz.prog 102 #[.int .i64 a, .int .i64 b] w fun e w' => e = .returned (.int .i64 (sgn a b)) ∧ w' = w := by
  by_cases h1 : a < b
  · go_enter Tryz.func102, Tryz.ntmps102
    go_wp2
    go_ret
    exact ⟨ret_int (by simp [sgn, h1]), rfl⟩
  · by_cases h2 : b < a
    all_goals
      go_enter Tryz.func102, Tryz.ntmps102
      go_wp2
      go_ret
      exact ⟨ret_int (by unfold sgn; split <;> first | omega | (split <;> omega)), rfl⟩

set_option maxHeartbeats 400000 in
theorem cmpRv_any (a b : Int) (w : World) : Calls Tryz.prog 114 #[.int .i64 a, .int .i64 b] w fun e w' => e = .returned (.int .i64 (sgn a b)) ∧ w' = w := by
  by_cases h1 : a < b
  · go_enter Tryz.func114, Tryz.ntmps114
    go_wp2
    go_ret
    exact ⟨ret_int (by simp [sgn, h1]), rfl⟩
  · by_cases h2 : b < a
    all_goals
      go_enter Tryz.func114, Tryz.ntmps114
      go_wp2
      go_ret
      exact ⟨ret_int (by unfold sgn; split <;> first | omega | (split <;> omega)), rfl⟩

set_option maxHeartbeats 400000 in
theorem cmpPv_any (a b : Int) (w : World) : Calls Tryz.prog 126 #[.int .i64 a, .int .i64 b] w fun e w' => e = .returned (.int .i64 (sgn a b)) ∧ w' = w := by
  by_cases h1 : a < b
  · go_enter Tryz.func126, Tryz.ntmps126
    go_wp2
    go_ret
    exact ⟨ret_int (by simp [sgn, h1]), rfl⟩
  · by_cases h2 : b < a
    all_goals
      go_enter Tryz.func126, Tryz.ntmps126
      go_wp2
      go_ret
      exact ⟨ret_int (by unfold sgn; split <;> first | omega | (split <;> omega)), rfl⟩

set_option maxHeartbeats 400000 in
theorem cmpAv_any (a b : ByteArray) (w : World) : Calls Tryz.prog 108 #[.string a, .string b] w fun e w' => e = .returned (.int .i64 (ordS a b)) ∧ w' = w := by
  by_cases h1 : Op.bytesLess a.toList b.toList = true
  · go_enter Tryz.func108, Tryz.ntmps108
    go_wp2
    go_ret
    exact ⟨ret_int (by simp [ordS, h1]), rfl⟩
  · have h1' : Op.bytesLess a.toList b.toList = false := by simpa using h1
    by_cases h2 : (a.toList == b.toList) = true
    · go_enter Tryz.func108, Tryz.ntmps108
      go_wp2
      go_ret
      exact ⟨ret_int (by unfold ordS; rw [h1', h2]; rfl), rfl⟩
    · have h2' : (a.toList == b.toList) = false := by simpa using h2
      go_enter Tryz.func108, Tryz.ntmps108
      go_wp2
      go_ret
      exact ⟨ret_int (by unfold ordS; rw [h1', h2']; rfl), rfl⟩

set_option maxHeartbeats 400000 in
theorem cmpBv_any (a b : ByteArray) (w : World) : Calls Tryz.prog 148 #[.string a, .string b] w fun e w' => e = .returned (.int .i64 (ordS a b)) ∧ w' = w := by
  by_cases h1 : Op.bytesLess a.toList b.toList = true
  · go_enter Tryz.func148, Tryz.ntmps148
    go_wp2
    go_ret
    exact ⟨ret_int (by simp [ordS, h1]), rfl⟩
  · have h1' : Op.bytesLess a.toList b.toList = false := by simpa using h1
    by_cases h2 : (a.toList == b.toList) = true
    · go_enter Tryz.func148, Tryz.ntmps148
      go_wp2
      go_ret
      exact ⟨ret_int (by unfold ordS; rw [h1', h2]; rfl), rfl⟩
    · have h2' : (a.toList == b.toList) = false := by simpa using h2
      go_enter Tryz.func148, Tryz.ntmps148
      go_wp2
      go_ret
      exact ⟨ret_int (by unfold ordS; rw [h1', h2']; rfl), rfl⟩

end Go.Proofs.YtcgbonlffcpofaaGreatDoor
