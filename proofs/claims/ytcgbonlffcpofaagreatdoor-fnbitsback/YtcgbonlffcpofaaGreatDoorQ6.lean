/- Letters, digits, names: the bytes' tests and the names' of both packages. -/
import Derived.Test.YtcgbonlffcpofaaGreatDoorQ2
namespace Go.Proofs.YtcgbonlffcpofaaGreatDoor
open Go.RowKit

def lowB (b : Int) : Bool := decide (97 ≤ b) && decide (b ≤ 122)
def digB (b : Int) : Bool := decide (48 ≤ b) && decide (b ≤ 57)
def letB (b : Int) : Bool := lowB b || (decide (65 ≤ b) && decide (b ≤ 90)) || decide (b = 95)

theorem lowB_true {b : Int} : lowB b = true ↔ 97 ≤ b ∧ b ≤ 122 := by simp [lowB]
theorem digB_true {b : Int} : digB b = true ↔ 48 ≤ b ∧ b ≤ 57 := by simp [digB]
theorem letB_true {b : Int} : letB b = true ↔ (97 ≤ b ∧ b ≤ 122) ∨ (65 ≤ b ∧ b ≤ 90) ∨ b = 95 := by simp [letB, lowB, or_assoc]
theorem ret_bool {a b : Bool} (h : a = b) : Ending.returned (.bool a) = .returned (.bool b) := by rw [h]

set_option maxHeartbeats 400000 in
theorem lower_any (b : Int) (w : World) : Calls Tryz.prog 62 #[.int .u8 b] w fun e w' => e = .returned (.bool (lowB b)) ∧ w' = w := by
  by_cases h1 : 97 ≤ b
  · by_cases h2 : b ≤ 122
    all_goals
      go_enter Tryz.func62, Tryz.ntmps62
      go_wp2
      go_ret
      exact ⟨ret_bool (by simp only [lowB]; simp; omega), rfl⟩
  · go_enter Tryz.func62, Tryz.ntmps62
    go_wp2
    go_ret
    exact ⟨ret_bool (by simp only [lowB]; simp; omega), rfl⟩

set_option maxHeartbeats 400000 in
theorem digit_any (b : Int) (w : World) : Calls Tryz.prog 61 #[.int .u8 b] w fun e w' => e = .returned (.bool (digB b)) ∧ w' = w := by
  by_cases h1 : 48 ≤ b
  · by_cases h2 : b ≤ 57
    all_goals
      go_enter Tryz.func61, Tryz.ntmps61
      go_wp2
      go_ret
      exact ⟨ret_bool (by simp only [digB]; simp; omega), rfl⟩
  · go_enter Tryz.func61, Tryz.ntmps61
    go_wp2
    go_ret
    exact ⟨ret_bool (by simp only [digB]; simp; omega), rfl⟩

set_option maxHeartbeats 400000 in
theorem letter_any (b : Int) (w : World) : Calls Tryz.prog 60 #[.int .u8 b] w fun e w' => e = .returned (.bool (letB b)) ∧ w' = w := by
  by_cases h1 : lowB b = true
  · have h2 := lowB_true.1 h1
    go_enter Tryz.func60, Tryz.ntmps60
    go_wp2_with (go_at_call 62; refine (lower_any _ _).mono ?_; rintro e w' ⟨rfl, rfl⟩; rw [h1])
    go_ret
    exact ⟨ret_bool (letB_true.2 (by omega)).symm, rfl⟩
  · have h2 : lowB b = false := by simpa using h1
    by_cases h3 : 65 ≤ b
    · by_cases h4 : b ≤ 90
      · go_enter Tryz.func60, Tryz.ntmps60
        go_wp2_with (go_at_call 62; refine (lower_any _ _).mono ?_; rintro e w' ⟨rfl, rfl⟩; rw [h2])
        go_ret
        exact ⟨ret_bool (letB_true.2 (by omega)).symm, rfl⟩
      · go_enter Tryz.func60, Tryz.ntmps60
        go_wp2_with (go_at_call 62; refine (lower_any _ _).mono ?_; rintro e w' ⟨rfl, rfl⟩; rw [h2])
        go_ret
        exact ⟨ret_bool (by rw [Bool.eq_iff_iff]; simp [letB, h2]; omega), rfl⟩
    · go_enter Tryz.func60, Tryz.ntmps60
      go_wp2_with (go_at_call 62; refine (lower_any _ _).mono ?_; rintro e w' ⟨rfl, rfl⟩; rw [h2])
      go_ret
      exact ⟨ret_bool (by rw [Bool.eq_iff_iff]; simp [letB, h2]; omega), rfl⟩

/-- A byte that may stand in a name. -/
def nbB (b : UInt8) : Bool := letB b.toNat || digB b.toNat
/-- A name of chapter 1. -/
def nameB (s : ByteArray) : Bool := decide (0 < s.size) && decide (s.size ≤ 30) && s.data.toList.all nbB && lowB (s.data.toList.getD 0 0).toNat

theorem all_of {s : ByteArray} {p : UInt8 → Bool} : s.data.toList.all p = true ↔ ∀ k (h : k < s.size), p s[k] = true := by
  rw [List.all_eq_true]
  constructor
  · intro h k hk
    exact h _ (by have : s[k] = s.data.toList[k]'(by simpa using hk) := rfl; rw [this]; exact List.getElem_mem _)
  · intro h x hx
    obtain ⟨k, hk, rfl⟩ := List.getElem_of_mem hx
    exact h k (by simpa using hk)
theorem first_of {s : ByteArray} (h : 0 < s.size) : s.data.toList.getD 0 0 = s[0] := by
  have : 0 < s.data.toList.length := by simpa using h
  rw [List.getD_eq_getElem?_getD, List.getElem?_eq_getElem this]; rfl

set_option maxHeartbeats 1000000 in
theorem name_any (s : ByteArray) (w : World) (hs : s.size ≤ 2 ^ 47) : Calls Tryz.prog 46 #[.string s] w fun e w' => e = .returned (.bool (nameB s)) ∧ w' = w := by
  go_enter Tryz.func46, Tryz.ntmps46
  go_wp2_with fail
  go_loop [3] (fun i => ∃ k : Nat, k ≤ s.size ∧ i = .int .i64 k ∧ ∀ j (h : j < s.size), j < k → nbB s[j] = true) (fun i => s.size - (intOf i).toNat)
  case atStart => exact ⟨0, Nat.zero_le _, rfl, fun j _ h => absurd h (by omega)⟩
  case round =>
    obtain ⟨k, hk, rfl, hall⟩ := hrel
    by_cases hlt : k < s.size
    · have hnb : nbB s[k] = (letB s[k].toNat || digB s[k].toNat) := rfl
      by_cases h1 : letB s[k].toNat = true
      · rw [h1, Bool.true_or] at hnb
        have hnot : (!true) = false := rfl
        have HN := hide hnb
        clear hnb
        go_wp2_with (first | (go_at_call 60; refine (letter_any _ _).mono ?_; rintro e w' ⟨rfl, rfl⟩; rw [h1]) | (go_at_call 61; refine (digit_any _ _).mono ?_; rintro e w' ⟨rfl, rfl⟩))
        go_round
        case rel => exact ⟨k + 1, hlt, by go_num, fun j hj hjk => if h : j = k then by subst h; exact unhide HN else hall j hj (by omega)⟩
        case measure => simp [intOf]; omega
      · have h1' : letB s[k].toNat = false := by simpa using h1
        rw [h1', Bool.false_or] at hnb
        by_cases h2 : digB s[k].toNat = true
        · rw [h2] at hnb
          have HN := hide hnb
          clear hnb h1
          go_wp2_with (first | (go_at_call 60; refine (letter_any _ _).mono ?_; rintro e w' ⟨rfl, rfl⟩; rw [h1']) | (go_at_call 61; refine (digit_any _ _).mono ?_; rintro e w' ⟨rfl, rfl⟩; rw [h2]))
          go_round
          case rel => exact ⟨k + 1, hlt, by go_num, fun j hj hjk => if h : j = k then by subst h; exact unhide HN else hall j hj (by omega)⟩
          case measure => simp [intOf]; omega
        · have h2' : digB s[k].toNat = false := by simpa using h2
          rw [h2'] at hnb
          have HN := hide hnb
          clear hnb h1 h2
          go_wp2_with (first | (go_at_call 60; refine (letter_any _ _).mono ?_; rintro e w' ⟨rfl, rfl⟩; rw [h1']) | (go_at_call 61; refine (digit_any _ _).mono ?_; rintro e w' ⟨rfl, rfl⟩; rw [h2']))
          go_ret
          refine ⟨ret_bool ?_, rfl⟩
          have : s.data.toList.all nbB = false := by
            rw [← Bool.not_eq_true, all_of]; intro h; have := h k hlt; rw [unhide HN] at this; cases this
          rw [nameB, this]; simp
    · have hks : k = s.size := by omega
      subst hks
      have hall' : Hid (s.data.toList.all nbB = true) := all_of.2 fun j h => hall j h h
      by_cases h1 : 0 < s.size
      · by_cases h2 : s.size ≤ 30
        · go_wp2_with (go_at_call 62; refine (lower_any _ _).mono ?_; rintro e w' ⟨rfl, rfl⟩)
          go_ret
          refine ⟨ret_bool ?_, rfl⟩
          rw [nameB, unhide hall', first_of h1]; simp [h1, h2]
        · go_wp2_with fail
          go_ret
          refine ⟨ret_bool ?_, rfl⟩
          simp [nameB]; omega
      · go_wp2_with fail
        go_ret
        refine ⟨ret_bool ?_, rfl⟩
        simp [nameB]; omega

end Go.Proofs.YtcgbonlffcpofaaGreatDoor
/- How many terms a term is, and how deep: l01Measure, l01Fits. -/
namespace Go.Proofs.YtcgbonlffcpofaaGreatDoor
open Go.RowKit

def siz : (n : Nat) → Tm n → Nat
  | 0, t => t.elim
  | n + 1, (_, _, _, ks) => 1 + (ks.map (siz n)).sum
def sizS {n : Nat} (ks : List (Tm n)) : Nat := (ks.map (siz n)).sum
def dep : (n : Nat) → Tm n → Nat
  | 0, t => t.elim
  | n + 1, (_, _, _, ks) => 1 + (ks.map (dep n)).foldl max 0
def depS {n : Nat} (ks : List (Tm n)) : Nat := (ks.map (dep n)).foldl max 0

theorem sizS_take {n : Nat} (ks : List (Tm n)) (k : Nat) (h : k < ks.length) : sizS (ks.take (k + 1)) = sizS (ks.take k) + siz n ks[k] := by
  unfold sizS; rw [List.take_succ_eq_append_getElem h, List.map_append, List.sum_append]; simp only [List.map_cons, List.map_nil, List.sum_cons, List.sum_nil, Nat.add_zero]
theorem depS_take {n : Nat} (ks : List (Tm n)) (k : Nat) (h : k < ks.length) : depS (ks.take (k + 1)) = max (depS (ks.take k)) (dep n ks[k]) := by
  unfold depS; rw [List.take_succ_eq_append_getElem h, List.map_append, List.foldl_append]; rfl
theorem sizS_le {n : Nat} (ks : List (Tm n)) (k : Nat) : sizS (ks.take k) ≤ sizS ks := by
  have : sizS ks = sizS (ks.take k) + sizS (ks.drop k) := by unfold sizS; rw [← List.sum_append, ← List.map_append, List.take_append_drop]
  omega
theorem foldl_max_le (l : List Nat) : ∀ a, a ≤ l.foldl max a := by
  induction l with
  | nil => intro a; exact Nat.le_refl _
  | cons x l ih => intro a; exact Nat.le_trans (Nat.le_max_left a x) (ih _)
theorem depS_le {n : Nat} (ks : List (Tm n)) (k : Nat) : depS (ks.take k) ≤ depS ks := by
  have : depS ks = ((ks.drop k).map (dep n)).foldl max (depS (ks.take k)) := by
    unfold depS; rw [← List.foldl_append, ← List.map_append, List.take_append_drop]
  rw [this]; exact foldl_max_le _ _
theorem siz_pos : ∀ {n : Nat} (t : Tm n), 1 ≤ siz n t
  | 0, t => t.elim
  | _ + 1, (_, _, _, _) => Nat.le_add_right _ _
def MeaSaid (n : Nat) : Prop := ∀ (t : Tm n) (c0 c1 c2 c3 : Value) (r d : Int) (w : World), TAt (Under w.heap.size) w n t c0 c1 c2 c3 → -10 ≤ r → r ≤ 2000 → -10 ≤ d → d ≤ 100 →
  ((siz n t : Int) ≤ r ∧ (dep n t : Int) ≤ d → Calls Tryz.prog 45 #[.agg #[c0, c1, c2, c3], .int .i64 r, .int .i64 d] w fun e w' => e = .returned (.tuple #[.int .i64 (siz n t), .int .i64 (dep n t)]) ∧ Below w.heap.size w w') ∧
  (¬ ((siz n t : Int) ≤ r ∧ (dep n t : Int) ≤ d) → Calls Tryz.prog 45 #[.agg #[c0, c1, c2, c3], .int .i64 r, .int .i64 d] w fun e w' => e = .returned (.tuple #[.int .i64 2001, .int .i64 101]) ∧ Below w.heap.size w w')

theorem ret_int2 {k : IntKind} {a b c d : Int} (h : a = c) (h' : b = d) : Ending.returned (.tuple #[.int k a, .int k b]) = .returned (.tuple #[.int k c, .int k d]) := by rw [h, h']

def MeaEnd (a b : Nat) (r d : Int) (e : Ending) : Prop :=
  ((a : Int) ≤ r ∧ (b : Int) ≤ d → e = .returned (.tuple #[.int .i64 a, .int .i64 b])) ∧ (¬ ((a : Int) ≤ r ∧ (b : Int) ≤ d) → e = .returned (.tuple #[.int .i64 2001, .int .i64 101]))

set_option maxRecDepth 100000 in
set_option maxHeartbeats 2000000 in
theorem mea_of {n : Nat} (h : MeaSaid n) : MeaSaid (n + 1) := by
  rintro ⟨kd, m, s, ks⟩ c0 c1 c2 c3 r d w ⟨rfl, rfl, rfl, hk, hm, hs, hks⟩ hr0 hr1 hd0 hd1
  have hsz : siz (n + 1) (kd, m, s, ks) = 1 + sizS ks := rfl
  have hdp : dep (n + 1) (kd, m, s, ks) = 1 + depS ks := rfl
  rw [hsz, hdp]
  have hb1 : Below w.heap.size w (w.alloc (.cells #[.int .i64 kd, .int .i64 m, .string s, c3] 32)) := (Below.refl _ _).alloc (Nat.le_refl _) _
  obtain ⟨a, cap, rfl, hlen, hcap, hel⟩ := hks
  clear hsz hdp
  -- one walk for both outcomes, the loop's way out told by what holds of all kids
  suffices key : Calls Tryz.prog 45 #[.agg #[.int .i64 kd, .int .i64 m, .string s, .slice a ks.length cap], .int .i64 r, .int .i64 d] w fun e w' =>
      MeaEnd (1 + sizS ks) (1 + depS ks) r d e ∧ Below w.heap.size w w' from
    ⟨fun hf => key.mono fun e w' he => ⟨he.1.1 hf, he.2⟩, fun hf => key.mono fun e w' he => ⟨he.1.2 hf, he.2⟩⟩
  by_cases hr : r ≤ 0
  · go_enter Tryz.func45, Tryz.ntmps45
    go_wp2_with fail
    go_ret2
    exact ⟨⟨fun hf => by omega, fun _ => rfl⟩, hb1⟩
  · by_cases hd : d ≤ 0
    · go_enter Tryz.func45, Tryz.ntmps45
      go_wp2_with fail
      go_ret2
      exact ⟨⟨fun hf => by omega, fun _ => rfl⟩, hb1⟩
    · go_enter Tryz.func45, Tryz.ntmps45
      go_wp2_with fail
      go_loopw [8, 9, 10] (fun nv mv iv wr => ∃ k : Nat, k ≤ ks.length ∧ iv = .int .i64 k ∧ nv = .int .i64 (1 + sizS (ks.take k) : Nat) ∧ mv = .int .i64 (depS (ks.take k)) ∧
        ((1 + sizS (ks.take k) : Nat) : Int) ≤ r ∧ ((1 + depS (ks.take k) : Nat) : Int) ≤ d ∧ Below (w.heap.size + 1) (w.alloc (.cells #[.int .i64 kd, .int .i64 m, .string s, .slice a ks.length cap] 32)) wr) (fun _ _ iv _ => ks.length - (intOf iv).toNat)
      case atStart => exact ⟨0, Nat.zero_le _, rfl, by simp [sizS], by simp [depS], by simp [sizS]; omega, by simp [depS]; omega, Below.refl _ _⟩
      case round =>
        obtain ⟨k, hk, rfl, rfl, rfl, hn, hmo, hb⟩ := hrel
        have hbx : wr.cell? ⟨w.heap.size, 3, none⟩ = some (.slice a ks.length cap) := by
          rw [hb.cell (p := ⟨w.heap.size, 3, none⟩) (by simp)]; exact cell_of_heap (heap_new w _) 3
        have hbw : Below w.heap.size w wr := hb1.trans (hb.mono (by omega))
        by_cases hlt : k < ks.length
        · obtain ⟨b, off, d0, d1, d2, d3, rfl, hS, e0, e1, e2, e3, ht⟩ := hel k hlt
          have hbc := bcell hbw
          have f0 := (hbc b _ hS).trans e0
          have f1 := (hbc b _ hS).trans e1
          have f2 := (hbc b _ hS).trans e2
          have f3 := (hbc b _ hS).trans e3
          have hst := hide (sizS_take ks k hlt)
          have hdt := hide (depS_take ks k hlt)
          have hsl := sizS_le ks (k + 1)
          have hdl := depS_le ks (k + 1)
          clear hbc e0 e1 e2 e3 hel
          have hc := h ks[k] d0 d1 d2 d3 (r - (1 + sizS (ks.take k) : Nat)) (d - 1) wr (ht.up hbw) (by omega) (by omega) (by omega) (by omega)
          by_cases hf : (siz n ks[k] : Int) ≤ r - (1 + sizS (ks.take k) : Nat) ∧ (dep n ks[k] : Int) ≤ d - 1
          · have hc2 := hide (hc.1 hf)
            clear hc
            obtain ⟨hf1, hf2⟩ := hf
            go_wp2_with (go_at_call 45; refine (unhide hc2).mono ?_; rintro e w' ⟨rfl, hb2⟩)
            all_goals
              go_roundw
              case rel =>
                have est := unhide hst
                have edt := unhide hdt
                exact ⟨k + 1, hlt, by go_num, by rw [est]; congr 1; omega, by rw [edt]; congr 1; omega, by rw [est]; omega, by rw [edt]; omega, hb.trans (hb2.mono (by have := hb.size; simpa using this))⟩
              case measure => simp [intOf]; omega
          · have hc2 := hide (hc.2 hf)
            clear hc
            have hno : ¬ (((1 + sizS ks : Nat) : Int) ≤ r ∧ ((1 + depS ks : Nat) : Int) ≤ d) := by
              have est := unhide hst
              have edt := unhide hdt
              omega
            have hno2 := hide hno
            clear hno hf hsl hdl
            go_wp2_with (go_at_call 45; refine (unhide hc2).mono ?_; rintro e w' ⟨rfl, hb2⟩)
            go_ret2
            exact ⟨⟨fun hf => absurd hf (unhide hno2), fun _ => rfl⟩, hbw.trans (hb2.mono hbw.size)⟩
        · have hkk : k = ks.length := by omega
          subst hkk
          rw [List.take_length] at hn hmo ⊢
          go_wp2_with fail
          go_ret2
          exact ⟨⟨fun _ => ret_int2 rfl (by omega), fun hf => absurd ⟨hn, hmo⟩ hf⟩, hbw⟩

theorem mea_any : ∀ n, MeaSaid n
  | 0 => fun t => t.elim
  | n + 1 => mea_of (mea_any n)

/-- It fits: at most 2000 terms, at most 100 deep. -/
def fitsB (n : Nat) (t : Tm n) : Bool := decide (siz n t ≤ 2000) && decide (dep n t ≤ 100)

set_option maxHeartbeats 1000000 in
theorem fits_any {n : Nat} (t : Tm n) (c0 c1 c2 c3 : Value) (w : World) (ht : TAt (Under w.heap.size) w n t c0 c1 c2 c3) :
    Calls Tryz.prog 29 #[.agg #[c0, c1, c2, c3]] w fun e w' => e = .returned (.bool (fitsB n t)) ∧ Below w.heap.size w w' := by
  obtain ⟨_, _, _, _, _, _, rfl, rfl, rfl, rfl⟩ := ht.shape
  have hbx := fun x : Obj => (Below.refl w.heap.size w).alloc (Nat.le_refl _) x
  by_cases hf : siz n t ≤ 2000 ∧ dep n t ≤ 100
  · obtain ⟨h1, h2⟩ := hf
    go_enter Tryz.func29, Tryz.ntmps29
    go_wp2_with (go_at_call 45; refine ((mea_any n t _ _ _ _ _ _ _ (ht.up (hbx _)) (by omega) (by omega) (by omega) (by omega)).1 (by omega)).mono ?_; rintro e w' ⟨rfl, hb2⟩)
    go_ret
    exact ⟨ret_bool (by rw [Bool.eq_iff_iff]; simp [fitsB]; omega), (hbx _).trans (hb2.mono (by simp))⟩
  · have h3 : fitsB n t = false := by simp only [fitsB, Bool.and_eq_false_iff, decide_eq_false_iff_not]; omega
    go_enter Tryz.func29, Tryz.ntmps29
    go_wp2_with (go_at_call 45; refine ((mea_any n t _ _ _ _ _ _ _ (ht.up (hbx _)) (by omega) (by omega) (by omega) (by omega)).2 (by omega)).mono ?_; rintro e w' ⟨rfl, hb2⟩)
    go_ret
    exact ⟨ret_bool h3.symm, (hbx _).trans (hb2.mono (by simp))⟩

end Go.Proofs.YtcgbonlffcpofaaGreatDoor
/- The order of terms as spec has it: l01Sign, l01Order, l01Each, l01Cmp. -/
namespace Go.Proofs.YtcgbonlffcpofaaGreatDoor
open Go.RowKit

def sgn (a b : Int) : Int := if a < b then -1 else if b < a then 1 else 0
def ordS (a b : ByteArray) : Int := if Op.bytesLess a.toList b.toList then -1 else if Op.bytesLess a.toList b.toList || a.toList == b.toList then 0 else 1

/-- The first that tells two lists apart, from place i on, each so many places farther. -/
def eachI {α β : Type} (f : α → β → Int) (ks : List α) (ls : List β) (step : Nat) : Nat → Nat → Int
  | 0, _ => 0
  | fuel + 1, i => match ks[i]?, ls[i]? with
    | some x, some y => if f x y = 0 then eachI f ks ls step fuel (i + step) else f x y
    | _, _ => 0

def cmpT : (n m : Nat) → Tm n → Tm m → Int
  | 0, _, t, _ => t.elim
  | _ + 1, 0, _, u => u.elim
  | n + 1, m + 1, (k, i, s, ks), (k', i', s', ks') =>
    if k ≠ k' then sgn k k' else if i ≠ i' then sgn i i' else if s ≠ s' then ordS s s' else
    if k = 8 then (if eachI (cmpT n m) ks ks' 1 ks.length 0 = 0 then sgn ks.length ks'.length else eachI (cmpT n m) ks ks' 1 ks.length 0)
    else if ks.length ≠ ks'.length then sgn ks.length ks'.length
    else if k = 7 then (if eachI (cmpT n m) ks ks' 2 ks.length 0 = 0 then eachI (cmpT n m) ks ks' 2 ks.length 1 else eachI (cmpT n m) ks ks' 2 ks.length 0)
    else eachI (cmpT n m) ks ks' 1 ks.length 0

theorem eachI_out {α β : Type} (f : α → β → Int) (ks : List α) (ls : List β) (step fuel i : Nat) (h : ks.length ≤ i ∨ ls.length ≤ i) : eachI f ks ls step fuel i = 0 := by
  cases fuel with
  | zero => rfl
  | succ fuel =>
    unfold eachI
    rcases h with h | h
    · rw [List.getElem?_eq_none h]
    · rw [List.getElem?_eq_none h]; cases ks[i]? <;> rfl
theorem eachI_in {α β : Type} (f : α → β → Int) (ks : List α) (ls : List β) (step fuel i : Nat) (h : i < ks.length) (h' : i < ls.length) :
    eachI f ks ls step (fuel + 1) i = if f ks[i] ls[i] = 0 then eachI f ks ls step fuel (i + step) else f ks[i] ls[i] := by
  rw [eachI, List.getElem?_eq_getElem h, List.getElem?_eq_getElem h']

set_option maxHeartbeats 400000 in
theorem sign_any (a b : Int) (w : World) : Calls Tryz.prog 63 #[.int .i64 a, .int .i64 b] w fun e w' => e = .returned (.int .i64 (sgn a b)) ∧ w' = w := by
  by_cases h1 : a < b
  · go_enter Tryz.func63, Tryz.ntmps63
    go_wp2
    go_ret
    exact ⟨ret_int (by simp [sgn, h1]), rfl⟩
  · by_cases h2 : b < a
    all_goals
      go_enter Tryz.func63, Tryz.ntmps63
      go_wp2
      go_ret
      exact ⟨ret_int (by unfold sgn; split <;> first | omega | (split <;> omega)), rfl⟩

set_option maxHeartbeats 400000 in
theorem order_any (a b : ByteArray) (w : World) : Calls Tryz.prog 64 #[.string a, .string b] w fun e w' => e = .returned (.int .i64 (ordS a b)) ∧ w' = w := by
  by_cases h1 : Op.bytesLess a.toList b.toList = true
  · go_enter Tryz.func64, Tryz.ntmps64
    go_wp2
    go_ret
    exact ⟨ret_int (by simp [ordS, h1]), rfl⟩
  · have h1' : Op.bytesLess a.toList b.toList = false := by simpa using h1
    by_cases h2 : (a.toList == b.toList) = true
    · go_enter Tryz.func64, Tryz.ntmps64
      go_wp2
      go_ret
      exact ⟨ret_int (by unfold ordS; rw [h1', h2]; rfl), rfl⟩
    · have h2' : (a.toList == b.toList) = false := by simpa using h2
      go_enter Tryz.func64, Tryz.ntmps64
      go_wp2
      go_ret
      exact ⟨ret_int (by unfold ordS; rw [h1', h2']; rfl), rfl⟩

theorem toList_ne {s s' : ByteArray} (h : s ≠ s') : (s.toList == s'.toList) = false := by
  rw [beq_eq_false_iff_ne]
  intro hh
  rw [ByteArray.toList_eq, ByteArray.toList_eq] at hh
  cases s; cases s'
  exact h (congrArg ByteArray.mk (Array.toList_inj.1 hh))

theorem two_cells {w w' : World} {x0 x1 x2 x3 y0 y1 y2 y3 : Value} {e : TypeId}
    (hb : Below ((w.alloc (.cells #[x0, x1, x2, x3] e)).alloc (.cells #[y0, y1, y2, y3] e)).heap.size ((w.alloc (.cells #[x0, x1, x2, x3] e)).alloc (.cells #[y0, y1, y2, y3] e)) w') :
    w'.cell? ⟨w.heap.size, 3, none⟩ = some x3 ∧ w'.cell? ⟨w.heap.size + 1, 3, none⟩ = some y3 := by
  have h1 : w'.heap[w.heap.size]? = some (.cells #[x0, x1, x2, x3] e) := by
    rw [hb.block _ (by simp; omega), Below.heap_alloc _ _ _ (by simp), heap_new]
  have h2 : w'.heap[w.heap.size + 1]? = some (.cells #[y0, y1, y2, y3] e) := by
    rw [hb.block _ (by simp)]
    have := heap_new (w.alloc (.cells #[x0, x1, x2, x3] e)) (.cells #[y0, y1, y2, y3] e)
    rwa [World.size_alloc] at this
  exact ⟨cell_of_heap h1 3, cell_of_heap h2 3⟩

def CmpSaid (n m : Nat) : Prop := ∀ (t : Tm n) (u : Tm m) (c0 c1 c2 c3 d0 d1 d2 d3 : Value) (w : World), TAt (Under w.heap.size) w n t c0 c1 c2 c3 → TAt (Under w.heap.size) w m u d0 d1 d2 d3 →
  Calls Tryz.prog 47 #[.agg #[c0, c1, c2, c3], .agg #[d0, d1, d2, d3]] w fun e w' => e = .returned (.int .i64 (cmpT n m t u)) ∧ Below w.heap.size w w'

def EachSaid (n m : Nat) : Prop := ∀ (ks : List (Tm n)) (ls : List (Tm m)) (u v : Value) (i step : Nat) (w : World), SAt (Under w.heap.size) w (TAt (Under w.heap.size) w n) ks u → SAt (Under w.heap.size) w (TAt (Under w.heap.size) w m) ls v →
  i ≤ 1 → 1 ≤ step → step ≤ 2 →
  Calls Tryz.prog 65 #[u, v, .int .i64 i, .int .i64 step] w fun e w' => e = .returned (.int .i64 (eachI (cmpT n m) ks ls step ks.length i)) ∧ Below w.heap.size w w'

set_option maxHeartbeats 2000000 in
theorem each_of {n m : Nat} (h : CmpSaid n m) : EachSaid n m := by
  intro ks ls u v i0 step w hu hv hi hs1 hs2
  obtain ⟨a, cap, rfl, hlen, hcap, hel⟩ := hu
  obtain ⟨a', cap', rfl, hlen', hcap', hel'⟩ := hv
  go_enter Tryz.func65, Tryz.ntmps65
  go_wp2_with fail
  go_loopw [9] (fun iv wr => ∃ k fuel : Nat, iv = .int .i64 k ∧ k ≤ ks.length + 2 ∧ ks.length ≤ k + fuel ∧ eachI (cmpT n m) ks ls step ks.length i0 = eachI (cmpT n m) ks ls step fuel k ∧ Below w.heap.size w wr) (fun iv _ => ks.length + 3 - (intOf iv).toNat)
  case atStart => exact ⟨i0, ks.length, rfl, by omega, by omega, rfl, Below.refl _ _⟩
  case round =>
    obtain ⟨k, fuel, rfl, hk1, hk2, heq, hb⟩ := hrel
    by_cases hlt : k < ks.length
    · by_cases hlt' : k < ls.length
      · obtain ⟨fuel, rfl⟩ : ∃ f, fuel = f + 1 := ⟨fuel - 1, by omega⟩
        rw [eachI_in _ _ _ _ _ _ hlt hlt'] at heq
        obtain ⟨b, off, d0, d1, d2, d3, rfl, hS, e0, e1, e2, e3, hr⟩ := hel k hlt
        obtain ⟨b', off', d0', d1', d2', d3', rfl, hS', e0', e1', e2', e3', hr'⟩ := hel' k hlt'
        have F0 : ∀ x : LaterW w.heap.size wr, x.wd.cell? ⟨b, off + k * 4, none⟩ = some d0 := fun x => ((bcell (hb.trans x.be)) b _ hS).trans e0
        have F1 : ∀ x : LaterW w.heap.size wr, x.wd.cell? ⟨b, off + k * 4 + 1, none⟩ = some d1 := fun x => ((bcell (hb.trans x.be)) b _ hS).trans e1
        have F2 : ∀ x : LaterW w.heap.size wr, x.wd.cell? ⟨b, off + k * 4 + 2, none⟩ = some d2 := fun x => ((bcell (hb.trans x.be)) b _ hS).trans e2
        have F3 : ∀ x : LaterW w.heap.size wr, x.wd.cell? ⟨b, off + k * 4 + 3, none⟩ = some d3 := fun x => ((bcell (hb.trans x.be)) b _ hS).trans e3
        have G0 : ∀ x : LaterW w.heap.size wr, x.wd.cell? ⟨b', off' + k * 4, none⟩ = some d0' := fun x => ((bcell (hb.trans x.be)) b' _ hS').trans e0'
        have G1 : ∀ x : LaterW w.heap.size wr, x.wd.cell? ⟨b', off' + k * 4 + 1, none⟩ = some d1' := fun x => ((bcell (hb.trans x.be)) b' _ hS').trans e1'
        have G2 : ∀ x : LaterW w.heap.size wr, x.wd.cell? ⟨b', off' + k * 4 + 2, none⟩ = some d2' := fun x => ((bcell (hb.trans x.be)) b' _ hS').trans e2'
        have G3 : ∀ x : LaterW w.heap.size wr, x.wd.cell? ⟨b', off' + k * 4 + 3, none⟩ = some d3' := fun x => ((bcell (hb.trans x.be)) b' _ hS').trans e3'
        have HE := hide heq
        clear heq e0 e1 e2 e3 e0' e1' e2' e3' hel hel'
        go_wp2_with fail
        haveI hne : Nonempty (LaterW w.heap.size wr) := ⟨⟨wr, Below.refl _ _⟩⟩
        refine wp_region_later w.heap.size (by kernel_rfl) (by kernel_rfl) ?_
        repeat (go_big_quiet_step ((go_at_call 47; rename_i x; refine Calls.later (v := .int .i64 (cmpT n m ks[k] ls[k])) hb.size (h _ _ _ _ _ _ _ _ _ _ _ (hr.up (hb.trans x.be)) (hr'.up (hb.trans x.be))))))
        refine wpQuiet_nil ?_
        rintro _ ⟨⟨wq, hq⟩, rfl⟩
        clear F0 F1 F2 F3 G0 G1 G2 G3 hne
        by_cases hz : cmpT n m ks[k] ls[k] = 0
        · rw [hz]
          have HE2 := unhide HE
          rw [if_pos hz] at HE2
          have HE3 := hide HE2
          clear HE HE2 hz
          go_wp2_with fail
          go_roundw
          case rel => exact ⟨k + step, fuel, by go_num, by omega, by omega, unhide HE3, hb.trans hq⟩
          case measure => simp [intOf]; omega
        · have HE2 := unhide HE
          rw [if_neg hz] at HE2
          have HE3 := hide HE2
          have hz2 : (cmpT n m ks[k] ls[k] != 0) = true := by simpa using hz
          clear HE HE2 hz
          go_wp2_with fail
          go_ret
          exact ⟨ret_int (unhide HE3).symm, hb.trans hq⟩
      · rw [eachI_out (cmpT n m) ks ls step fuel k (.inr (by omega))] at heq
        have HE := hide heq
        clear heq hel hel'
        go_wp2_with fail
        go_ret
        exact ⟨ret_int (unhide HE).symm, hb⟩
    · rw [eachI_out (cmpT n m) ks ls step fuel k (.inl (by omega))] at heq
      have HE := hide heq
      clear heq hel hel'
      go_wp2_with fail
      go_ret
      exact ⟨ret_int (unhide HE).symm, hb⟩

theorem cmp_kind {n m : Nat} {k k' i i' : Int} {s s' : ByteArray} {ks : List (Tm n)} {ls : List (Tm m)} (h : k ≠ k') : cmpT (n + 1) (m + 1) (k, i, s, ks) (k', i', s', ls) = sgn k k' := by
  simp only [cmpT, ne_eq, h, not_false_eq_true, if_true]
theorem cmp_num {n m : Nat} {k i i' : Int} {s s' : ByteArray} {ks : List (Tm n)} {ls : List (Tm m)} (h : i ≠ i') : cmpT (n + 1) (m + 1) (k, i, s, ks) (k, i', s', ls) = sgn i i' := by
  simp only [cmpT, ne_eq, h, not_true_eq_false, not_false_eq_true, if_true, if_false]
theorem cmp_text {n m : Nat} {k i : Int} {s s' : ByteArray} {ks : List (Tm n)} {ls : List (Tm m)} (h : s ≠ s') : cmpT (n + 1) (m + 1) (k, i, s, ks) (k, i, s', ls) = ordS s s' := by
  simp only [cmpT, ne_eq, h, not_true_eq_false, not_false_eq_true, if_true, if_false]
theorem cmp_list {n m : Nat} {i : Int} {s : ByteArray} {ks : List (Tm n)} {ls : List (Tm m)} : cmpT (n + 1) (m + 1) (8, i, s, ks) (8, i, s, ls) =
    if eachI (cmpT n m) ks ls 1 ks.length 0 = 0 then sgn ks.length ls.length else eachI (cmpT n m) ks ls 1 ks.length 0 := by
  simp only [cmpT, ne_eq, not_true_eq_false, if_true, if_false]
theorem cmp_len {n m : Nat} {k i : Int} {s : ByteArray} {ks : List (Tm n)} {ls : List (Tm m)} (h8 : k ≠ 8) (h : ks.length ≠ ls.length) : cmpT (n + 1) (m + 1) (k, i, s, ks) (k, i, s, ls) = sgn ks.length ls.length := by
  simp only [cmpT, ne_eq, h, h8, not_true_eq_false, not_false_eq_true, if_true, if_false]
theorem cmp_map {n m : Nat} {i : Int} {s : ByteArray} {ks : List (Tm n)} {ls : List (Tm m)} (h : ks.length = ls.length) : cmpT (n + 1) (m + 1) (7, i, s, ks) (7, i, s, ls) =
    if eachI (cmpT n m) ks ls 2 ks.length 0 = 0 then eachI (cmpT n m) ks ls 2 ks.length 1 else eachI (cmpT n m) ks ls 2 ks.length 0 := by
  simp only [cmpT, ne_eq, h, not_true_eq_false, if_true, if_false, show ¬ (7 : Int) = 8 from by decide]
theorem cmp_rest {n m : Nat} {k i : Int} {s : ByteArray} {ks : List (Tm n)} {ls : List (Tm m)} (h8 : k ≠ 8) (h7 : k ≠ 7) (h : ks.length = ls.length) : cmpT (n + 1) (m + 1) (k, i, s, ks) (k, i, s, ls) = eachI (cmpT n m) ks ls 1 ks.length 0 := by
  simp only [cmpT, ne_eq, h, h8, h7, not_true_eq_false, if_false]

set_option maxHeartbeats 2000000 in
theorem cmp_of {n m : Nat} (h : EachSaid n m) : CmpSaid (n + 1) (m + 1) := by
  rintro ⟨k, i, s, ks⟩ ⟨k', i', s', ls⟩ c0 c1 c2 c3 d0 d1 d2 d3 w ⟨rfl, rfl, rfl, hk, hm, hs, hks⟩ ⟨rfl, rfl, rfl, hk', hm', hs', hls⟩
  have hb2 := below_two w
  have hU := fun x y => hks.up (hb2 x y)
  have hV := fun x y => hls.up (hb2 x y)
  obtain ⟨ua, uc, rfl, -, -, -⟩ := hks
  obtain ⟨va, vc, rfl, -, -, -⟩ := hls
  by_cases h1 : k = k'
  case neg =>
    have h1' : (k != k') = true := by simpa using h1
    have hc := hide (cmp_kind (n := n) (m := m) (i := i) (i' := i') (s := s) (s' := s') (ks := ks) (ls := ls) h1)
    clear h1 hU hV
    go_enter Tryz.func47, Tryz.ntmps47
    go_wp2_with (go_at_call 63; refine (sign_any _ _ _).mono ?_; rintro e w' ⟨rfl, rfl⟩)
    go_ret
    exact ⟨ret_int (unhide hc).symm, hb2 _ _⟩
  subst h1
  by_cases h2 : i = i'
  case neg =>
    have h2' : (i != i') = true := by simpa using h2
    have hc := hide (cmp_num (n := n) (m := m) (k := k) (s := s) (s' := s') (ks := ks) (ls := ls) h2)
    clear h2 hU hV
    go_enter Tryz.func47, Tryz.ntmps47
    go_wp2_with (go_at_call 63; refine (sign_any _ _ _).mono ?_; rintro e w' ⟨rfl, rfl⟩)
    go_ret
    exact ⟨ret_int (unhide hc).symm, hb2 _ _⟩
  subst h2
  by_cases h3 : s = s'
  case neg =>
    have h3' : (s.toList == s'.toList) = false := toList_ne h3
    have hc := hide (cmp_text (n := n) (m := m) (k := k) (i := i) (ks := ks) (ls := ls) h3)
    clear h3 hU hV
    go_enter Tryz.func47, Tryz.ntmps47
    go_wp2_with (go_at_call 64; refine (order_any _ _ _).mono ?_; rintro e w' ⟨rfl, rfl⟩)
    go_ret
    exact ⟨ret_int (unhide hc).symm, hb2 _ _⟩
  subst h3
  have hE : ∀ (i step : Nat) (x y : Obj), i ≤ 1 → 1 ≤ step → step ≤ 2 → Calls Tryz.prog 65 #[.slice ua ks.length uc, .slice va ls.length vc, .int .i64 i, .int .i64 step] ((w.alloc x).alloc y)
      fun e w' => e = .returned (.int .i64 (eachI (cmpT n m) ks ls step ks.length i)) ∧ Below ((w.alloc x).alloc y).heap.size ((w.alloc x).alloc y) w' := fun i step x y h1 h2 h3 =>
    h ks ls _ _ i step _ (hU x y) (hV x y) h1 h2 h3
  have hEl : ∀ (i step : Nat) (x y : Obj) (w1 : World), Below ((w.alloc x).alloc y).heap.size ((w.alloc x).alloc y) w1 → i ≤ 1 → 1 ≤ step → step ≤ 2 → Calls Tryz.prog 65 #[.slice ua ks.length uc, .slice va ls.length vc, .int .i64 i, .int .i64 step] w1
      fun e w' => e = .returned (.int .i64 (eachI (cmpT n m) ks ls step ks.length i)) ∧ Below w.heap.size w w' := fun i step x y w1 hb h1 h2 h3 =>
    (h ks ls _ _ i step w1 ((hU x y).up hb) ((hV x y).up hb) h1 h2 h3).mono fun e w' he => ⟨he.1, ((hb2 x y).trans (hb.mono (by simp; omega))).trans (he.2.mono (by have := hb.size; simp at this; omega))⟩
  clear hU hV
  by_cases h8 : k = 8
  case pos =>
    subst h8
    have h01 := hide (fun x y => hE 0 1 x y (by omega) (by omega) (by omega))
    have hc := cmp_list (n := n) (m := m) (i := i) (s := s) (ks := ks) (ls := ls)
    clear hE hEl
    by_cases hz : eachI (cmpT n m) ks ls 1 ks.length 0 = 0
    · rw [if_pos hz] at hc
      have HC := hide hc
      rw [hz] at h01
      clear hc hz
      go_enter Tryz.func47, Tryz.ntmps47
      go_wp2_with fail
      refine ((unhide h01) _ _).mono ?_
      rintro e w' ⟨rfl, hb⟩
      obtain ⟨r1, r2⟩ := two_cells hb
      go_wp2_with (go_at_call 63; refine (sign_any _ _ _).mono ?_; rintro e w' ⟨rfl, rfl⟩)
      go_ret
      exact ⟨ret_int (unhide HC).symm, (hb2 _ _).trans (hb.mono (by simp; omega))⟩
    · rw [if_neg hz] at hc
      have HC := hide hc
      have hz' : (eachI (cmpT n m) ks ls 1 ks.length 0 != 0) = true := by simpa using hz
      clear hc hz
      go_enter Tryz.func47, Tryz.ntmps47
      go_wp2_with (first | (go_at_call 65; refine ((unhide h01) _ _).mono ?_; rintro e w' ⟨rfl, hb⟩))
      go_ret
      exact ⟨ret_int (unhide HC).symm, (hb2 _ _).trans (hb.mono (by simp; omega))⟩
  have h8' : (k == 8) = false := by simpa using h8
  by_cases hl : ks.length = ls.length
  case neg =>
    have hc := hide (cmp_len (n := n) (m := m) (i := i) (s := s) h8 hl)
    have hl' : ((ks.length : Int) != (ls.length : Int)) = true := by simpa using (by omega : ¬ (ks.length : Int) = ls.length)
    clear hE hEl hl h8
    go_enter Tryz.func47, Tryz.ntmps47
    go_wp2_with (go_at_call 63; refine (sign_any _ _ _).mono ?_; rintro e w' ⟨rfl, rfl⟩)
    go_ret
    exact ⟨ret_int (unhide hc).symm, hb2 _ _⟩
  have hl' : ((ks.length : Int) != (ls.length : Int)) = false := by simp [hl]
  by_cases h7 : k = 7
  case pos =>
    subst h7
    have h02 := hide (fun x y => hE 0 2 x y (by omega) (by omega) (by omega))
    have h12 := hide (fun x y w1 hb => hEl 1 2 x y w1 hb (by omega) (by omega) (by omega))
    have hc := cmp_map (n := n) (m := m) (i := i) (s := s) hl
    have Hl := hide hl
    clear hE hEl hl
    by_cases hz : eachI (cmpT n m) ks ls 2 ks.length 0 = 0
    · rw [if_pos hz] at hc
      have HC := hide hc
      rw [hz] at h02
      clear hc hz
      go_enter Tryz.func47, Tryz.ntmps47
      go_wp2_with fail
      refine ((unhide h02) _ _).mono ?_
      rintro e w' ⟨rfl, hb⟩
      obtain ⟨r1, r2⟩ := two_cells hb
      go_wp2_with (go_at_call 65; refine ((unhide h12) _ _ _ hb).mono ?_; rintro e w' ⟨rfl, hb⟩)
      go_ret
      exact ⟨ret_int (unhide HC).symm, hb⟩
    · rw [if_neg hz] at hc
      have HC := hide hc
      have hz' : (eachI (cmpT n m) ks ls 2 ks.length 0 != 0) = true := by simpa using hz
      clear hc hz
      go_enter Tryz.func47, Tryz.ntmps47
      go_wp2_with (go_at_call 65; refine ((unhide h02) _ _).mono ?_; rintro e w' ⟨rfl, hb⟩)
      go_ret
      exact ⟨ret_int (unhide HC).symm, (hb2 _ _).trans (hb.mono (by simp; omega))⟩
  have h7' : (k == 7) = false := by simpa using h7
  have h01 := hide (fun x y => hE 0 1 x y (by omega) (by omega) (by omega))
  have hc := hide (cmp_rest (n := n) (m := m) (i := i) (s := s) h8 h7 hl)
  clear hE hEl hl h8 h7
  go_enter Tryz.func47, Tryz.ntmps47
  go_wp2_with (go_at_call 65; refine ((unhide h01) _ _).mono ?_; rintro e w' ⟨rfl, hb⟩)
  go_ret
  exact ⟨ret_int (unhide hc).symm, (hb2 _ _).trans (hb.mono (by simp; omega))⟩

theorem cmp_any : ∀ n m, CmpSaid n m
  | 0, _ => fun t => t.elim
  | _ + 1, 0 => fun _ u => u.elim
  | n + 1, m + 1 => cmp_of (each_of (cmp_any n m))

end Go.Proofs.YtcgbonlffcpofaaGreatDoor
