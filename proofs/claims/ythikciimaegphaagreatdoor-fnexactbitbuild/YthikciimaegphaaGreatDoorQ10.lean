/- Letters, digits, names: the bytes' tests and the names' of both packages. -/
import Derived.Test.YthikciimaegphaaGreatDoorTo
namespace Go.Proofs.YthikciimaegphaaGreatDoor
open Go.RowKit

def lowB (b : Int) : Bool := decide (97 ≤ b) && decide (b ≤ 122)
def digB (b : Int) : Bool := decide (48 ≤ b) && decide (b ≤ 57)
def letB (b : Int) : Bool := lowB b || (decide (65 ≤ b) && decide (b ≤ 90)) || decide (b = 95)

theorem lowB_true {b : Int} : lowB b = true ↔ 97 ≤ b ∧ b ≤ 122 := by simp [lowB]
theorem digB_true {b : Int} : digB b = true ↔ 48 ≤ b ∧ b ≤ 57 := by simp [digB]
theorem letB_true {b : Int} : letB b = true ↔ (97 ≤ b ∧ b ≤ 122) ∨ (65 ≤ b ∧ b ≤ 90) ∨ b = 95 := by simp [letB, lowB, or_assoc]
theorem of_iff {b : Bool} {p : Prop} (h : b = true ↔ p) (hn : ¬ p) : b = false := by cases b <;> simp_all
theorem ret_bool {a b : Bool} (h : a = b) : Ending.returned (.bool a) = .returned (.bool b) := by rw [h]

set_option maxHeartbeats 400000 in
theorem lower_any (b : Int) (w : World) : Calls Tryz.prog 71 #[.int .u8 b] w fun e w' => e = .returned (.bool (lowB b)) ∧ w' = w := by
  by_cases h1 : 97 ≤ b
  · by_cases h2 : b ≤ 122
    all_goals
      go_enter Tryz.func71, Tryz.ntmps71
      go_wp2
      go_ret
      exact ⟨ret_bool (by simp only [lowB]; simp; omega), rfl⟩
  · go_enter Tryz.func71, Tryz.ntmps71
    go_wp2
    go_ret
    exact ⟨ret_bool (by simp only [lowB]; simp; omega), rfl⟩

set_option maxHeartbeats 400000 in
theorem digit_any (b : Int) (w : World) : Calls Tryz.prog 70 #[.int .u8 b] w fun e w' => e = .returned (.bool (digB b)) ∧ w' = w := by
  by_cases h1 : 48 ≤ b
  · by_cases h2 : b ≤ 57
    all_goals
      go_enter Tryz.func70, Tryz.ntmps70
      go_wp2
      go_ret
      exact ⟨ret_bool (by simp only [digB]; simp; omega), rfl⟩
  · go_enter Tryz.func70, Tryz.ntmps70
    go_wp2
    go_ret
    exact ⟨ret_bool (by simp only [digB]; simp; omega), rfl⟩

set_option maxHeartbeats 400000 in
theorem letter_any (b : Int) (w : World) : Calls Tryz.prog 69 #[.int .u8 b] w fun e w' => e = .returned (.bool (letB b)) ∧ w' = w := by
  by_cases h1 : lowB b = true
  · have h2 := lowB_true.1 h1
    go_enter Tryz.func69, Tryz.ntmps69
    go_wp2_with (go_at_call 71; refine (lower_any _ _).mono ?_; rintro e w' ⟨rfl, rfl⟩; rw [h1])
    go_ret
    exact ⟨ret_bool (letB_true.2 (by omega)).symm, rfl⟩
  · have h2 : lowB b = false := by simpa using h1
    by_cases h3 : 65 ≤ b
    · by_cases h4 : b ≤ 90
      · go_enter Tryz.func69, Tryz.ntmps69
        go_wp2_with (go_at_call 71; refine (lower_any _ _).mono ?_; rintro e w' ⟨rfl, rfl⟩; rw [h2])
        go_ret
        exact ⟨ret_bool (letB_true.2 (by omega)).symm, rfl⟩
      · go_enter Tryz.func69, Tryz.ntmps69
        go_wp2_with (go_at_call 71; refine (lower_any _ _).mono ?_; rintro e w' ⟨rfl, rfl⟩; rw [h2])
        go_ret
        exact ⟨ret_bool (by rw [Bool.eq_iff_iff]; simp [letB, h2]; omega), rfl⟩
    · go_enter Tryz.func69, Tryz.ntmps69
      go_wp2_with (go_at_call 71; refine (lower_any _ _).mono ?_; rintro e w' ⟨rfl, rfl⟩; rw [h2])
      go_ret
      exact ⟨ret_bool (by rw [Bool.eq_iff_iff]; simp [letB, h2]; omega), rfl⟩

/-- A byte that may stand in a name. -/
def nbB (b : UInt8) : Bool := letB b.toNat || digB b.toNat
/-- A name of chapter 1. -/
def nameB (s : ByteArray) : Bool := decide (0 < s.size) && decide (s.size ≤ 30) && s.data.toList.all nbB && lowB (s.data.toList.getD 0 0).toNat

theorem all_of {s : ByteArray} {p : UInt8 → Bool} : s.data.toList.all p = true ↔ ∀ k (h : k < s.size), p s[k] = true := by
  rw [List.all_eq_true]
  constructor
  · intro h k hk
    exact h _ (by have : s[k] = s.data.toList[k]'(by simpa using hk) := rfl; rw [this]; exact List.getElem_mem _)
  · intro h x hx
    obtain ⟨k, hk, rfl⟩ := List.getElem_of_mem hx
    exact h k (by simpa using hk)
theorem first_of {s : ByteArray} (h : 0 < s.size) : s.data.toList.getD 0 0 = s[0] := by
  have : 0 < s.data.toList.length := by simpa using h
  rw [List.getD_eq_getElem?_getD, List.getElem?_eq_getElem this]; rfl

set_option maxHeartbeats 1000000 in
theorem name_any (s : ByteArray) (w : World) (hs : s.size ≤ 2 ^ 47) : Calls Tryz.prog 55 #[.string s] w fun e w' => e = .returned (.bool (nameB s)) ∧ w' = w := by
  go_enter Tryz.func55, Tryz.ntmps55
  go_wp2_with fail
  go_loop [3] (fun i => ∃ k : Nat, k ≤ s.size ∧ i = .int .i64 k ∧ ∀ j (h : j < s.size), j < k → nbB s[j] = true) (fun i => s.size - (intOf i).toNat)
  case atStart => exact ⟨0, Nat.zero_le _, rfl, fun j _ h => absurd h (by omega)⟩
  case round =>
    obtain ⟨k, hk, rfl, hall⟩ := hrel
    by_cases hlt : k < s.size
    · have hnb : nbB s[k] = (letB s[k].toNat || digB s[k].toNat) := rfl
      by_cases h1 : letB s[k].toNat = true
      · rw [h1, Bool.true_or] at hnb
        have hnot : (!true) = false := rfl
        have HN := hide hnb
        clear hnb
        go_wp2_with (first | (go_at_call 69; refine (letter_any _ _).mono ?_; rintro e w' ⟨rfl, rfl⟩; rw [h1]) | (go_at_call 70; refine (digit_any _ _).mono ?_; rintro e w' ⟨rfl, rfl⟩))
        go_round
        case rel => exact ⟨k + 1, hlt, by go_num, fun j hj hjk => if h : j = k then by subst h; exact unhide HN else hall j hj (by omega)⟩
        case measure => simp [intOf]; omega
      · have h1' : letB s[k].toNat = false := by simpa using h1
        rw [h1', Bool.false_or] at hnb
        by_cases h2 : digB s[k].toNat = true
        · rw [h2] at hnb
          have HN := hide hnb
          clear hnb h1
          go_wp2_with (first | (go_at_call 69; refine (letter_any _ _).mono ?_; rintro e w' ⟨rfl, rfl⟩; rw [h1']) | (go_at_call 70; refine (digit_any _ _).mono ?_; rintro e w' ⟨rfl, rfl⟩; rw [h2]))
          go_round
          case rel => exact ⟨k + 1, hlt, by go_num, fun j hj hjk => if h : j = k then by subst h; exact unhide HN else hall j hj (by omega)⟩
          case measure => simp [intOf]; omega
        · have h2' : digB s[k].toNat = false := by simpa using h2
          rw [h2'] at hnb
          have HN := hide hnb
          clear hnb h1 h2
          go_wp2_with (first | (go_at_call 69; refine (letter_any _ _).mono ?_; rintro e w' ⟨rfl, rfl⟩; rw [h1']) | (go_at_call 70; refine (digit_any _ _).mono ?_; rintro e w' ⟨rfl, rfl⟩; rw [h2']))
          go_ret
          refine ⟨ret_bool ?_, rfl⟩
          have : s.data.toList.all nbB = false := by
            rw [← Bool.not_eq_true, all_of]; intro h; have := h k hlt; rw [unhide HN] at this; cases this
          rw [nameB, this]; simp
    · have hks : k = s.size := by omega
      subst hks
      have hall' : Hid (s.data.toList.all nbB = true) := all_of.2 fun j h => hall j h h
      by_cases h1 : 0 < s.size
      · by_cases h2 : s.size ≤ 30
        · go_wp2_with (go_at_call 71; refine (lower_any _ _).mono ?_; rintro e w' ⟨rfl, rfl⟩)
          go_ret
          refine ⟨ret_bool ?_, rfl⟩
          rw [nameB, unhide hall', first_of h1]; simp [h1, h2]
        · go_wp2_with fail
          go_ret
          refine ⟨ret_bool ?_, rfl⟩
          simp [nameB]; omega
      · go_wp2_with fail
        go_ret
        refine ⟨ret_bool ?_, rfl⟩
        simp [nameB]; omega

end Go.Proofs.YthikciimaegphaaGreatDoor
/- How many terms a term is, and how deep: l01Measure, l01Fits. -/
namespace Go.Proofs.YthikciimaegphaaGreatDoor
open Go.RowKit

def siz : (n : Nat) → Tm n → Nat
  | 0, t => t.elim
  | n + 1, (_, _, _, ks) => 1 + (ks.map (siz n)).sum
def sizS {n : Nat} (ks : List (Tm n)) : Nat := (ks.map (siz n)).sum
def dep : (n : Nat) → Tm n → Nat
  | 0, t => t.elim
  | n + 1, (_, _, _, ks) => 1 + (ks.map (dep n)).foldl max 0
def depS {n : Nat} (ks : List (Tm n)) : Nat := (ks.map (dep n)).foldl max 0

theorem sizS_take {n : Nat} (ks : List (Tm n)) (k : Nat) (h : k < ks.length) : sizS (ks.take (k + 1)) = sizS (ks.take k) + siz n ks[k] := by
  unfold sizS; rw [List.take_succ_eq_append_getElem h, List.map_append, List.sum_append]; simp only [List.map_cons, List.map_nil, List.sum_cons, List.sum_nil, Nat.add_zero]
theorem depS_take {n : Nat} (ks : List (Tm n)) (k : Nat) (h : k < ks.length) : depS (ks.take (k + 1)) = max (depS (ks.take k)) (dep n ks[k]) := by
  unfold depS; rw [List.take_succ_eq_append_getElem h, List.map_append, List.foldl_append]; rfl
theorem sizS_le {n : Nat} (ks : List (Tm n)) (k : Nat) : sizS (ks.take k) ≤ sizS ks := by
  have : sizS ks = sizS (ks.take k) + sizS (ks.drop k) := by unfold sizS; rw [← List.sum_append, ← List.map_append, List.take_append_drop]
  omega
theorem foldl_max_le (l : List Nat) : ∀ a, a ≤ l.foldl max a := by
  induction l with
  | nil => intro a; exact Nat.le_refl _
  | cons x l ih => intro a; exact Nat.le_trans (Nat.le_max_left a x) (ih _)
theorem depS_le {n : Nat} (ks : List (Tm n)) (k : Nat) : depS (ks.take k) ≤ depS ks := by
  have : depS ks = ((ks.drop k).map (dep n)).foldl max (depS (ks.take k)) := by
    unfold depS; rw [← List.foldl_append, ← List.map_append, List.take_append_drop]
  rw [this]; exact foldl_max_le _ _
theorem siz_pos : ∀ {n : Nat} (t : Tm n), 1 ≤ siz n t
  | 0, t => t.elim
  | _ + 1, (_, _, _, _) => Nat.le_add_right _ _
theorem dep_pos : ∀ {n : Nat} (t : Tm n), 1 ≤ dep n t
  | 0, t => t.elim
  | _ + 1, (_, _, _, _) => Nat.le_add_right _ _

def MeaSaid (n : Nat) : Prop := ∀ (t : Tm n) (c0 c1 c2 c3 : Value) (r d : Int) (w : World), TAt (Under w.heap.size) w n t c0 c1 c2 c3 → -10 ≤ r → r ≤ 2000 → -10 ≤ d → d ≤ 100 →
  ((siz n t : Int) ≤ r ∧ (dep n t : Int) ≤ d → Calls Tryz.prog 54 #[.agg #[c0, c1, c2, c3], .int .i64 r, .int .i64 d] w fun e w' => e = .returned (.tuple #[.int .i64 (siz n t), .int .i64 (dep n t)]) ∧ Below w.heap.size w w') ∧
  (¬ ((siz n t : Int) ≤ r ∧ (dep n t : Int) ≤ d) → Calls Tryz.prog 54 #[.agg #[c0, c1, c2, c3], .int .i64 r, .int .i64 d] w fun e w' => e = .returned (.tuple #[.int .i64 2001, .int .i64 101]) ∧ Below w.heap.size w w')

theorem ret_int2 {k : IntKind} {a b c d : Int} (h : a = c) (h' : b = d) : Ending.returned (.tuple #[.int k a, .int k b]) = .returned (.tuple #[.int k c, .int k d]) := by rw [h, h']

def MeaEnd (a b : Nat) (r d : Int) (e : Ending) : Prop :=
  ((a : Int) ≤ r ∧ (b : Int) ≤ d → e = .returned (.tuple #[.int .i64 a, .int .i64 b])) ∧ (¬ ((a : Int) ≤ r ∧ (b : Int) ≤ d) → e = .returned (.tuple #[.int .i64 2001, .int .i64 101]))

set_option maxRecDepth 100000 in
set_option maxHeartbeats 2000000 in
theorem mea_of {n : Nat} (h : MeaSaid n) : MeaSaid (n + 1) := by
  rintro ⟨kd, m, s, ks⟩ c0 c1 c2 c3 r d w ⟨rfl, rfl, rfl, hk, hm, hs, hks⟩ hr0 hr1 hd0 hd1
  have hsz : siz (n + 1) (kd, m, s, ks) = 1 + sizS ks := rfl
  have hdp : dep (n + 1) (kd, m, s, ks) = 1 + depS ks := rfl
  rw [hsz, hdp]
  have hb1 : Below w.heap.size w (w.alloc (.cells #[.int .i64 kd, .int .i64 m, .string s, c3] 38)) := (Below.refl _ _).alloc (Nat.le_refl _) _
  obtain ⟨a, cap, rfl, hlen, hcap, hel⟩ := hks
  clear hsz hdp
  -- one walk for both outcomes, the loop's way out told by what holds of all kids
  suffices key : Calls Tryz.prog 54 #[.agg #[.int .i64 kd, .int .i64 m, .string s, .slice a ks.length cap], .int .i64 r, .int .i64 d] w fun e w' =>
      MeaEnd (1 + sizS ks) (1 + depS ks) r d e ∧ Below w.heap.size w w' from
    ⟨fun hf => key.mono fun e w' he => ⟨he.1.1 hf, he.2⟩, fun hf => key.mono fun e w' he => ⟨he.1.2 hf, he.2⟩⟩
  by_cases hr : r ≤ 0
  · go_enter Tryz.func54, Tryz.ntmps54
    go_wp2_with fail
    go_ret2
    exact ⟨⟨fun hf => by omega, fun _ => rfl⟩, hb1⟩
  · by_cases hd : d ≤ 0
    · go_enter Tryz.func54, Tryz.ntmps54
      go_wp2_with fail
      go_ret2
      exact ⟨⟨fun hf => by omega, fun _ => rfl⟩, hb1⟩
    · go_enter Tryz.func54, Tryz.ntmps54
      go_wp2_with fail
      go_loopw [8, 9, 10] (fun nv mv iv wr => ∃ k : Nat, k ≤ ks.length ∧ iv = .int .i64 k ∧ nv = .int .i64 (1 + sizS (ks.take k) : Nat) ∧ mv = .int .i64 (depS (ks.take k)) ∧
        ((1 + sizS (ks.take k) : Nat) : Int) ≤ r ∧ ((1 + depS (ks.take k) : Nat) : Int) ≤ d ∧ Below (w.heap.size + 1) (w.alloc (.cells #[.int .i64 kd, .int .i64 m, .string s, .slice a ks.length cap] 38)) wr) (fun _ _ iv _ => ks.length - (intOf iv).toNat)
      case atStart => exact ⟨0, Nat.zero_le _, rfl, by simp [sizS], by simp [depS], by simp [sizS]; omega, by simp [depS]; omega, Below.refl _ _⟩
      case round =>
        obtain ⟨k, hk, rfl, rfl, rfl, hn, hmo, hb⟩ := hrel
        have hbx : wr.cell? ⟨w.heap.size, 3, none⟩ = some (.slice a ks.length cap) := by
          rw [hb.cell (p := ⟨w.heap.size, 3, none⟩) (by simp)]; exact cell_of_heap (heap_new w _) 3
        have hbw : Below w.heap.size w wr := hb1.trans (hb.mono (by omega))
        by_cases hlt : k < ks.length
        · obtain ⟨b, off, d0, d1, d2, d3, rfl, hS, e0, e1, e2, e3, ht⟩ := hel k hlt
          have hbc := bcell hbw
          have f0 := (hbc b _ hS).trans e0
          have f1 := (hbc b _ hS).trans e1
          have f2 := (hbc b _ hS).trans e2
          have f3 := (hbc b _ hS).trans e3
          have hst := hide (sizS_take ks k hlt)
          have hdt := hide (depS_take ks k hlt)
          have hsl := sizS_le ks (k + 1)
          have hdl := depS_le ks (k + 1)
          clear hbc e0 e1 e2 e3 hel
          have hc := h ks[k] d0 d1 d2 d3 (r - (1 + sizS (ks.take k) : Nat)) (d - 1) wr (ht.up hbw) (by omega) (by omega) (by omega) (by omega)
          by_cases hf : (siz n ks[k] : Int) ≤ r - (1 + sizS (ks.take k) : Nat) ∧ (dep n ks[k] : Int) ≤ d - 1
          · have hc2 := hide (hc.1 hf)
            clear hc
            obtain ⟨hf1, hf2⟩ := hf
            go_wp2_with (go_at_call 54; refine (unhide hc2).mono ?_; rintro e w' ⟨rfl, hb2⟩)
            all_goals
              go_roundw
              case rel =>
                have est := unhide hst
                have edt := unhide hdt
                exact ⟨k + 1, hlt, by go_num, by rw [est]; congr 1; omega, by rw [edt]; congr 1; omega, by rw [est]; omega, by rw [edt]; omega, hb.trans (hb2.mono (by have := hb.size; simpa using this))⟩
              case measure => simp [intOf]; omega
          · have hc2 := hide (hc.2 hf)
            clear hc
            have hno : ¬ (((1 + sizS ks : Nat) : Int) ≤ r ∧ ((1 + depS ks : Nat) : Int) ≤ d) := by
              have est := unhide hst
              have edt := unhide hdt
              omega
            have hno2 := hide hno
            clear hno hf hsl hdl
            go_wp2_with (go_at_call 54; refine (unhide hc2).mono ?_; rintro e w' ⟨rfl, hb2⟩)
            go_ret2
            exact ⟨⟨fun hf => absurd hf (unhide hno2), fun _ => rfl⟩, hbw.trans (hb2.mono hbw.size)⟩
        · have hkk : k = ks.length := by omega
          subst hkk
          rw [List.take_length] at hn hmo ⊢
          go_wp2_with fail
          go_ret2
          exact ⟨⟨fun _ => ret_int2 rfl (by omega), fun hf => absurd ⟨hn, hmo⟩ hf⟩, hbw⟩

theorem mea_any : ∀ n, MeaSaid n
  | 0 => fun t => t.elim
  | n + 1 => mea_of (mea_any n)

/-- It fits: at most 2000 terms, at most 100 deep. -/
def fitsB (n : Nat) (t : Tm n) : Bool := decide (siz n t ≤ 2000) && decide (dep n t ≤ 100)

set_option maxHeartbeats 1000000 in
theorem fits_any {n : Nat} (t : Tm n) (c0 c1 c2 c3 : Value) (w : World) (ht : TAt (Under w.heap.size) w n t c0 c1 c2 c3) :
    Calls Tryz.prog 34 #[.agg #[c0, c1, c2, c3]] w fun e w' => e = .returned (.bool (fitsB n t)) ∧ Below w.heap.size w w' := by
  obtain ⟨_, _, _, _, _, _, rfl, rfl, rfl, rfl⟩ := ht.shape
  have hbx := fun x : Obj => (Below.refl w.heap.size w).alloc (Nat.le_refl _) x
  by_cases hf : siz n t ≤ 2000 ∧ dep n t ≤ 100
  · obtain ⟨h1, h2⟩ := hf
    go_enter Tryz.func34, Tryz.ntmps34
    go_wp2_with (go_at_call 54; refine ((mea_any n t _ _ _ _ _ _ _ (ht.up (hbx _)) (by omega) (by omega) (by omega) (by omega)).1 (by omega)).mono ?_; rintro e w' ⟨rfl, hb2⟩)
    go_ret
    exact ⟨ret_bool (by rw [Bool.eq_iff_iff]; simp [fitsB]; omega), (hbx _).trans (hb2.mono (by simp))⟩
  · have h3 : fitsB n t = false := by simp only [fitsB, Bool.and_eq_false_iff, decide_eq_false_iff_not]; omega
    go_enter Tryz.func34, Tryz.ntmps34
    go_wp2_with (go_at_call 54; refine ((mea_any n t _ _ _ _ _ _ _ (ht.up (hbx _)) (by omega) (by omega) (by omega) (by omega)).2 (by omega)).mono ?_; rintro e w' ⟨rfl, hb2⟩)
    go_ret
    exact ⟨ret_bool h3.symm, (hbx _).trans (hb2.mono (by simp))⟩

end Go.Proofs.YthikciimaegphaaGreatDoor
