/- Letters, digits, names: the bytes' tests and the names' of both packages. -/
import Derived.Test.YtaggnncndbdmjaaTo
namespace Go.Proofs.Ytaggnncndbdmjaa
open Go.RowKit

def lowB (b : Int) : Bool := decide (97 ≤ b) && decide (b ≤ 122)
def digB (b : Int) : Bool := decide (48 ≤ b) && decide (b ≤ 57)
def letB (b : Int) : Bool := lowB b || (decide (65 ≤ b) && decide (b ≤ 90)) || decide (b = 95)

theorem lowB_true {b : Int} : lowB b = true ↔ 97 ≤ b ∧ b ≤ 122 := by simp [lowB]
theorem digB_true {b : Int} : digB b = true ↔ 48 ≤ b ∧ b ≤ 57 := by simp [digB]
theorem letB_true {b : Int} : letB b = true ↔ (97 ≤ b ∧ b ≤ 122) ∨ (65 ≤ b ∧ b ≤ 90) ∨ b = 95 := by simp [letB, lowB, or_assoc]
theorem of_iff {b : Bool} {p : Prop} (h : b = true ↔ p) (hn : ¬ p) : b = false := by cases b <;> simp_all
theorem ret_bool {a b : Bool} (h : a = b) : Ending.returned (.bool a) = .returned (.bool b) := by rw [h]

set_option maxHeartbeats 400000 in
theorem lower_any (b : Int) (w : World) : Calls Try.prog 34 #[.int .u8 b] w fun e w' => e = .returned (.bool (lowB b)) ∧ w' = w := by
  by_cases h1 : 97 ≤ b
  · by_cases h2 : b ≤ 122
    all_goals
      go_enter Try.func34, Try.ntmps34
      go_wp2
      go_ret
      exact ⟨ret_bool (by simp only [lowB]; simp; omega), rfl⟩
  · go_enter Try.func34, Try.ntmps34
    go_wp2
    go_ret
    exact ⟨ret_bool (by simp only [lowB]; simp; omega), rfl⟩

set_option maxHeartbeats 400000 in
theorem digit_any (b : Int) (w : World) : Calls Try.prog 33 #[.int .u8 b] w fun e w' => e = .returned (.bool (digB b)) ∧ w' = w := by
  by_cases h1 : 48 ≤ b
  · by_cases h2 : b ≤ 57
    all_goals
      go_enter Try.func33, Try.ntmps33
      go_wp2
      go_ret
      exact ⟨ret_bool (by simp only [digB]; simp; omega), rfl⟩
  · go_enter Try.func33, Try.ntmps33
    go_wp2
    go_ret
    exact ⟨ret_bool (by simp only [digB]; simp; omega), rfl⟩

set_option maxHeartbeats 400000 in
theorem letter_any (b : Int) (w : World) : Calls Try.prog 32 #[.int .u8 b] w fun e w' => e = .returned (.bool (letB b)) ∧ w' = w := by
  by_cases h1 : lowB b = true
  · have h2 := lowB_true.1 h1
    go_enter Try.func32, Try.ntmps32
    go_wp2_with (go_at_call 34; refine (lower_any _ _).mono ?_; rintro e w' ⟨rfl, rfl⟩; rw [h1])
    go_ret
    exact ⟨ret_bool (letB_true.2 (by omega)).symm, rfl⟩
  · have h2 : lowB b = false := by simpa using h1
    by_cases h3 : 65 ≤ b
    · by_cases h4 : b ≤ 90
      · go_enter Try.func32, Try.ntmps32
        go_wp2_with (go_at_call 34; refine (lower_any _ _).mono ?_; rintro e w' ⟨rfl, rfl⟩; rw [h2])
        go_ret
        exact ⟨ret_bool (letB_true.2 (by omega)).symm, rfl⟩
      · go_enter Try.func32, Try.ntmps32
        go_wp2_with (go_at_call 34; refine (lower_any _ _).mono ?_; rintro e w' ⟨rfl, rfl⟩; rw [h2])
        go_ret
        exact ⟨ret_bool (by rw [Bool.eq_iff_iff]; simp [letB, h2]; omega), rfl⟩
    · go_enter Try.func32, Try.ntmps32
      go_wp2_with (go_at_call 34; refine (lower_any _ _).mono ?_; rintro e w' ⟨rfl, rfl⟩; rw [h2])
      go_ret
      exact ⟨ret_bool (by rw [Bool.eq_iff_iff]; simp [letB, h2]; omega), rfl⟩

/-- A byte that may stand in a name. -/
def nbB (b : UInt8) : Bool := letB b.toNat || digB b.toNat
/-- A name of chapter 1. -/
def nameB (s : ByteArray) : Bool := decide (0 < s.size) && decide (s.size ≤ 30) && s.data.toList.all nbB && lowB (s.data.toList.getD 0 0).toNat

theorem all_of {s : ByteArray} {p : UInt8 → Bool} : s.data.toList.all p = true ↔ ∀ k (h : k < s.size), p s[k] = true := by
  rw [List.all_eq_true]
  constructor
  · intro h k hk
    exact h _ (by have : s[k] = s.data.toList[k]'(by simpa using hk) := rfl; rw [this]; exact List.getElem_mem _)
  · intro h x hx
    obtain ⟨k, hk, rfl⟩ := List.getElem_of_mem hx
    exact h k (by simpa using hk)
theorem first_of {s : ByteArray} (h : 0 < s.size) : s.data.toList.getD 0 0 = s[0] := by
  have : 0 < s.data.toList.length := by simpa using h
  rw [List.getD_eq_getElem?_getD, List.getElem?_eq_getElem this]; rfl

set_option maxHeartbeats 1000000 in
theorem name_any (s : ByteArray) (w : World) (hs : s.size ≤ 2 ^ 47) : Calls Try.prog 26 #[.string s] w fun e w' => e = .returned (.bool (nameB s)) ∧ w' = w := by
  go_enter Try.func26, Try.ntmps26
  go_wp2_with fail
  go_loop [3] (fun i => ∃ k : Nat, k ≤ s.size ∧ i = .int .i64 k ∧ ∀ j (h : j < s.size), j < k → nbB s[j] = true) (fun i => s.size - (intOf i).toNat)
  case atStart => exact ⟨0, Nat.zero_le _, rfl, fun j _ h => absurd h (by omega)⟩
  case round =>
    obtain ⟨k, hk, rfl, hall⟩ := hrel
    by_cases hlt : k < s.size
    · have hnb : nbB s[k] = (letB s[k].toNat || digB s[k].toNat) := rfl
      by_cases h1 : letB s[k].toNat = true
      · rw [h1, Bool.true_or] at hnb
        have hnot : (!true) = false := rfl
        have HN := hide hnb
        clear hnb
        go_wp2_with (first | (go_at_call 32; refine (letter_any _ _).mono ?_; rintro e w' ⟨rfl, rfl⟩; rw [h1]) | (go_at_call 33; refine (digit_any _ _).mono ?_; rintro e w' ⟨rfl, rfl⟩))
        go_round
        case rel => exact ⟨k + 1, hlt, by go_num, fun j hj hjk => if h : j = k then by subst h; exact unhide HN else hall j hj (by omega)⟩
        case measure => simp [intOf]; omega
      · have h1' : letB s[k].toNat = false := by simpa using h1
        rw [h1', Bool.false_or] at hnb
        by_cases h2 : digB s[k].toNat = true
        · rw [h2] at hnb
          have HN := hide hnb
          clear hnb h1
          go_wp2_with (first | (go_at_call 32; refine (letter_any _ _).mono ?_; rintro e w' ⟨rfl, rfl⟩; rw [h1']) | (go_at_call 33; refine (digit_any _ _).mono ?_; rintro e w' ⟨rfl, rfl⟩; rw [h2]))
          go_round
          case rel => exact ⟨k + 1, hlt, by go_num, fun j hj hjk => if h : j = k then by subst h; exact unhide HN else hall j hj (by omega)⟩
          case measure => simp [intOf]; omega
        · have h2' : digB s[k].toNat = false := by simpa using h2
          rw [h2'] at hnb
          have HN := hide hnb
          clear hnb h1 h2
          go_wp2_with (first | (go_at_call 32; refine (letter_any _ _).mono ?_; rintro e w' ⟨rfl, rfl⟩; rw [h1']) | (go_at_call 33; refine (digit_any _ _).mono ?_; rintro e w' ⟨rfl, rfl⟩; rw [h2']))
          go_ret
          refine ⟨ret_bool ?_, rfl⟩
          have : s.data.toList.all nbB = false := by
            rw [← Bool.not_eq_true, all_of]; intro h; have := h k hlt; rw [unhide HN] at this; cases this
          rw [nameB, this]; simp
    · have hks : k = s.size := by omega
      subst hks
      have hall' : Hid (s.data.toList.all nbB = true) := all_of.2 fun j h => hall j h h
      by_cases h1 : 0 < s.size
      · by_cases h2 : s.size ≤ 30
        · go_wp2_with (go_at_call 34; refine (lower_any _ _).mono ?_; rintro e w' ⟨rfl, rfl⟩)
          go_ret
          refine ⟨ret_bool ?_, rfl⟩
          rw [nameB, unhide hall', first_of h1]; simp [h1, h2]
        · go_wp2_with fail
          go_ret
          refine ⟨ret_bool ?_, rfl⟩
          simp [nameB]; omega
      · go_wp2_with fail
        go_ret
        refine ⟨ret_bool ?_, rfl⟩
        simp [nameB]; omega

end Go.Proofs.Ytaggnncndbdmjaa
