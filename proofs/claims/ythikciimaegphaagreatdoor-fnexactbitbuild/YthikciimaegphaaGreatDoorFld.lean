/- impl's looks at one term's own fields: isName, fieldsFit; the counter. -/
import Derived.Test.YthikciimaegphaaGreatDoorOrd2
namespace Go.Proofs.YthikciimaegphaaGreatDoor
open Go.RowKit

set_option maxHeartbeats 400000 in
theorem ilower_any (b : Int) (w : World) : Calls Tryz.prog 90 #[.int .u8 b] w fun e w' => e = .returned (.bool (lowB b)) ∧ w' = w := by
  by_cases h1 : 97 ≤ b
  · by_cases h2 : b ≤ 122
    all_goals
      go_enter Tryz.func90, Tryz.ntmps90
      go_wp2
      go_ret
      exact ⟨ret_bool (by simp only [lowB]; simp; omega), rfl⟩
  · go_enter Tryz.func90, Tryz.ntmps90
    go_wp2
    go_ret
    exact ⟨ret_bool (by simp only [lowB]; simp; omega), rfl⟩

set_option maxHeartbeats 400000 in
theorem idigit_any (b : Int) (w : World) : Calls Tryz.prog 93 #[.int .u8 b] w fun e w' => e = .returned (.bool (digB b)) ∧ w' = w := by
  by_cases h1 : 48 ≤ b
  · by_cases h2 : b ≤ 57
    all_goals
      go_enter Tryz.func93, Tryz.ntmps93
      go_wp2
      go_ret
      exact ⟨ret_bool (by simp only [digB]; simp; omega), rfl⟩
  · go_enter Tryz.func93, Tryz.ntmps93
    go_wp2
    go_ret
    exact ⟨ret_bool (by simp only [digB]; simp; omega), rfl⟩

/-- A byte that may stand in a name, as a number. -/
def nbI (b : Int) : Bool := letB b || digB b
theorem nbI_true {b : Int} : nbI b = true ↔ (97 ≤ b ∧ b ≤ 122) ∨ (65 ≤ b ∧ b ≤ 90) ∨ b = 95 ∨ (48 ≤ b ∧ b ≤ 57) := by
  unfold nbI; rw [Bool.or_eq_true, letB_true, digB_true]; omega

set_option maxHeartbeats 1000000 in
theorem nameByte_any (b : Int) (w : World) : Calls Tryz.prog 91 #[.int .u8 b] w fun e w' => e = .returned (.bool (nbI b)) ∧ w' = w := by
  by_cases h1 : lowB b = true
  · have h2 := lowB_true.1 h1
    go_enter Tryz.func91, Tryz.ntmps91
    go_wp2_with (go_at_call 90; refine (ilower_any _ _).mono ?_; rintro e w' ⟨rfl, rfl⟩; rw [h1])
    go_ret
    exact ⟨ret_bool (nbI_true.2 (by omega)).symm, rfl⟩
  · have h2 : ¬ (97 ≤ b ∧ b ≤ 122) := fun h => h1 (lowB_true.2 h)
    have h1 : lowB b = false := by simpa using h1
    by_cases h5 : digB b = true
    · have h6 := digB_true.1 h5
      have hn : ¬ 65 ≤ b := by omega
      go_enter Tryz.func91, Tryz.ntmps91
      go_wp2_with (first | (go_at_call 90; refine (ilower_any _ _).mono ?_; rintro e w' ⟨rfl, rfl⟩; rw [h1]) | (go_at_call 93; refine (idigit_any _ _).mono ?_; rintro e w' ⟨rfl, rfl⟩; rw [h5]))
      go_ret
      exact ⟨ret_bool (nbI_true.2 (by omega)).symm, rfl⟩
    · have h6 : ¬ (48 ≤ b ∧ b ≤ 57) := fun h => h5 (digB_true.2 h)
      have h5 : digB b = false := by simpa using h5
      have H26 := hide (And.intro h2 h6)
      clear h2 h6
      by_cases h3 : 65 ≤ b
      · by_cases h4 : b ≤ 90
        · go_enter Tryz.func91, Tryz.ntmps91
          go_wp2_with (first | (go_at_call 90; refine (ilower_any _ _).mono ?_; rintro e w' ⟨rfl, rfl⟩; rw [h1]) | (go_at_call 93; refine (idigit_any _ _).mono ?_; rintro e w' ⟨rfl, rfl⟩; rw [h5]))
          go_ret
          exact ⟨ret_bool (nbI_true.2 (by omega)).symm, rfl⟩
        · go_enter Tryz.func91, Tryz.ntmps91
          go_wp2_with (first | (go_at_call 90; refine (ilower_any _ _).mono ?_; rintro e w' ⟨rfl, rfl⟩; rw [h1]) | (go_at_call 93; refine (idigit_any _ _).mono ?_; rintro e w' ⟨rfl, rfl⟩; rw [h5]))
          go_ret
          exact ⟨ret_bool (by obtain ⟨g1, g2⟩ := unhide H26; rw [Bool.eq_iff_iff, nbI_true]; simp; omega), rfl⟩
      · go_enter Tryz.func91, Tryz.ntmps91
        go_wp2_with (first | (go_at_call 90; refine (ilower_any _ _).mono ?_; rintro e w' ⟨rfl, rfl⟩; rw [h1]) | (go_at_call 93; refine (idigit_any _ _).mono ?_; rintro e w' ⟨rfl, rfl⟩; rw [h5]))
        go_ret
        exact ⟨ret_bool (by obtain ⟨g1, g2⟩ := unhide H26; rw [Bool.eq_iff_iff, nbI_true]; simp; omega), rfl⟩

set_option maxHeartbeats 1000000 in
theorem isName_any (s : ByteArray) (w : World) (hs : s.size ≤ 2 ^ 47) : Calls Tryz.prog 87 #[.string s] w fun e w' => e = .returned (.bool (nameB s)) ∧ w' = w := by
  by_cases h1 : s.size = 0
  · have hz : Hid (nameB s = false) := by show nameB s = false; unfold nameB; rw [decide_eq_false (by omega)]; rfl
    go_enter Tryz.func87, Tryz.ntmps87
    go_wp2_with fail
    go_ret
    exact ⟨ret_bool (unhide hz).symm, rfl⟩
  · have h1' : ((s.size : Int) == 0) = false := by simpa using h1
    have hpos : 0 < s.size := by omega
    clear h1
    by_cases h2 : s.size ≤ 30
    case neg =>
      have hz : Hid (nameB s = false) := by show nameB s = false; unfold nameB; rw [decide_eq_false h2, Bool.and_false]; rfl
      go_enter Tryz.func87, Tryz.ntmps87
      go_wp2_with fail
      go_ret
      exact ⟨ret_bool (unhide hz).symm, rfl⟩
    by_cases h3 : lowB s[0].toNat = true
    case neg =>
      have h3' : lowB s[0].toNat = false := by simpa using h3
      have hz : Hid (nameB s = false) := by show nameB s = false; unfold nameB; rw [first_of hpos, h3', Bool.and_false]
      clear h3
      go_enter Tryz.func87, Tryz.ntmps87
      go_wp2_with (go_at_call 90; refine (ilower_any _ _).mono ?_; rintro e w' ⟨rfl, rfl⟩; rw [h3'])
      go_ret
      exact ⟨ret_bool (unhide hz).symm, rfl⟩
    have hnm : Hid (nameB s = s.data.toList.all nbB) := by
      show nameB s = _
      unfold nameB; rw [first_of hpos, h3, decide_eq_true hpos, decide_eq_true h2]; simp
    go_enter Tryz.func87, Tryz.ntmps87
    go_wp2_with (go_at_call 90; refine (ilower_any _ _).mono ?_; rintro e w' ⟨rfl, rfl⟩; rw [h3])
    go_loop [20] (fun i => ∃ k : Nat, k ≤ s.size ∧ i = .int .i64 k ∧ ∀ j (h : j < s.size), j < k → nbB s[j] = true) (fun i => s.size - (intOf i).toNat)
    case atStart => exact ⟨0, Nat.zero_le _, rfl, fun j _ h => absurd h (by omega)⟩
    case round =>
      obtain ⟨k, hk, rfl, hall⟩ := hrel
      have HALL := hide hall
      clear hall
      by_cases hlt : k < s.size
      · have hnb : nbB s[k] = nbI s[k].toNat := rfl
        by_cases g1 : nbI s[k].toNat = true
        · have HN := hide (hnb.trans g1)
          clear hnb
          go_wp2_with (go_at_call 91; refine (nameByte_any _ _).mono ?_; rintro e w' ⟨rfl, rfl⟩; rw [g1])
          go_round
          case rel => exact ⟨k + 1, hlt, by go_num, fun j hj hjk => if h : j = k then by subst h; exact unhide HN else unhide HALL j hj (by omega)⟩
          case measure => simp [intOf]; omega
        · have g1' : nbI s[k].toNat = false := by simpa using g1
          have HN := hide (hnb.trans g1')
          clear hnb g1
          go_wp2_with (go_at_call 91; refine (nameByte_any _ _).mono ?_; rintro e w' ⟨rfl, rfl⟩; rw [g1'])
          go_ret
          refine ⟨ret_bool ?_, rfl⟩
          have : s.data.toList.all nbB = false := by
            rw [← Bool.not_eq_true, all_of]; intro h; have := h k hlt; rw [unhide HN] at this; cases this
          rw [unhide hnm, this]
      · have hks : k = s.size := by omega
        subst hks
        go_wp2_with fail
        go_ret
        exact ⟨ret_bool (by rw [unhide hnm, all_of.2 fun j h => unhide HALL j h h]), rfl⟩

/-- fieldsFit looks as fitB says. -/
def FitsSaid : Prop := ∀ (k i : Int) (s : ByteArray) (a : Option Addr) (l cap : Nat) (w : World), s.size ≤ 2 ^ 47 → l ≤ cap → l ≤ 2 ^ 47 →
  Calls Tryz.prog 84 #[.agg #[.int .i64 k, .int .i64 i, .string s, .slice a l cap]] w fun e w' => e = .returned (.bool (fitB k i s l)) ∧ Below w.heap.size w w'

theorem str_empty {s : ByteArray} (h : s.size = 0) : s.toList.isEmpty = true := by
  have h1 : s.data = #[] := Array.size_eq_zero_iff.1 h
  rw [ByteArray.toList_eq, h1]; rfl
theorem str_full {s : ByteArray} (h : s.size ≠ 0) : s.toList.isEmpty = false := by
  rw [ByteArray.toList_eq, ← Bool.not_eq_true, List.isEmpty_iff]
  intro h'
  have h2 : s.data.toList.length = 0 := by rw [h']; rfl
  exact h h2

set_option maxRecDepth 100000 in
set_option maxHeartbeats 4000000 in
theorem fieldsFit_any : FitsSaid := by
  intro k i s a l cap w hs hl hc
  have hbx := fun x : Obj => (Below.refl w.heap.size w).alloc (Nat.le_refl _) x
  by_cases g1 : k = 1
  case pos =>
    subst g1
    by_cases hlo : (-1000000000000000 : Int) ≤ i
    case neg =>
      have HF : Hid (fitB 1 i s l = false) := by
        show fitB 1 i s l = false
        rw [fit_1, decide_eq_false hlo]; simp
      go_enter Tryz.func84, Tryz.ntmps84
      go_wp2_with fail
      go_ret
      exact ⟨ret_bool (by first | (rw [unhide HF]; done) | (have hq := unhide HF; rw [hi0] at hq; rw [hq])), hbx _⟩
    by_cases hhi : i ≤ 1000000000000000
    case neg =>
      have HF : Hid (fitB 1 i s l = false) := by
        show fitB 1 i s l = false
        rw [fit_1, decide_eq_true hlo, decide_eq_false hhi]; simp
      go_enter Tryz.func84, Tryz.ntmps84
      go_wp2_with fail
      go_ret
      exact ⟨ret_bool (by first | (rw [unhide HF]; done) | (have hq := unhide HF; rw [hi0] at hq; rw [hq])), hbx _⟩
    by_cases hse : s.size = 0
    case neg =>
      have HF : Hid (fitB 1 i s l = false) := by
        show fitB 1 i s l = false
        rw [fit_1, decide_eq_true hlo, decide_eq_true hhi, decide_eq_false hse]; simp
      have hse' := str_full hse
      go_enter Tryz.func84, Tryz.ntmps84
      go_wp2_with fail
      go_ret
      exact ⟨ret_bool (by first | (rw [unhide HF]; done) | (have hq := unhide HF; rw [hi0] at hq; rw [hq])), hbx _⟩
    have hse' := str_empty hse
    by_cases hle : l = 0
    case neg =>
      have HF : Hid (fitB 1 i s l = false) := by
        show fitB 1 i s l = false
        rw [fit_1, decide_eq_true hlo, decide_eq_true hhi, decide_eq_true hse, decide_eq_false hle]; simp
      have hle' : ((l : Int) == 0) = false := by simpa using hle
      go_enter Tryz.func84, Tryz.ntmps84
      go_wp2_with fail
      go_ret
      exact ⟨ret_bool (by first | (rw [unhide HF]; done) | (have hq := unhide HF; rw [hi0] at hq; rw [hq])), hbx _⟩
    have hle' : ((l : Int) == 0) = true := by simp [hle]
    have HF : Hid (fitB 1 i s l = true) := by
      show fitB 1 i s l = true
      rw [fit_1, decide_eq_true hlo, decide_eq_true hhi, decide_eq_true hse, decide_eq_true hle]; rfl
    go_enter Tryz.func84, Tryz.ntmps84
    go_wp2_with fail
    go_ret
    exact ⟨ret_bool (by first | (rw [unhide HF]; done) | (have hq := unhide HF; rw [hi0] at hq; rw [hq])), hbx _⟩
  have g1' : (k == 1) = false := by simpa using g1
  by_cases g3 : k = 3
  case pos =>
    subst g3
    by_cases hlo : (0 : Int) ≤ i
    case neg =>
      have HF : Hid (fitB 3 i s l = false) := by
        show fitB 3 i s l = false
        rw [fit_3, decide_eq_false hlo]; simp
      go_enter Tryz.func84, Tryz.ntmps84
      go_wp2_with fail
      go_ret
      exact ⟨ret_bool (by first | (rw [unhide HF]; done) | (have hq := unhide HF; rw [hi0] at hq; rw [hq])), hbx _⟩
    by_cases hhi : i ≤ 1000000000000000
    case neg =>
      have HF : Hid (fitB 3 i s l = false) := by
        show fitB 3 i s l = false
        rw [fit_3, decide_eq_true hlo, decide_eq_false hhi]; simp
      go_enter Tryz.func84, Tryz.ntmps84
      go_wp2_with fail
      go_ret
      exact ⟨ret_bool (by first | (rw [unhide HF]; done) | (have hq := unhide HF; rw [hi0] at hq; rw [hq])), hbx _⟩
    by_cases hse : s.size = 0
    case neg =>
      have HF : Hid (fitB 3 i s l = false) := by
        show fitB 3 i s l = false
        rw [fit_3, decide_eq_true hlo, decide_eq_true hhi, decide_eq_false hse]; simp
      have hse' := str_full hse
      go_enter Tryz.func84, Tryz.ntmps84
      go_wp2_with fail
      go_ret
      exact ⟨ret_bool (by first | (rw [unhide HF]; done) | (have hq := unhide HF; rw [hi0] at hq; rw [hq])), hbx _⟩
    have hse' := str_empty hse
    by_cases hle : l = 0
    case neg =>
      have HF : Hid (fitB 3 i s l = false) := by
        show fitB 3 i s l = false
        rw [fit_3, decide_eq_true hlo, decide_eq_true hhi, decide_eq_true hse, decide_eq_false hle]; simp
      have hle' : ((l : Int) == 0) = false := by simpa using hle
      go_enter Tryz.func84, Tryz.ntmps84
      go_wp2_with fail
      go_ret
      exact ⟨ret_bool (by first | (rw [unhide HF]; done) | (have hq := unhide HF; rw [hi0] at hq; rw [hq])), hbx _⟩
    have hle' : ((l : Int) == 0) = true := by simp [hle]
    have HF : Hid (fitB 3 i s l = true) := by
      show fitB 3 i s l = true
      rw [fit_3, decide_eq_true hlo, decide_eq_true hhi, decide_eq_true hse, decide_eq_true hle]; rfl
    go_enter Tryz.func84, Tryz.ntmps84
    go_wp2_with fail
    go_ret
    exact ⟨ret_bool (by first | (rw [unhide HF]; done) | (have hq := unhide HF; rw [hi0] at hq; rw [hq])), hbx _⟩
  have g3' : (k == 3) = false := by simpa using g3
  by_cases g5 : k = 5
  case pos =>
    subst g5
    by_cases hlo : (0 : Int) ≤ i
    case neg =>
      have HF : Hid (fitB 5 i s l = false) := by
        show fitB 5 i s l = false
        rw [fit_5, decide_eq_false hlo]; simp
      go_enter Tryz.func84, Tryz.ntmps84
      go_wp2_with fail
      go_ret
      exact ⟨ret_bool (by first | (rw [unhide HF]; done) | (have hq := unhide HF; rw [hi0] at hq; rw [hq])), hbx _⟩
    by_cases hhi : i ≤ 1000000000000000
    case neg =>
      have HF : Hid (fitB 5 i s l = false) := by
        show fitB 5 i s l = false
        rw [fit_5, decide_eq_true hlo, decide_eq_false hhi]; simp
      go_enter Tryz.func84, Tryz.ntmps84
      go_wp2_with fail
      go_ret
      exact ⟨ret_bool (by first | (rw [unhide HF]; done) | (have hq := unhide HF; rw [hi0] at hq; rw [hq])), hbx _⟩
    by_cases hse : s.size = 0
    case neg =>
      have HF : Hid (fitB 5 i s l = false) := by
        show fitB 5 i s l = false
        rw [fit_5, decide_eq_true hlo, decide_eq_true hhi, decide_eq_false hse]; simp
      have hse' := str_full hse
      go_enter Tryz.func84, Tryz.ntmps84
      go_wp2_with fail
      go_ret
      exact ⟨ret_bool (by first | (rw [unhide HF]; done) | (have hq := unhide HF; rw [hi0] at hq; rw [hq])), hbx _⟩
    have hse' := str_empty hse
    by_cases hle : l = 0
    case neg =>
      have HF : Hid (fitB 5 i s l = false) := by
        show fitB 5 i s l = false
        rw [fit_5, decide_eq_true hlo, decide_eq_true hhi, decide_eq_true hse, decide_eq_false hle]; simp
      have hle' : ((l : Int) == 0) = false := by simpa using hle
      go_enter Tryz.func84, Tryz.ntmps84
      go_wp2_with fail
      go_ret
      exact ⟨ret_bool (by first | (rw [unhide HF]; done) | (have hq := unhide HF; rw [hi0] at hq; rw [hq])), hbx _⟩
    have hle' : ((l : Int) == 0) = true := by simp [hle]
    have HF : Hid (fitB 5 i s l = true) := by
      show fitB 5 i s l = true
      rw [fit_5, decide_eq_true hlo, decide_eq_true hhi, decide_eq_true hse, decide_eq_true hle]; rfl
    go_enter Tryz.func84, Tryz.ntmps84
    go_wp2_with fail
    go_ret
    exact ⟨ret_bool (by first | (rw [unhide HF]; done) | (have hq := unhide HF; rw [hi0] at hq; rw [hq])), hbx _⟩
  have g5' : (k == 5) = false := by simpa using g5
  by_cases g4 : k = 4
  case pos =>
    subst g4
    by_cases hlo : (0 : Int) ≤ i
    case neg =>
      have HF : Hid (fitB 4 i s l = false) := by
        show fitB 4 i s l = false
        rw [fit_4, decide_eq_false hlo]; simp
      go_enter Tryz.func84, Tryz.ntmps84
      go_wp2_with fail
      go_ret
      exact ⟨ret_bool (by first | (rw [unhide HF]; done) | (have hq := unhide HF; rw [hi0] at hq; rw [hq])), hbx _⟩
    by_cases hhi : i ≤ 1000000000000000
    case neg =>
      have HF : Hid (fitB 4 i s l = false) := by
        show fitB 4 i s l = false
        rw [fit_4, decide_eq_true hlo, decide_eq_false hhi]; simp
      go_enter Tryz.func84, Tryz.ntmps84
      go_wp2_with fail
      go_ret
      exact ⟨ret_bool (by first | (rw [unhide HF]; done) | (have hq := unhide HF; rw [hi0] at hq; rw [hq])), hbx _⟩
    by_cases hse : s.size = 0
    case neg =>
      have HF : Hid (fitB 4 i s l = false) := by
        show fitB 4 i s l = false
        rw [fit_4, decide_eq_true hlo, decide_eq_true hhi, decide_eq_false hse]; simp
      have hse' := str_full hse
      go_enter Tryz.func84, Tryz.ntmps84
      go_wp2_with fail
      go_ret
      exact ⟨ret_bool (by first | (rw [unhide HF]; done) | (have hq := unhide HF; rw [hi0] at hq; rw [hq])), hbx _⟩
    have hse' := str_empty hse
    have HF : Hid (fitB 4 i s l = true) := by
      show fitB 4 i s l = true
      rw [fit_4, decide_eq_true hlo, decide_eq_true hhi, decide_eq_true hse]; rfl
    go_enter Tryz.func84, Tryz.ntmps84
    go_wp2_with fail
    go_ret
    exact ⟨ret_bool (by first | (rw [unhide HF]; done) | (have hq := unhide HF; rw [hi0] at hq; rw [hq])), hbx _⟩
  have g4' : (k == 4) = false := by simpa using g4
  by_cases g6 : k = 6
  case pos =>
    subst g6
    by_cases hi0 : i = 0
    case neg =>
      have HF : Hid (fitB 6 i s l = false) := by
        show fitB 6 i s l = false
        rw [fit_6, decide_eq_false hi0]; simp
      have hi0' : (i == 0) = false := by simpa using hi0
      go_enter Tryz.func84, Tryz.ntmps84
      go_wp2_with fail
      go_ret
      exact ⟨ret_bool (by first | (rw [unhide HF]; done) | (have hq := unhide HF; rw [hi0] at hq; rw [hq])), hbx _⟩
    by_cases hse : s.size = 0
    case neg =>
      have HF : Hid (fitB 6 i s l = false) := by
        show fitB 6 i s l = false
        rw [fit_6, decide_eq_true hi0, decide_eq_false hse]; simp
      have hse' := str_full hse
      go_enter Tryz.func84, Tryz.ntmps84
      go_wp2_with fail
      go_ret
      exact ⟨ret_bool (by first | (rw [unhide HF]; done) | (have hq := unhide HF; rw [hi0] at hq; rw [hq])), hbx _⟩
    have hse' := str_empty hse
    have HF : Hid (fitB 6 i s l = true) := by
      show fitB 6 i s l = true
      rw [fit_6, decide_eq_true hi0, decide_eq_true hse]; rfl
    go_enter Tryz.func84, Tryz.ntmps84
    go_wp2_with fail
    go_ret
    exact ⟨ret_bool (by first | (rw [unhide HF]; done) | (have hq := unhide HF; rw [hi0] at hq; rw [hq])), hbx _⟩
  have g6' : (k == 6) = false := by simpa using g6
  by_cases g8 : k = 8
  case pos =>
    subst g8
    by_cases hi0 : i = 0
    case neg =>
      have HF : Hid (fitB 8 i s l = false) := by
        show fitB 8 i s l = false
        rw [fit_8, decide_eq_false hi0]; simp
      have hi0' : (i == 0) = false := by simpa using hi0
      go_enter Tryz.func84, Tryz.ntmps84
      go_wp2_with fail
      go_ret
      exact ⟨ret_bool (by first | (rw [unhide HF]; done) | (have hq := unhide HF; rw [hi0] at hq; rw [hq])), hbx _⟩
    by_cases hse : s.size = 0
    case neg =>
      have HF : Hid (fitB 8 i s l = false) := by
        show fitB 8 i s l = false
        rw [fit_8, decide_eq_true hi0, decide_eq_false hse]; simp
      have hse' := str_full hse
      go_enter Tryz.func84, Tryz.ntmps84
      go_wp2_with fail
      go_ret
      exact ⟨ret_bool (by first | (rw [unhide HF]; done) | (have hq := unhide HF; rw [hi0] at hq; rw [hq])), hbx _⟩
    have hse' := str_empty hse
    have HF : Hid (fitB 8 i s l = true) := by
      show fitB 8 i s l = true
      rw [fit_8, decide_eq_true hi0, decide_eq_true hse]; rfl
    go_enter Tryz.func84, Tryz.ntmps84
    go_wp2_with fail
    go_ret
    exact ⟨ret_bool (by first | (rw [unhide HF]; done) | (have hq := unhide HF; rw [hi0] at hq; rw [hq])), hbx _⟩
  have g8' : (k == 8) = false := by simpa using g8
  by_cases g7 : k = 7
  case pos =>
    subst g7
    by_cases hi0 : i = 0
    case neg =>
      have HF : Hid (fitB 7 i s l = false) := by
        show fitB 7 i s l = false
        rw [fit_7, decide_eq_false hi0]; simp
      have hi0' : (i == 0) = false := by simpa using hi0
      go_enter Tryz.func84, Tryz.ntmps84
      go_wp2_with fail
      go_ret
      exact ⟨ret_bool (by first | (rw [unhide HF]; done) | (have hq := unhide HF; rw [hi0] at hq; rw [hq])), hbx _⟩
    by_cases hse : s.size = 0
    case neg =>
      have HF : Hid (fitB 7 i s l = false) := by
        show fitB 7 i s l = false
        rw [fit_7, decide_eq_true hi0, decide_eq_false hse]; simp
      have hse' := str_full hse
      go_enter Tryz.func84, Tryz.ntmps84
      go_wp2_with fail
      go_ret
      exact ⟨ret_bool (by first | (rw [unhide HF]; done) | (have hq := unhide HF; rw [hi0] at hq; rw [hq])), hbx _⟩
    have hse' := str_empty hse
    by_cases hev : l % 2 = 0
    case neg =>
      have HF : Hid (fitB 7 i s l = false) := by
        show fitB 7 i s l = false
        rw [fit_7, decide_eq_true hi0, decide_eq_true hse, decide_eq_false hev]; simp
      have hev' : ((l : Int) % 2 == 0) = false := by simp; omega
      go_enter Tryz.func84, Tryz.ntmps84
      go_wp2_with fail
      go_ret
      exact ⟨ret_bool (by first | (rw [unhide HF]; done) | (have hq := unhide HF; rw [hi0] at hq; rw [hq])), hbx _⟩
    have hev' : ((l : Int) % 2 == 0) = true := by simp; omega
    have HF : Hid (fitB 7 i s l = true) := by
      show fitB 7 i s l = true
      rw [fit_7, decide_eq_true hi0, decide_eq_true hse, decide_eq_true hev]; rfl
    go_enter Tryz.func84, Tryz.ntmps84
    go_wp2_with fail
    go_ret
    exact ⟨ret_bool (by first | (rw [unhide HF]; done) | (have hq := unhide HF; rw [hi0] at hq; rw [hq])), hbx _⟩
  have g7' : (k == 7) = false := by simpa using g7
  by_cases g9 : k = 9
  case pos =>
    subst g9
    by_cases hi0 : i = 0
    case neg =>
      have HF : Hid (fitB 9 i s l = false) := by
        show fitB 9 i s l = false
        rw [fit_9, decide_eq_false hi0]; simp
      have hi0' : (i == 0) = false := by simpa using hi0
      go_enter Tryz.func84, Tryz.ntmps84
      go_wp2_with fail
      go_ret
      exact ⟨ret_bool (by first | (rw [unhide HF]; done) | (have hq := unhide HF; rw [hi0] at hq; rw [hq])), hbx _⟩
    by_cases h4k : s.size ≤ 4000
    case neg =>
      have HF : Hid (fitB 9 i s l = false) := by
        show fitB 9 i s l = false
        rw [fit_9, decide_eq_true hi0, decide_eq_false h4k]; simp
      go_enter Tryz.func84, Tryz.ntmps84
      go_wp2_with fail
      go_ret
      exact ⟨ret_bool (by first | (rw [unhide HF]; done) | (have hq := unhide HF; rw [hi0] at hq; rw [hq])), hbx _⟩
    by_cases hle : l = 0
    case neg =>
      have HF : Hid (fitB 9 i s l = false) := by
        show fitB 9 i s l = false
        rw [fit_9, decide_eq_true hi0, decide_eq_true h4k, decide_eq_false hle]; simp
      have hle' : ((l : Int) == 0) = false := by simpa using hle
      go_enter Tryz.func84, Tryz.ntmps84
      go_wp2_with fail
      go_ret
      exact ⟨ret_bool (by first | (rw [unhide HF]; done) | (have hq := unhide HF; rw [hi0] at hq; rw [hq])), hbx _⟩
    have hle' : ((l : Int) == 0) = true := by simp [hle]
    have HF : Hid (fitB 9 i s l = true) := by
      show fitB 9 i s l = true
      rw [fit_9, decide_eq_true hi0, decide_eq_true h4k, decide_eq_true hle]; rfl
    go_enter Tryz.func84, Tryz.ntmps84
    go_wp2_with fail
    go_ret
    exact ⟨ret_bool (by first | (rw [unhide HF]; done) | (have hq := unhide HF; rw [hi0] at hq; rw [hq])), hbx _⟩
  have g9' : (k == 9) = false := by simpa using g9
  by_cases g2 : k = 2
  case pos =>
    subst g2
    by_cases hi0 : i = 0
    case neg =>
      have HF : Hid (fitB 2 i s l = false) := by
        show fitB 2 i s l = false
        rw [fit_2, decide_eq_false hi0]; simp
      have hi0' : (i == 0) = false := by simpa using hi0
      go_enter Tryz.func84, Tryz.ntmps84
      go_wp2_with fail
      go_ret
      exact ⟨ret_bool (by rw [unhide HF]), hbx _⟩
    subst hi0
    by_cases hnm : nameB s = true
    case neg =>
      have hnm' : nameB s = false := by simpa using hnm
      have HF : Hid (fitB 2 0 s l = false) := by
        show fitB 2 0 s l = false
        rw [fit_2, hnm']; simp
      clear hnm
      go_enter Tryz.func84, Tryz.ntmps84
      go_wp2_with (go_at_call 87; refine (isName_any _ _ hs).mono ?_; rintro e w' ⟨rfl, rfl⟩; rw [hnm'])
      go_ret
      exact ⟨ret_bool (by rw [unhide HF]), hbx _⟩
    by_cases hle : l = 0
    case neg =>
      have HF : Hid (fitB 2 0 s l = false) := by
        show fitB 2 0 s l = false
        rw [fit_2, decide_eq_false hle]; simp
      have hle' : ((l : Int) == 0) = false := by simpa using hle
      go_enter Tryz.func84, Tryz.ntmps84
      go_wp2_with (go_at_call 87; refine (isName_any _ _ hs).mono ?_; rintro e w' ⟨rfl, rfl⟩; rw [hnm])
      go_ret
      exact ⟨ret_bool (by rw [unhide HF]), hbx _⟩
    have HF : Hid (fitB 2 0 s l = true) := by
      show fitB 2 0 s l = true
      rw [fit_2, hnm, decide_eq_true hle]; rfl
    have hle' : ((l : Int) == 0) = true := by simp [hle]
    go_enter Tryz.func84, Tryz.ntmps84
    go_wp2_with (go_at_call 87; refine (isName_any _ _ hs).mono ?_; rintro e w' ⟨rfl, rfl⟩; rw [hnm])
    go_ret
    exact ⟨ret_bool (by rw [unhide HF]), hbx _⟩
  have g2' : (k == 2) = false := by simpa using g2
  have HF : Hid (fitB k i s l = false) := fit_else g1 g2 g3 g4 g5 g6 g7 g8 g9
  clear g1 g2 g3 g4 g5 g6 g7 g8 g9
  go_enter Tryz.func84, Tryz.ntmps84
  go_wp2_with fail
  go_ret
  exact ⟨ret_bool (by rw [unhide HF]), hbx _⟩

end Go.Proofs.YthikciimaegphaaGreatDoor
