/- The walks of szTerm and szTermS, by induction on the depth. -/
import Derived.Test.YtaggnncndbdmjaaRows
import Derived.Test.YtaggnncndbdmjaaTm
import Derived.WalkKit
import Derived.WalkSpells
import Derived.WalkLawsBesides
import Derived.BigQuiet
namespace Go.Proofs.Ytaggnncndbdmjaa
open Go.RowKit

/-- What szTerm hands back: what is left, or -1. -/
def left (t : Nat) (l : Int) : Int := if (t : Int) ≤ l then l - t else -1

def SzSaid (n : Nat) : Prop := ∀ (t : Tm n) (c0 c1 c2 c3 : Value) (l : Int) (w : World), TAt (Under w.heap.size) w n t c0 c1 c2 c3 → 0 ≤ l → l ≤ 1048576 →
  Calls Try.prog 4 #[.agg #[c0, c1, c2, c3], .int .i64 l] w fun e w' => e = .returned (.int .i64 (left (tot n t) l)) ∧ Below w.heap.size w w'

def SzSSaid (n : Nat) : Prop := ∀ (ks : List (Tm n)) (v : Value) (l : Int) (w : World), SAt (Under w.heap.size) w (TAt (Under w.heap.size) w n) ks v → 0 ≤ l → l ≤ 1048576 →
  Calls Try.prog 9 #[v, .int .i64 l] w fun e w' => e = .returned (.int .i64 (left (ks.length + totS ks) l)) ∧ Below w.heap.size w w'

theorem left_pos {t : Nat} {l : Int} (h : (t : Int) ≤ l) : left t l = l - t := if_pos h
theorem left_neg {t : Nat} {l : Int} (h : ¬ (t : Int) ≤ l) : left t l = -1 := if_neg h
theorem bcell {W w1 : World} (hb : Below W.heap.size W w1) : (∀ b o, b < W.heap.size → w1.cell? ⟨b, o, none⟩ = W.cell? ⟨b, o, none⟩) :=
  fun b o h => hb.cell (p := ⟨b, o, none⟩) h

set_option maxHeartbeats 400000 in
theorem szS_of {n : Nat} (h : SzSaid n) : SzSSaid n := by
  intro ks v l w hv hl0 hl1
  obtain ⟨a, cap, rfl, hlen, hcap, hel⟩ := hv
  by_cases hneg : l < ks.length
  · have hn : l - ks.length < 0 := by omega
    go_enter Try.func9, Try.ntmps9
    go_wp2_with fail
    go_ret
    exact ⟨ret_int (left_neg (by omega)).symm, Below.refl _ _⟩
  · have hn : ¬ l - ks.length < 0 := by omega
    have hlb : (ks.length : Int) ≤ l := by omega
    go_enter Try.func9, Try.ntmps9
    go_wp2_with fail
    go_loopw [1, 5] (fun lv iv wr => ∃ k : Nat, k ≤ ks.length ∧ iv = .int .i64 k ∧ (totS (ks.take k) : Int) + ks.length ≤ l ∧ lv = .int .i64 (l - ks.length - totS (ks.take k)) ∧ Below w.heap.size w wr) (fun _ iv _ => ks.length - (intOf iv).toNat)
    case atStart => exact ⟨0, by omega, rfl, by simp [totS]; omega, by simp [totS], Below.refl _ _⟩
    case round =>
      obtain ⟨k, hk, rfl, hle, rfl, hb⟩ := hrel
      by_cases hlt : k < ks.length
      · obtain ⟨b, off, d0, d1, d2, d3, rfl, hS, e0, e1, e2, e3, hr⟩ := hel k hlt
        have hbc := bcell hb
        have f0 := (hbc b _ hS).trans e0
        have f1 := (hbc b _ hS).trans e1
        have f2 := (hbc b _ hS).trans e2
        have f3 := (hbc b _ hS).trans e3
        clear hbc e0 e1 e2 e3
        have hts := totS_take ks k hlt
        have htl := totS_le ks (k + 1)
        by_cases hfit : (tot n ks[k] : Int) ≤ l - ks.length - totS (ks.take k)
        · have hnn : ¬ l - ks.length - totS (ks.take k) - tot n ks[k] < 0 := by omega
          have HT : Hid (totS (ks.take (k + 1)) = totS (ks.take k) + tot n ks[k]) := hts
          clear hts htl
          go_wp2_with (go_at_call 4; refine (h _ _ _ _ _ _ _ (hr.up hb) (by omega) (by omega)).mono ?_; rintro e w' ⟨rfl, hb2⟩; rw [left, if_pos hfit])
          go_roundw
          case rel => exact ⟨k + 1, hlt, by go_num, by rw [HT.out]; omega, by rw [HT.out]; congr 1; omega, hb.trans (hb2.mono hb.size)⟩
          case measure => simp [intOf]; omega
        · have hlast : ¬ ((ks.length + totS ks : Nat) : Int) ≤ l := by omega
          clear hts htl
          go_wp2_with (go_at_call 4; refine (h _ _ _ _ _ _ _ (hr.up hb) (by omega) (by omega)).mono ?_; rintro e w' ⟨rfl, hb2⟩; rw [left, if_neg hfit])
          go_ret
          exact ⟨ret_int (left_neg (by omega)).symm, hb.trans (hb2.mono hb.size)⟩
      · have hkk : k = ks.length := by omega
        subst hkk
        rw [List.take_length] at hle ⊢
        go_wp2_with fail
        go_ret
        exact ⟨ret_int (by rw [left_pos (by omega)]; omega), hb⟩

set_option maxHeartbeats 400000 in
theorem sz_of {n : Nat} (h : SzSSaid n) : SzSaid (n + 1) := by
  rintro ⟨kd, m, s, ks⟩ c0 c1 c2 c3 l w ⟨rfl, rfl, rfl, hk, hm, hs, hks⟩ hl0 hl1
  have hS := hks
  have hdef : tot (n + 1) (kd, m, s, ks) = s.size + (ks.length + totS ks) := rfl
  rw [hdef]
  by_cases h1 : (s.size : Int) ≤ l
  · have hn : ¬ l - s.size < 0 := by omega
    by_cases h2 : ((ks.length + totS ks : Nat) : Int) ≤ l - s.size
    · have hn2 : ¬ l - s.size - ((ks.length + totS ks : Nat) : Int) < 0 := by omega
      go_enter Try.func4, Try.ntmps4
      go_wp2_with (go_at_call 9; refine (h _ _ _ _ ((hks.up ((Below.refl _ _).alloc (Nat.le_refl _) _))) (by omega) (by omega)).mono ?_; rintro e w' ⟨rfl, hb2⟩; rw [left_pos h2])
      go_ret
      exact ⟨ret_int (by rw [left_pos (by omega)]; omega), ((Below.refl _ _).alloc (Nat.le_refl _) _).trans (hb2.mono (by simp))⟩
    · go_enter Try.func4, Try.ntmps4
      go_wp2_with (go_at_call 9; refine (h _ _ _ _ ((hks.up ((Below.refl _ _).alloc (Nat.le_refl _) _))) (by omega) (by omega)).mono ?_; rintro e w' ⟨rfl, hb2⟩; rw [left_neg h2])
      go_ret
      exact ⟨ret_int (by rw [left_neg (by omega)]), ((Below.refl _ _).alloc (Nat.le_refl _) _).trans (hb2.mono (by simp))⟩
  · have hn : l - s.size < 0 := by omega
    go_enter Try.func4, Try.ntmps4
    go_wp2_with fail
    go_ret
    exact ⟨ret_int (by rw [left_neg (by omega)]), (Below.refl _ _).alloc (Nat.le_refl _) _⟩

theorem sz_any : ∀ n, SzSaid n
  | 0 => fun t => t.elim
  | n + 1 => sz_of (szS_of (sz_any n))

end Go.Proofs.Ytaggnncndbdmjaa
