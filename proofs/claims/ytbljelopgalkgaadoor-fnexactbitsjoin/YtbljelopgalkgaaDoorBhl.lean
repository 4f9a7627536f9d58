/- The laws' helpers on rows of bits: szBits, toBits. -/
import Derived.Test.YtbljelopgalkgaaDoorBis
namespace Go.Proofs.YtbljelopgalkgaaDoor
open Go.RowKit Go.Deep

/-- What szBits hands back: what is left, or -1. -/
def leftB (s : ByteArray) (l : Int) : Int := if (s.size : Int) ≤ l then l - s.size else -1

set_option maxRecDepth 100000 in
theorem szB_any (n : Int) (s : ByteArray) (l : Int) (w : World) (hs : s.size ≤ 9223372036854775807) (h0 : 0 ≤ l) (hl : l ≤ 1048576) :
    Calls Tryd.prog 8 #[.agg #[.int .i64 n, .string s], .int .i64 l] w fun e w' => e = .returned (.int .i64 (leftB s l)) ∧ Below w.heap.size w w' := by
  by_cases h : (s.size : Int) ≤ l
  · have hr := hide (show leftB s l = l - s.size from if_pos h)
    have h1 : ¬ l - (s.size : Int) < 0 := by omega
    go_enter Tryd.func8, Tryd.ntmps8
    go_wp2_with fail
    go_ret
    exact ⟨by rw [unhide hr]; rfl, (Below.refl w.heap.size w).alloc (Nat.le_refl _) _⟩
  · have hr := hide (show leftB s l = -1 from if_neg h)
    have h1 : l - (s.size : Int) < 0 := by omega
    go_enter Tryd.func8, Tryd.ntmps8
    go_wp2_with fail
    go_ret
    exact ⟨by rw [unhide hr]; rfl, (Below.refl w.heap.size w).alloc (Nat.le_refl _) _⟩

set_option maxRecDepth 100000 in
theorem toB_any (n : Int) (s : ByteArray) (w : World) :
    Calls Tryd.prog 10 #[.agg #[.int .i64 n, .string s]] w fun e w' => e = .returned (.agg #[.int .i64 n, .string s]) ∧ Below w.heap.size w w' := by
  go_enter Tryd.func10, Tryd.ntmps10
  go_wp2_with fail
  have hc := two_new (w.alloc (.cells #[.int .i64 n, .string s] 23)) (.int .i64 n) (.string s) 26
  simp only [World.size_alloc] at hc
  have hc0 := (World.cell?_alloc_past (w := (w.alloc (.cells #[.int .i64 n, .string s] 23)).alloc (.cells #[.int .i64 n, .string s] 26)) (.cells #[.int .i64 n, .string s] 26) _ _ (show w.heap.size + 1 < _ by simp)).trans hc.1
  have hc1 := (World.cell?_alloc_past (w := (w.alloc (.cells #[.int .i64 n, .string s] 23)).alloc (.cells #[.int .i64 n, .string s] 26)) (.cells #[.int .i64 n, .string s] 26) _ _ (show w.heap.size + 1 < _ by simp)).trans hc.2
  exact bodyPost_ret (v := .agg #[.int .i64 n, .string s]) (by simp [results, Tryd.results10, go_sem, hc0, hc1]) rfl ⟨rfl, (((Below.refl w.heap.size w).alloc (Nat.le_refl _) _).alloc (by simp) _).alloc (by simp; omega) _⟩

/-- Two rows of bits, held against each other. -/
def sameB (n m : Int) (s r : ByteArray) : Bool := n == m && s.toList == r.toList

set_option maxRecDepth 100000 in
theorem eqB_any (n m : Int) (s r : ByteArray) (w : World) :
    Calls Tryd.prog 14 #[.agg #[.int .i64 n, .string s], .agg #[.int .i64 m, .string r]] w fun e w' => e = .returned (.bool (sameB n m s r)) ∧ Below w.heap.size w w' := by
  have hbb := ((Below.refl w.heap.size w).alloc (Nat.le_refl _) (.cells #[.int .i64 n, .string s] 26)).alloc (by simp) (.cells #[.int .i64 m, .string r] 26)
  have HB := hide hbb
  clear hbb
  cases h1 : (n == m)
  · have hr := hide (show sameB n m s r = false by unfold sameB; simp [h1])
    have h2 : (n != m) = true := by simp [bne, h1]
    clear h1
    go_enter Tryd.func14, Tryd.ntmps14
    go_wp2_with fail
    go_ret
    exact ⟨by rw [unhide hr]; rfl, unhide HB⟩
  · have h2 : (n != m) = false := by simp [bne, h1]
    cases h3 : (s.toList == r.toList)
    · have hr := hide (show sameB n m s r = false by unfold sameB; simp [h3])
      clear h1
      go_enter Tryd.func14, Tryd.ntmps14
      go_wp2_with fail
      go_ret
      exact ⟨by rw [unhide hr]; rfl, unhide HB⟩
    · have hr := hide (show sameB n m s r = true by unfold sameB; simp only [h1, h3]; rfl)
      clear h1
      go_enter Tryd.func14, Tryd.ntmps14
      go_wp2_with fail
      go_ret
      exact ⟨by rw [unhide hr]; rfl, unhide HB⟩

end Go.Proofs.YtbljelopgalkgaaDoor
