/- The bits of a row that is made. -/
import Derived.Test.YthikciimaegphaaGreatDoorBj6
import Derived.Test.YthikciimaegphaaGreatDoorQ3
namespace Go.Proofs.YthikciimaegphaaGreatDoor
open Go.RowKit Go.Deep

set_option maxRecDepth 100000 in
theorem rbits_nil (R : Nat) (n : Int) (w : World) (h0 : w.cell? ⟨R, 0, none⟩ = some (.int .i64 n)) (h1 : w.cell? ⟨R, 1, none⟩ = some (.slice none 0 0)) (hR : R < w.heap.size) :
    Calls Tryz.prog 25 #[.pointer (some ⟨R, 0, none⟩)] w fun e w' => e = .returned (.agg #[.int .i64 n, .string ⟨#[]⟩]) ∧ Below w.heap.size w w' := by
  have hcv := run_convert_bytes_nil (P := Tryz.prog) (w := (w.alloc (.cells #[.int .i64 0, .string ⟨#[]⟩] 25)).drew) 33 5 Tryz.underlying33 Tryz.underlying5 0 0 9 Tryz.underlying9
  have hE : (ByteArray.empty : ByteArray) = ⟨#[]⟩ := rfl
  rw [hE] at hcv
  go_enter Tryz.func25, Tryz.ntmps25
  go_wp2_with fail
  go_region
  go_wp2_with fail
  have hc0 : ((w.alloc (.cells #[.int .i64 n, .string ⟨#[]⟩] 25)).drew).cell? ⟨w.heap.size, 0, none⟩ = some (.int .i64 n) := (two_new w _ _ _).1
  have hc1 : ((w.alloc (.cells #[.int .i64 n, .string ⟨#[]⟩] 25)).drew).cell? ⟨w.heap.size, 1, none⟩ = some (.string ⟨#[]⟩) := (two_new w _ _ _).2
  exact bodyPost_ret (v := .agg #[.int .i64 n, .string ⟨#[]⟩]) (by simp [results, Tryz.results25, go_sem, hc0, hc1]) rfl ⟨rfl, ((Below.refl w.heap.size w).alloc (Nat.le_refl _) _).drew⟩

/-- bits of what join left. -/
theorem rbits_join (R base n : Nat) (X : List Int) (w w' : World) (hX : X.length = n) (hR : R < w'.heap.size) (h : JoinEnd R base n X w w') :
    Calls Tryz.prog 25 #[.pointer (some ⟨R, 0, none⟩)] w' fun e w2 => e = .returned (.agg #[.int .i64 n, .string (strB X)]) ∧ Below w'.heap.size w' w2 := by
  obtain ⟨v, h0, h1, f0, f1, hown, hb⟩ := h
  have hs : strB X = strOfNums (bytesAt X n) := by unfold strB; rw [hX]
  rcases hown.2 with ⟨rfl, hm⟩ | ⟨g, cap, cur, rfl, hbg, hh, hnc, hcm, hsz, htk⟩
  · have hnil : bytesAt X n = [] := List.eq_nil_of_length_eq_zero (by rw [bytesAt_length]; omega)
    rw [hs, hnil]
    exact rbits_nil R n w' h0 h1 hR
  · rw [hs]
    exact rbits_any R g ((n + 7) / 8) cap n (bytesAt X n) w' h0 h1 hR (by rw [bytesAt_length, hX]) (fun i hi => own_cell hown i hi) (Array.getElem?_eq_some_iff.1 hh).1

/-- What the two boxes and the place of the answer hold, behind anything that leaves them be. -/
theorem three_boxes (w : World) (a b c d e f : Value) (T1 T2 T3 : TypeId) {w' : World} (h : Below (w.heap.size + 3) (((w.alloc (.cells #[a, b] T1)).alloc (.cells #[c, d] T2)).alloc (.cells #[e, f] T3)) w') :
    (w'.cell? ⟨w.heap.size, 0, none⟩ = some a ∧ w'.cell? ⟨w.heap.size, 1, none⟩ = some b) ∧ (w'.cell? ⟨w.heap.size + 1, 0, none⟩ = some c ∧ w'.cell? ⟨w.heap.size + 1, 1, none⟩ = some d) ∧
      (w'.cell? ⟨w.heap.size + 2, 0, none⟩ = some e ∧ w'.cell? ⟨w.heap.size + 2, 1, none⟩ = some f) ∧ w'.frozen? ⟨w.heap.size + 2, 0, none⟩ = false ∧ w'.frozen? ⟨w.heap.size + 2, 1, none⟩ = false := by
  obtain ⟨k0, k1, k2⟩ := heap_three w (.cells #[a, b] T1) (.cells #[c, d] T2) (.cells #[e, f] T3)
  have q0 := (h.block w.heap.size (by omega)).trans k0
  have q1 := (h.block (w.heap.size + 1) (by omega)).trans k1
  have q2 := (h.block (w.heap.size + 2) (by omega)).trans k2
  exact ⟨⟨cell_of_heap q0 0, cell_of_heap q0 1⟩, ⟨cell_of_heap q1 0, cell_of_heap q1 1⟩, ⟨cell_of_heap q2 0, cell_of_heap q2 1⟩, by simp [World.frozen?, q2], by simp [World.frozen?, q2]⟩

/-- The answer is stored. -/
theorem below_answer {w W0 w' : World} (h0 : Below w.heap.size w W0) (h : Below W0.heap.size W0 w') (a b : Value) : Below w.heap.size w ((w'.setCell ⟨w.heap.size + 2, 0, none⟩ a).setCell ⟨w.heap.size + 2, 1, none⟩ b) :=
  ((h0.trans (h.mono h0.size)).setCell (p := ⟨w.heap.size + 2, 0, none⟩) (by show w.heap.size ≤ w.heap.size + 2; omega) _).setCell (p := ⟨w.heap.size + 2, 1, none⟩) (by show w.heap.size ≤ w.heap.size + 2; omega) _

end Go.Proofs.YthikciimaegphaaGreatDoor
/- eqBits. -/
namespace Go.Proofs.YthikciimaegphaaGreatDoor
open Go.RowKit Go.Deep

/-- What szBits hands back: what is left, or -1. -/
def leftB (s : ByteArray) (l : Int) : Int := if (s.size : Int) ≤ l then l - s.size else -1

/-- Two rows of bits, held against each other. -/
def sameB (n m : Int) (s r : ByteArray) : Bool := n == m && s.toList == r.toList

set_option maxRecDepth 100000 in
theorem eqB_any (n m : Int) (s r : ByteArray) (w : World) :
    Calls Tryz.prog 9 #[.agg #[.int .i64 n, .string s], .agg #[.int .i64 m, .string r]] w fun e w' => e = .returned (.bool (sameB n m s r)) ∧ Below w.heap.size w w' := by
  have hbb := ((Below.refl w.heap.size w).alloc (Nat.le_refl _) (.cells #[.int .i64 n, .string s] 25)).alloc (by simp) (.cells #[.int .i64 m, .string r] 25)
  have HB := hide hbb
  clear hbb
  cases h1 : (n == m)
  · have hr := hide (show sameB n m s r = false by unfold sameB; simp [h1])
    have h2 : (n != m) = true := by simp [bne, h1]
    clear h1
    go_enter Tryz.func9, Tryz.ntmps9
    go_wp2_with fail
    go_ret
    exact ⟨by rw [unhide hr]; rfl, unhide HB⟩
  · have h2 : (n != m) = false := by simp [bne, h1]
    cases h3 : (s.toList == r.toList)
    · have hr := hide (show sameB n m s r = false by unfold sameB; simp [h3])
      clear h1
      go_enter Tryz.func9, Tryz.ntmps9
      go_wp2_with fail
      go_ret
      exact ⟨by rw [unhide hr]; rfl, unhide HB⟩
    · have hr := hide (show sameB n m s r = true by unfold sameB; simp only [h1, h3]; rfl)
      clear h1
      go_enter Tryz.func9, Tryz.ntmps9
      go_wp2_with fail
      go_ret
      exact ⟨by rw [unhide hr]; rfl, unhide HB⟩

end Go.Proofs.YthikciimaegphaaGreatDoor
