/- spec.BitsCut. -/
import Derived.Test.YtbljelopgalkgaaDoorBok
import Derived.Test.YtbljelopgalkgaaDoorBpp
import Derived.Test.YtbljelopgalkgaaDoorBp2
namespace Go.Proofs.YtbljelopgalkgaaDoor
open Go.RowKit Go.Deep

/-- Some bits of a row. -/
def cutBits (s : ByteArray) (f k : Nat) : List Int := (List.range k).map fun i => bit s (f + i)
theorem cutBits_length (s : ByteArray) (f k : Nat) : (cutBits s f k).length = k := by simp [cutBits]
theorem cutBits_01 (s : ByteArray) (f k : Nat) : ∀ x ∈ cutBits s f k, x = 0 ∨ x = 1 := by
  intro x hx
  obtain ⟨i, _, rfl⟩ := List.mem_map.1 hx
  exact bit_01 s _
theorem cutBits_getD (s : ByteArray) (f k i : Nat) (h : i < k) : (cutBits s f k).getD i 0 = bit s (f + i) := by
  rw [List.getD_eq_getElem?_getD]; simp [cutBits, h]
theorem bitsOf_getD (s : ByteArray) (n i : Nat) (h : i < n) : (bitsOf s n).getD i 0 = bit s i := by
  rw [List.getD_eq_getElem?_getD, bitsOf_get s n i h]; rfl

/-- Whether some bits are all there. -/
abbrev cutOK (n : Int) (s : ByteArray) (f k : Int) : Prop := okS n s = true ∧ 0 ≤ f ∧ 0 ≤ k ∧ k ≤ n - f
/-- What BitsCut answers. -/
def cutAns (n : Int) (s : ByteArray) (f k : Int) : Value := match decide (cutOK n s f k) with
  | true => .tuple #[.agg #[.int .i64 k, .string (strB (cutBits s f.toNat k.toNat))], .int .i64 0]
  | false => .tuple #[.agg #[.int .i64 0, .string ⟨#[]⟩], .int .i64 1]
theorem cutAns_no {n : Int} {s : ByteArray} {f k : Int} (h : ¬ cutOK n s f k) : cutAns n s f k = .tuple #[.agg #[.int .i64 0, .string ⟨#[]⟩], .int .i64 1] := by unfold cutAns; rw [decide_eq_false h]
theorem cutAns_yes {n : Int} {s : ByteArray} {f k : Int} (h : cutOK n s f k) : cutAns n s f k = .tuple #[.agg #[.int .i64 k, .string (strB (cutBits s f.toNat k.toNat))], .int .i64 0] := by unfold cutAns; rw [decide_eq_true h]
theorem okS_len {n : Int} {s : ByteArray} (h : okS n s = true) : okLen n s := by
  by_cases g : okLen n s
  · exact g
  · rw [okS_false g] at h; cases h

/-- A slice of a row of bytes. -/
theorem RowAt.slice {w : World} {a : Option Addr} {len cap : Nat} {xs ys : List Int} (h : RowAt w (.slice a len cap) xs) (f k : Nat) (hfk : f + k ≤ xs.length) (hy : ys.length = k) (he : ∀ i, i < k → ys.getD i 0 = xs.getD (f + i) 0) :
    ∀ a', (0 < k → ∀ b off, a = some ⟨b, off, none⟩ → a' = some ⟨b, off + f, none⟩) → RowAt w (.slice a' k (cap - f)) ys := by
  intro a' ha
  obtain ⟨a0, cap0, h1, h2, h3⟩ := h
  simp only [Value.slice.injEq] at h1
  obtain ⟨rfl, rfl, rfl⟩ := h1
  refine ⟨a', _, by rw [hy], by omega, fun i hi => ?_⟩
  obtain ⟨b, off, g1, g2, g3⟩ := h3 (f + i) (by omega)
  refine ⟨b, off + f, ha (by omega) b off g1, g2, ?_⟩
  rw [he i (by omega), Nat.add_assoc]; exact g3

set_option maxRecDepth 100000 in
set_option maxHeartbeats 1000000 in
theorem sBitsCut_any (n : Int) (s : ByteArray) (f k : Int) (w : World) :
    Calls Tryd.prog 15 #[.agg #[.int .i64 n, .string s], .int .i64 f, .int .i64 k] w fun e w' => e = .returned (cutAns n s f k) ∧ Below w.heap.size w w' := by
  obtain ⟨W0, hW0⟩ : ∃ W0, W0 = (w.alloc (.cells #[.int .i64 n, .string s] 26)).alloc (.cells #[.int .i64 0, .string ⟨#[]⟩] 26) := ⟨_, rfl⟩
  have hs0 : W0.heap.size = w.heap.size + 2 := by rw [hW0]; simp
  have hb0 : Below w.heap.size w W0 := by rw [hW0]; exact ((Below.refl w.heap.size w).alloc (Nat.le_refl _) _).alloc (by simp) _
  have F : ∀ w', Below W0.heap.size W0 w' → w'.cell? ⟨w.heap.size, 0, none⟩ = some (.int .i64 n) ∧ w'.cell? ⟨w.heap.size, 1, none⟩ = some (.string s) := fun w' hb => by
    rw [hW0] at hb
    exact box2 w _ _ _ ((((Below.refl (w.heap.size + 1) (w.alloc (.cells #[.int .i64 n, .string s] 26))).alloc (by simp) _)).trans (hb.mono (by simp)))
  have G : ∀ w', Below W0.heap.size W0 w' → (w'.cell? ⟨w.heap.size + 1, 0, none⟩ = some (.int .i64 0) ∧ w'.cell? ⟨w.heap.size + 1, 1, none⟩ = some (.string ⟨#[]⟩)) ∧ ∀ o, w'.frozen? ⟨w.heap.size + 1, o, none⟩ = false := fun w' hb => by
    have h := box2 (w.alloc (.cells #[.int .i64 n, .string s] 26)) (.int .i64 0) (.string ⟨#[]⟩) 26 (w' := w') (by rw [hW0] at hb; simpa using hb)
    have h' := box2f (w.alloc (.cells #[.int .i64 n, .string s] 26)) (.int .i64 0) (.string ⟨#[]⟩) 26 (w' := w') (by rw [hW0] at hb; simpa using hb)
    simp only [World.size_alloc] at h h'
    exact ⟨h, h'⟩
  have HF := hide F
  have HG := hide G
  have Hb0 := hide hb0
  have HW := hide hW0
  have hok := hide (sOK_any n s W0)
  clear F G hb0
  cases hS : okS n s
  · have hr := hide (cutAns_no (n := n) (s := s) (f := f) (k := k) (fun h => by have := h.1; rw [hS] at this; cases this))
    go_enter Tryd.func15, Tryd.ntmps15
    go_wp2_with fail
    rw [← unhide HW]
    clear hW0
    refine (unhide hok).mono ?_
    rintro e w1 ⟨rfl, hb1⟩
    rw [hS]
    obtain ⟨f0, f1⟩ := unhide HF w1 hb1
    obtain ⟨⟨q0, q1⟩, q2⟩ := unhide HG w1 hb1
    have q20 := q2 0
    have q21 := q2 1
    have Hb1 := hide hb1
    clear hb1 q2
    go_wp2_with fail
    exact bodyPost_ret (v := .tuple #[.agg #[.int .i64 0, .string ⟨#[]⟩], .int .i64 1]) (by simp [results, Tryd.results15, go_sem, q0, q1]) rfl
      ⟨by rw [unhide hr], (((unhide Hb0).trans ((unhide Hb1).mono (unhide Hb0).size)).setCell (by show w.heap.size ≤ w.heap.size + 1; omega) _).setCell (by show w.heap.size ≤ w.heap.size + 1; omega) _⟩
  have hlen := okS_len hS
  obtain ⟨hl0, hl1, hl2⟩ := hlen
  by_cases h1 : f < 0
  · have hr := hide (cutAns_no (n := n) (s := s) (f := f) (k := k) (fun h => by have := h.2.1; omega))
    go_enter Tryd.func15, Tryd.ntmps15
    go_wp2_with fail
    rw [← unhide HW]
    clear hW0
    refine (unhide hok).mono ?_
    rintro e w1 ⟨rfl, hb1⟩
    rw [hS]
    obtain ⟨f0, f1⟩ := unhide HF w1 hb1
    obtain ⟨⟨q0, q1⟩, q2⟩ := unhide HG w1 hb1
    have q20 := q2 0
    have q21 := q2 1
    have Hb1 := hide hb1
    clear hb1 q2
    go_wp2_with fail
    exact bodyPost_ret (v := .tuple #[.agg #[.int .i64 0, .string ⟨#[]⟩], .int .i64 1]) (by simp [results, Tryd.results15, go_sem, q0, q1]) rfl
      ⟨by rw [unhide hr], (((unhide Hb0).trans ((unhide Hb1).mono (unhide Hb0).size)).setCell (by show w.heap.size ≤ w.heap.size + 1; omega) _).setCell (by show w.heap.size ≤ w.heap.size + 1; omega) _⟩
  by_cases h2 : k < 0
  · have hr := hide (cutAns_no (n := n) (s := s) (f := f) (k := k) (fun h => by have := h.2.2.1; omega))
    go_enter Tryd.func15, Tryd.ntmps15
    go_wp2_with fail
    rw [← unhide HW]
    clear hW0
    refine (unhide hok).mono ?_
    rintro e w1 ⟨rfl, hb1⟩
    rw [hS]
    obtain ⟨f0, f1⟩ := unhide HF w1 hb1
    obtain ⟨⟨q0, q1⟩, q2⟩ := unhide HG w1 hb1
    have q20 := q2 0
    have q21 := q2 1
    have Hb1 := hide hb1
    clear hb1 q2
    go_wp2_with fail
    exact bodyPost_ret (v := .tuple #[.agg #[.int .i64 0, .string ⟨#[]⟩], .int .i64 1]) (by simp [results, Tryd.results15, go_sem, q0, q1]) rfl
      ⟨by rw [unhide hr], (((unhide Hb0).trans ((unhide Hb1).mono (unhide Hb0).size)).setCell (by show w.heap.size ≤ w.heap.size + 1; omega) _).setCell (by show w.heap.size ≤ w.heap.size + 1; omega) _⟩
  by_cases h3 : n < f
  · have hr := hide (cutAns_no (n := n) (s := s) (f := f) (k := k) (fun h => by have := h.2.2.2; omega))
    go_enter Tryd.func15, Tryd.ntmps15
    go_wp2_with fail
    rw [← unhide HW]
    clear hW0
    refine (unhide hok).mono ?_
    rintro e w1 ⟨rfl, hb1⟩
    rw [hS]
    obtain ⟨f0, f1⟩ := unhide HF w1 hb1
    obtain ⟨⟨q0, q1⟩, q2⟩ := unhide HG w1 hb1
    have q20 := q2 0
    have q21 := q2 1
    have Hb1 := hide hb1
    clear hb1 q2
    go_wp2_with fail
    exact bodyPost_ret (v := .tuple #[.agg #[.int .i64 0, .string ⟨#[]⟩], .int .i64 1]) (by simp [results, Tryd.results15, go_sem, q0, q1]) rfl
      ⟨by rw [unhide hr], (((unhide Hb0).trans ((unhide Hb1).mono (unhide Hb0).size)).setCell (by show w.heap.size ≤ w.heap.size + 1; omega) _).setCell (by show w.heap.size ≤ w.heap.size + 1; omega) _⟩
  by_cases h4 : n - f < k
  · have hr := hide (cutAns_no (n := n) (s := s) (f := f) (k := k) (fun h => by have := h.2.2.2; omega))
    go_enter Tryd.func15, Tryd.ntmps15
    go_wp2_with fail
    rw [← unhide HW]
    clear hW0
    refine (unhide hok).mono ?_
    rintro e w1 ⟨rfl, hb1⟩
    rw [hS]
    obtain ⟨f0, f1⟩ := unhide HF w1 hb1
    obtain ⟨⟨q0, q1⟩, q2⟩ := unhide HG w1 hb1
    have q20 := q2 0
    have q21 := q2 1
    have Hb1 := hide hb1
    clear hb1 q2
    go_wp2_with fail
    exact bodyPost_ret (v := .tuple #[.agg #[.int .i64 0, .string ⟨#[]⟩], .int .i64 1]) (by simp [results, Tryd.results15, go_sem, q0, q1]) rfl
      ⟨by rw [unhide hr], (((unhide Hb0).trans ((unhide Hb1).mono (unhide Hb0).size)).setCell (by show w.heap.size ≤ w.heap.size + 1; omega) _).setCell (by show w.heap.size ≤ w.heap.size + 1; omega) _⟩
  have hr := hide (cutAns_yes (n := n) (s := s) (f := f) (k := k) ⟨hS, by omega, by omega, by omega⟩)
  obtain ⟨N, rfl⟩ := Int.eq_ofNat_of_zero_le hl0
  obtain ⟨A, rfl⟩ := Int.eq_ofNat_of_zero_le (show 0 ≤ f by omega)
  obtain ⟨K, rfl⟩ := Int.eq_ofNat_of_zero_le (show 0 ≤ k by omega)
  have hAK : A + K ≤ N := by omega
  have hN : (N : Int) ≤ 8 * s.size := by omega
  have hN2 : (N : Int) ≤ 1000000000 := by omega
  clear hl2
  go_enter Tryd.func15, Tryd.ntmps15
  go_wp2_with fail
  rw [← unhide HW]
  clear hW0
  refine (unhide hok).mono ?_
  rintro e w1 ⟨rfl, hb1⟩
  rw [hS]
  obtain ⟨f0, f1⟩ := unhide HF w1 hb1
  have Hb1 := hide hb1
  clear hb1
  go_wp2_with fail
  refine (row_any N s _ hN hN2).mono ?_
  rintro e w2 ⟨v, rfl, hown, hb2⟩
  have hB2 := (unhide Hb1).trans (hb2.mono (unhide Hb1).size)
  have hra := RowAt.of_own (xs := bitsOf s N) (by rw [bitsOf_length]; exact hown)
  obtain ⟨a, cap, hv, hcap, hel⟩ := id hra
  subst hv
  rw [bitsOf_length] at hcap
  have hsl := hide (hra.slice A K (ys := cutBits s A K) (by rw [bitsOf_length]; exact hAK) (cutBits_length s A K) (fun i hi => by rw [cutBits_getD s A K i hi, bitsOf_getD s N (A + i) (by omega)]))
  have HL := hide (bitsOf_length s N)
  rw [unhide HL]
  have HB2 := hide hB2
  obtain ⟨S, hS2⟩ : ∃ S, strB (cutBits s A K) = S := ⟨_, rfl⟩
  have HS := hide hS2
  clear hown hb2 hB2 hra hel hS2
  go_wp2_with fail
  all_goals
    first
      | refine (pack_as _ (cutBits s A K) K S w2 (by have h := unhide hsl a (fun h0 => by omega); rwa [show cap - A = 0 by omega] at h) (cutBits_01 s A K) (cutBits_length s A K) (by omega) (unhide HS)).mono ?_
      | refine (pack_as _ (cutBits s A K) K S w2 (unhide hsl _ (fun _ b off h => by rw [h]; exact congrArg some (Go.WideShapes.add_plain b off A))) (cutBits_01 s A K) (cutBits_length s A K) (by omega) (unhide HS)).mono ?_
    rintro e w3 ⟨rfl, hb3⟩
    have hB3 := (unhide HB2).trans (hb3.mono (unhide HB2).size)
    obtain ⟨⟨q0, q1⟩, q2⟩ := unhide HG w3 hB3
    have q20 := q2 0
    have q21 := q2 1
    have HB3 := hide hB3
    clear hb3 hB3 q2
    go_wp2_with fail
    exact bodyPost_ret (v := .tuple #[.agg #[.int .i64 K, .string S], .int .i64 0]) (by simp [results, Tryd.results15, go_sem, q0, q1]) rfl
      ⟨by rw [unhide hr, Int.toNat_natCast, Int.toNat_natCast, unhide HS], (((unhide Hb0).trans ((unhide HB3).mono (unhide Hb0).size)).setCell (by show w.heap.size ≤ w.heap.size + 1; omega) _).setCell (by show w.heap.size ≤ w.heap.size + 1; omega) _⟩

end Go.Proofs.YtbljelopgalkgaaDoor
