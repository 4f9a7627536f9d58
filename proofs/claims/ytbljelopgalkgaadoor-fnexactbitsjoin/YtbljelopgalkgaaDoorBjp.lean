/- Plain facts and a law for impl's join: a text copied into a row behind its first bytes. -/
import Derived.Test.YtbljelopgalkgaaDoorBj5
import Derived.Lib.BufferWrite
import Derived.Laws.CopyOwn
namespace Go.Proofs.YtbljelopgalkgaaDoor
open Go.RowKit Go.Deep

theorem pk_move {f g : Nat → Int} (j j' : Nat) : ∀ c, (∀ k, k < c → f (8 * j + k) = g (8 * j' + k)) → pk f j c = pk g j' c
  | 0, _ => rfl
  | c + 1, h => by simp only [pk]; rw [pk_move j j' c fun k hk => h k (by omega), h c (by omega)]

/-- A text's byte is what its bits make, though the last ones are not taken: they are 0. -/
theorem byt_cut (t : ByteArray) (M j : Nat) (hz : ∀ i, M ≤ i → i < 8 * t.size → bit t i = 0) (hj : j < t.size) : pk (bit t) j (min 8 (M - 8 * j)) = byt t j := by
  have h1 := byt_lo t j
  have h2 := byt_hi t j
  have e8 : pk (bit t) j 8 = byt t j := by rw [pk_bit t j 8 (by omega)]; simp
  rw [← e8]
  exact (pk_cut (bit t) j _ 8 (by omega) fun k hk hk8 => hz _ (by omega) (by omega)).symm

/-- The first bytes and a text behind them. -/
theorem copy_bytes (A : List Int) (t : ByteArray) (M : Nat) (h8 : A.length % 8 = 0) (ht : t.size = (M + 7) / 8) (hz : ∀ i, M ≤ i → i < 8 * t.size → bit t i = 0) :
    (u8s (bytesAt (A ++ bitsOf t M) A.length)).take (A.length / 8) ++ Lib.byteCells t.data.toList = u8s (bytesAt (A ++ bitsOf t M) (A.length + M)) := by
  have hX : (A ++ bitsOf t M).length = A.length + M := by rw [List.length_append, bitsOf_length]
  have hts : t.data.toList.length = t.size := rfl
  have hbc : (Lib.byteCells t.data.toList).length = t.size := by rw [Lib.byteCells_length, hts]
  have hl1 : ((u8s (bytesAt (A ++ bitsOf t M) A.length)).take (A.length / 8)).length = A.length / 8 := by rw [List.length_take]; simp [u8s, bytesAt_length]; omega
  apply List.ext_getElem?
  intro q
  by_cases hq : q < A.length / 8
  · rw [List.getElem?_append_left (by omega), List.getElem?_take, if_pos hq, u8s, u8s, List.getElem?_map, List.getElem?_map, bytesAt_get _ _ _ (by rw [hX]; omega), bytesAt_get _ _ _ (by rw [hX]; omega), show min 8 (A.length - 8 * q) = min 8 (A.length + M - 8 * q) by omega]
  · by_cases hm : q < (A.length + M + 7) / 8
    · obtain ⟨j, rfl⟩ : ∃ j, q = A.length / 8 + j := ⟨q - A.length / 8, by omega⟩
      have hj : j < t.size := by omega
      rw [List.getElem?_append_right (by omega), hl1, u8s, List.getElem?_map, bytesAt_get _ _ _ (by rw [hX]; exact hm)]
      have e : packed (A ++ bitsOf t M) (A.length / 8 + j) (min 8 (A.length + M - 8 * (A.length / 8 + j))) = byt t j := by
        rw [← byt_cut t M j hz hj, show min 8 (A.length + M - 8 * (A.length / 8 + j)) = min 8 (M - 8 * j) by omega]
        unfold packed
        refine pk_move _ _ _ fun k hk => ?_
        rw [show 8 * (A.length / 8 + j) + k = A.length + (8 * j + k) by omega, getD_append_right, List.getD_eq_getElem?_getD, bitsOf_get t M _ (by omega), Option.getD_some]
      rw [e, byt_get t j hj]
      unfold Lib.byteCells
      rw [List.getElem?_map, show A.length / 8 + j - A.length / 8 = j by omega, List.getElem?_eq_getElem (by rw [hts]; exact hj)]
      rfl
    · rw [List.getElem?_eq_none (by rw [List.length_append, hl1, hbc]; omega), List.getElem?_eq_none (by simp [u8s, bytesAt_length, hX]; omega)]

/-- A text's bits behind a row's. -/
theorem join_bit (A : List Int) (t : ByteArray) (M j r : Nat) (hz : ∀ i, M ≤ i → i < 8 * t.size → bit t i = 0) (hj : j < t.size) (hr : r < 8) :
    (A ++ bitsOf t M).getD (A.length + 8 * j + r) 0 = byt t j / 2 ^ (7 - r) % 2 := by
  have hb : bit t (8 * j + r) = byt t j / 2 ^ (7 - r) % 2 := by unfold bit; rw [show (8 * j + r) / 8 = j by omega, show (8 * j + r) % 8 = r by omega]
  rw [show A.length + 8 * j + r = A.length + (8 * j + r) by omega, getD_append_right, List.getD_eq_getElem?_getD, ← hb]
  by_cases h : 8 * j + r < M
  · rw [bitsOf_get t M _ h]; rfl
  · rw [List.getElem?_eq_none (by rw [bitsOf_length]; omega), hz _ (by omega) (by omega)]; rfl

theorem join_01 (A : List Int) (t : ByteArray) (M : Nat) (hA : ∀ x ∈ A, x = 0 ∨ x = 1) : ∀ x ∈ A ++ bitsOf t M, x = 0 ∨ x = 1 := by
  intro x hx
  rcases List.mem_append.1 hx with h | h
  · exact hA x h
  · obtain ⟨i, _, rfl⟩ := List.mem_map.1 h
    exact bit_01 t i

/-- A copy whose run is known, as one step of a region that draws its order. -/
theorem step_copy_run {P : Program} {ops : Array Oper} {o : Oper} {a : Act} {w : World} {K : Act → World → Prop} {Q : Exit → Act → World → Prop} {E : Prop} (hgd : o.guard = none) (s x : Operand) (t tn : TypeId)
    (ho : o.op = .call { callee := .builtin .copy, args := #[s, x], argTypes := #[t, tn] }) (vs vx : Value) (hs : a.eval s = vs) (hx : a.eval x = vx) (v' : Value) (w' : World)
    (hr : (Builtin.copy_ #[t, tn] o.type #[vs, vx]).run P w = .ok v' w') (h : K (a.put o.dst v') w') : if Region.wanted o (yielded ops a.tmps) = true then Oper.wp P o a w K Q else E := by
  have hw : Region.wanted o (yielded ops a.tmps) = true := by simp [Region.wanted, hgd]
  rw [if_pos hw]
  unfold Oper.wp
  simp [execOp, ho, resolve, invoke, builtin, hs, hx, hr, Result.andThen]
  exact h

/-- A text written into an own row behind its first bytes, up to its end. -/
theorem own_copied {w : World} {base g cap o m : Nat} {e : TypeId} {ys zs : List Value} (hown : w.ownsRow base e 1 (.slice (some ⟨g, 0, none⟩) m cap) m ys) (hm : o + zs.length = m) :
    ∃ cur, w.heap[g]? = some (.cells cur e (0, 0)) ∧ m ≤ cur.size ∧ ∀ w' : World, w'.heap[g]? = (w.setRow g (cur.toList.take o ++ zs ++ cur.toList.drop (o + zs.length)).toArray).heap[g]? →
      w'.ownsRow base e 1 (.slice (some ⟨g, 0, none⟩) m cap) m (ys.take o ++ zs) := by
  rcases hown with ⟨h1, ⟨h', _⟩ | ⟨g', cap', cur, h', hbg, hh, hnc, hcm, hsz, htk⟩⟩
  · simp at h'
  · simp only [Value.slice.injEq, Option.some.injEq, Addr.mk.injEq, and_true, true_and] at h'
    obtain ⟨rfl, rfl⟩ := h'
    have hml : m ≤ cur.size := by omega
    refine ⟨cur, hh, hml, fun w' hw' => ?_⟩
    have hl : cur.toList.length = cur.size := rfl
    have e1 : ys.take o = cur.toList.take o := by rw [← htk, List.take_take]; congr 1; omega
    refine ⟨by rw [e1, List.length_append, List.length_take]; omega, .inr ⟨g, cap, _, rfl, hbg, hw'.trans (setRow_heap w g _ _ e _ hh), hnc, hcm, ?_, ?_⟩⟩
    · simp; omega
    · rw [e1]
      show List.take (m * 1) (cur.toList.take o ++ zs ++ cur.toList.drop (o + zs.length)) = _
      rw [List.take_append_of_le_length (by rw [List.length_append, List.length_take]; omega), List.take_of_length_le (by rw [List.length_append, List.length_take]; omega)]

end Go.Proofs.YtbljelopgalkgaaDoor
