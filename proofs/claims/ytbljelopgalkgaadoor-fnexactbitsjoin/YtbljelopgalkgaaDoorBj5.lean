/- Plain facts and step laws for impl's join.  -/
import Derived.Test.YtbljelopgalkgaaDoorBj4
import Derived.Deep.AppendLies
namespace Go.Proofs.YtbljelopgalkgaaDoor
open Go.RowKit Go.Deep

theorem getD_append_left (A B : List Int) (i : Nat) (h : i < A.length) : (A ++ B).getD i 0 = A.getD i 0 := by
  rw [List.getD_eq_getElem?_getD, List.getD_eq_getElem?_getD, List.getElem?_append_left h]
theorem getD_append_right (A B : List Int) (i : Nat) : (A ++ B).getD (A.length + i) 0 = B.getD i 0 := by
  rw [List.getD_eq_getElem?_getD, List.getD_eq_getElem?_getD, List.getElem?_append_right (by omega)]
  congr 2
  omega

/-- The bytes of the bits that are there, and zeros for those that come. -/
theorem bytesAt_zeros (A B : List Int) (k : Nat) (hk : (A.length + 7) / 8 + k = (A.length + B.length + 7) / 8) : bytesAt A A.length ++ List.replicate k 0 = bytesAt (A ++ B) A.length := by
  have hl : (A ++ B).length = A.length + B.length := List.length_append
  apply List.ext_getElem?
  intro q
  by_cases hq : q < (A.length + B.length + 7) / 8
  · rw [bytesAt_get (A ++ B) _ q (by rw [hl]; exact hq)]
    by_cases h1 : q < (A.length + 7) / 8
    · rw [List.getElem?_append_left (by rw [bytesAt_length]; exact h1), bytesAt_get A _ q h1]
      congr 1
      unfold packed
      exact pk_congr q _ fun r hr => (getD_append_left A B _ (by omega)).symm
    · rw [List.getElem?_append_right (by rw [bytesAt_length]; omega), List.getElem?_replicate, if_pos (by rw [bytesAt_length]; omega), show min 8 (A.length - 8 * q) = 0 by omega]
      rfl
  · rw [List.getElem?_eq_none (by rw [List.length_append, bytesAt_length, List.length_replicate]; omega), List.getElem?_eq_none (by rw [bytesAt_length, hl]; omega)]

theorem ownsRow_set {w : World} {b : Nat} {e : TypeId} {size : Nat} {v : Value} {n : Nat} {xs : List Value} (h : w.ownsRow b e size v n xs) (p : Addr) (hp : p.block < b) (u : Value) : (w.setCell p u).ownsRow b e size v n xs := by
  rcases h with ⟨h1, h2 | ⟨g, cap, cur, rfl, h3, h4, h5⟩⟩
  · exact ⟨h1, .inl h2⟩
  · exact ⟨h1, .inr ⟨g, cap, cur, rfl, h3, (Below.heap_setCell _ _ _ _ (by omega)).trans h4, h5⟩⟩

theorem own_shape {w : World} {b : Nat} {e : TypeId} {size : Nat} {v : Value} {n : Nat} {xs : List Value} (h : w.ownsRow b e size v n xs) : ∃ a cap, v = .slice a n cap := by
  rcases h.2 with ⟨h2, h3⟩ | ⟨g, cap, cur, h2, _⟩
  · exact ⟨none, 0, by rw [h2, h3]⟩
  · exact ⟨_, cap, h2⟩

/-- An append whose run is known, as one step of a region that draws its order. -/
theorem step_append_run {P : Program} {ops : Array Oper} {o : Oper} {a : Act} {w : World} {K : Act → World → Prop} {Q : Exit → Act → World → Prop} {E : Prop} (hgd : o.guard = none) (s x : Operand) (t tn : TypeId)
    (ho : o.op = .call { callee := .builtin .append, args := #[s, x], argTypes := #[t, tn] }) (vs vx : Value) (hs : a.eval s = vs) (hx : a.eval x = vx) (v' : Value) (w' : World)
    (hr : (Builtin.append_ #[t, tn] o.type #[vs, vx]).run P w = .ok v' w') (h : K (a.put o.dst v') w') : if Region.wanted o (yielded ops a.tmps) = true then Oper.wp P o a w K Q else E := by
  have hw : Region.wanted o (yielded ops a.tmps) = true := by simp [Region.wanted, hgd]
  rw [if_pos hw]
  exact Go.Lib.wp_append_run w s x t tn ho vs vx hs hx v' w' hr h

end Go.Proofs.YtbljelopgalkgaaDoor
