/- What the draws of maps need. -/
import Derived.Test.YtcgbonlffcpofaaGreatDoorQ5
import Derived.Test.YtcgbonlffcpofaaGreatDoorQ6
import Derived.Deep.DeepCutAuto
namespace Go.Proofs.YtcgbonlffcpofaaGreatDoor
open Go.RowKit Go.Deep

/-- An append whose run is known, as one step of a region that draws its order. -/
theorem step_append_ran {P : Program} {ops : Array Oper} {o : Oper} {a : Act} {w : World} {K : Act → World → Prop} {Q : Exit → Act → World → Prop} {E : Prop} (hgd : o.guard = none) (s x : Operand) (t tn : TypeId)
    (ho : o.op = .call { callee := .builtin .append, args := #[s, x], argTypes := #[t, tn] }) (vs vx : Value) (hs : a.eval s = vs) (hx : a.eval x = vx) (v' : Value) (w' : World)
    (hr : (Builtin.append_ #[t, tn] o.type #[vs, vx]).run P w = .ok v' w') (h : K (a.put o.dst v') w') : if Region.wanted o (yielded ops a.tmps) = true then Oper.wp P o a w K Q else E := by
  have hw : Region.wanted o (yielded ops a.tmps) = true := by simp [Region.wanted, hgd]
  rw [if_pos hw]
  exact Go.Lib.wp_append_run w s x t tn ho vs vx hs hx v' w' hr h

/-- The blocks from base on that are there. -/
abbrev From (base : Nat) (w : World) : Nat → Prop := fun b => base ≤ b ∧ b < w.heap.size

theorem shape_one {S : Nat → Prop} {w : World} {n : Nat} {t : Tm n} {c0 c1 c2 c3 : Value} (h : TAt S w n t c0 c1 c2 c3) : ∀ u ∈ [c0, c1, c2, c3], u.oneCell' = true := by
  obtain ⟨_, _, _, _, _, _, rfl, rfl, rfl, rfl⟩ := h.shape
  intro u hu
  simp at hu
  rcases hu with rfl | rfl | rfl | rfl <;> rfl

/-- Behind an append of two terms that lie in a new block. -/
theorem with_push {n base : Nat} {W0 wr : World} {q : Nat} {v : Value} {ls : List (Tm n)} {xs : List Value} (hl : ls.length = 2 * q) (hq : q ≤ 5000) (hX : RowsX base wr ls v xs) (hB : Below W0.heap.size W0 wr) (hv : ∀ k, v.ownBlock = some k → W0.heap.size ≤ k) (hbase : base ≤ W0.heap.size)
    {t1 t2 : Tm n} {a0 a1 a2 a3 b0 b1 b2 b3 : Value} (h1 : TAt (From base W0) W0 n t1 a0 a1 a2 a3) (h2 : TAt (From base W0) W0 n t2 b0 b1 b2 b3) (ty : TypeId) (wz : World) (hz : wz.heap = (wr.alloc (.cells #[a0, a1, a2, a3, b0, b1, b2, b3] 32)).heap ∧ wz.os = wr.os ∧ wz.tape = wr.tape ∧ wz.output = wr.output) :
    ∃ R cap w', (Builtin.append_ #[30, 30] ty #[v, .slice (some ⟨wr.heap.size, 0, none⟩) 2 2]).run Tryz.prog wz = .ok (.slice (some ⟨R, 0, none⟩) (2 * q + 2) cap) w' ∧
      RowsX base w' (ls ++ [t1, t2]) (.slice (some ⟨R, 0, none⟩) (2 * q + 2) cap) (xs ++ [a0, a1, a2, a3, b0, b1, b2, b3]) ∧ Below W0.heap.size W0 w' ∧ W0.heap.size ≤ R := by
  have hbz : Below wr.heap.size wr wz := ⟨hz.2.1, hz.2.2.1, hz.2.2.2, by rw [hz.1]; simp, fun k hk => by rw [hz.1]; exact Below.heap_alloc _ _ _ hk⟩
  have hXz := hX.up hbz
  have hBz := hB.trans (hbz.mono hB.size)
  have hblk : wz.heap[wr.heap.size]? = some (.cells #[a0, a1, a2, a3, b0, b1, b2, b3] 32 (0, 0)) := by rw [hz.1]; exact heap_new _ _
  have hvb : ∀ b, From base W0 b → Off base v wz b := fun b hb => ⟨hb.1, Nat.lt_of_lt_of_le hb.2 hBz.size, fun e => by have := hv b e; omega⟩
  have g1 : TAt (Off base v wz) wz n t1 a0 a1 a2 a3 := (h1.below hBz fun b hb => hb.2).mono hvb
  have g2 : TAt (Off base v wz) wz n t2 b0 b1 b2 b3 := (h2.below hBz fun b hb => hb.2).mono hvb
  obtain ⟨R, cap, w', hr, ho, hg, hR⟩ := run_append_terms base v (2 * q) xs wz (by rw [← hl]; exact hXz.1) (by omega) ⟨wr.heap.size, 0, none⟩ 2 2 [a0, a1, a2, a3, b0, b1, b2, b3] rfl ⟨by omega, by omega⟩
    (fun j u hu => by rw [Go.WideShapes.add_plain, cell_of_heap hblk, Nat.zero_add, ← Array.getElem?_toList]; exact hu)
    (fun u hu => by
      have e : [a0, a1, a2, a3, b0, b1, b2, b3] = [a0, a1, a2, a3] ++ [b0, b1, b2, b3] := rfl
      rw [e, List.mem_append] at hu
      rcases hu with h | h
      · exact shape_one h1 u h
      · exact shape_one h2 u h) (Nat.le_trans hbase hBz.size) ty
  have hcs := (CellsAt.one g1).append (CellsAt.one g2)
  have hp := hXz.push hcs (R := R) (cap := cap) (by rw [hl]; exact ho) hg hR
  refine ⟨R, cap, w', hr, by rw [hl] at hp; exact hp, hBz.grown hg hBz.size fun k hk => hv k hk, ?_⟩
  rcases hR with h | h
  · exact hv R h
  · rw [h]; exact hBz.size

end Go.Proofs.YtcgbonlffcpofaaGreatDoor
