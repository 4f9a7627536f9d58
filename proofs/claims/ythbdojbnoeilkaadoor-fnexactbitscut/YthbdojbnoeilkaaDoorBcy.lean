/- A copy out of a text that is at least as long as the row of bytes it is laid into: a law for the walk. -/
import Derived.Test.YthbdojbnoeilkaaDoorBc1
import Derived.Deep.RegionLaw
import Derived.Lib.BufferWrite
import Derived.Laws.CopyOwn
namespace Go.Proofs.YthbdojbnoeilkaaDoor
open Go.RowKit Go.Deep

/-- The first m bytes of a text, as cells. -/
def firstCells (t : ByteArray) (m : Nat) : List Value := (t.data.toList.take m).map fun b => Value.int .u8 (b.toNat : Int)
theorem firstCells_length (t : ByteArray) (m : Nat) (h : m ≤ t.size) : (firstCells t m).length = m := by
  simp [firstCells]; have : t.data.size = t.size := rfl; omega
theorem firstCells_one (t : ByteArray) (m : Nat) : ∀ v ∈ firstCells t m, v.oneCell' = true := by
  intro v hv
  obtain ⟨b, _, rfl⟩ := List.mem_map.1 hv
  rfl

theorem run_copy_str {P : Program} (w : World) (dT sT ty elem : TypeId) (g m dCap : Nat) (s : ByteArray) (cur : Array Value) (t : TypeId)
    (hu : P.underlying dT = some (.slice elem)) (hs : (P.info? elem).map (·.size) = some 1) (hg : w.heap[g]? = some (.cells cur t (0, 0))) (hle : m ≤ s.size) (hfit : m = cur.size) :
    (Builtin.copy_ #[dT, sT] ty #[.slice (some ⟨g, 0, none⟩) m dCap, .string s]).run P w = .ok (goInt m) (w.setRow g (firstCells s m).toArray) := by
  have hlen := firstCells_length s m hle
  have hst := run_storeCells_at P g 0 t (firstCells s m) 0 cur w hg (by rw [hlen]; omega) (firstCells_one s m)
  have hmin : Nat.min s.size m = m := Nat.min_eq_right hle
  have htk : List.take m (List.map (fun b : UInt8 => Value.int IntKind.u8 (b.toNat : Int)) s.data.toList) = firstCells s m := by
    rw [← List.map_take]; rfl
  rw [hlen] at hst
  simp only [Nat.add_zero] at hst
  cases hq : P.info? elem with
  | none => simp [hq] at hs
  | some i =>
    simp [Builtin.copy_, run_underlying hu, Builtin.lenOf, Builtin.firstCells, sizeOf, typeInfo, hq, hmin]
    rw [htk, hst]
    have e : cur.toList.drop m = [] := by rw [List.drop_eq_nil_iff]; simp; omega
    simp [Result.andThen, e]

/-- The same as one step of a region that draws its order. -/
theorem step_copy_str {P : Program} {ops : Array Oper} {o : Oper} {a : Act} {w : World} {K : Act → World → Prop} {Q : Exit → Act → World → Prop} {E : Prop} (hgd : o.guard = none) (d x : Operand) (dT sT : TypeId)
    (ho : o.op = .call { callee := .builtin .copy, args := #[d, x], argTypes := #[dT, sT] }) (elem : TypeId) (hu : P.underlying dT = some (.slice elem)) (hsz : (P.info? elem).map (·.size) = some 1)
    (g m dCap : Nat) (hd : a.eval d = .slice (some ⟨g, 0, none⟩) m dCap) (s : ByteArray) (hx : a.eval x = .string s) (cur : Array Value) (t : TypeId) (hg : w.heap[g]? = some (.cells cur t (0, 0))) (hle : m ≤ s.size) (hfit : m = cur.size)
    (h : K (a.put o.dst (goInt m)) (w.setRow g (firstCells s m).toArray)) :
    if Region.wanted o (yielded ops a.tmps) = true then Oper.wp P o a w K Q else E := by
  have hw : Region.wanted o (yielded ops a.tmps) = true := by simp [Region.wanted, hgd]
  rw [if_pos hw]
  have hrun := run_copy_str (P := P) w dT sT o.type elem g m dCap s cur t hu hsz hg hle hfit
  unfold Oper.wp
  simp [execOp, ho, resolve, invoke, builtin, hd, hx, hrun, Result.andThen]
  exact h

theorem firstCells_whole (s : ByteArray) (f m : Nat) (h8 : f % 8 = 0) (hm : f / 8 + m ≤ s.size) : firstCells (s.extract (f / 8) s.size) m = u8s (fullBytes s f m) := by
  have hsz : s.data.size = s.size := rfl
  apply List.ext_getElem?
  intro j
  by_cases hj : j < m
  · have e : full s f j = byt s (f / 8 + j) := by
      have := full_whole s (f / 8) j
      rw [show 8 * (f / 8) = f by omega] at this
      exact this
    have hd : (s.extract (f / 8) s.size).data.toList[j]? = some (s[f / 8 + j]'(by omega)) := by
      rw [ByteArray.data_extract, Array.getElem?_toList, Array.getElem?_extract]
      rw [if_pos (by omega), Array.getElem?_eq_getElem (by omega)]
      rfl
    rw [u8s, List.getElem?_map, fullBytes_get _ _ _ _ hj, e]
    unfold firstCells
    rw [List.getElem?_map, List.getElem?_take, if_pos hj, hd, byt_get s (f / 8 + j) (by omega)]
    rfl
  · rw [List.getElem?_eq_none (by rw [firstCells_length _ _ (by simp; omega)]; omega), List.getElem?_eq_none (by simp [u8s, fullBytes_length]; omega)]

theorem cell_setRow_other {w : World} {g R o : Nat} {cs : Array Value} (h : g ≠ R) : (w.setRow g cs).cell? ⟨R, o, none⟩ = w.cell? ⟨R, o, none⟩ := by
  unfold World.cell? World.setRow
  simp [Array.getElem?_modify, h]

theorem own_setRow {w : World} {base g m : Nat} {e : TypeId} {cur : Array Value} {vs : List Value} (hg : w.heap[g]? = some (.cells cur e (0, 0))) (hb : base ≤ g) (hl : vs.length = m) (hm : m ≤ maxLen) :
    (w.setRow g vs.toArray).ownsRow base e 1 (.slice (some ⟨g, 0, none⟩) m m) m vs :=
  ⟨by simpa using hl, .inr ⟨g, m, vs.toArray, rfl, hb, setRow_heap w g _ _ e _ hg, Nat.le_refl _, hm, by simpa using hl, by rw [Nat.mul_one, List.take_of_length_le (by simp; omega)]⟩⟩

end Go.Proofs.YthbdojbnoeilkaaDoor
