/- spec.BitMatch. -/
import Derived.Test.YtcgbonlffcpofaaGreatDoorQ21
import Derived.Test.YtcgbonlffcpofaaGreatDoorBj0
import Derived.Test.YtcgbonlffcpofaaGreatDoorDw4h
import Derived.Test.YtcgbonlffcpofaaGreatDoorQ9
import Derived.Test.YtcgbonlffcpofaaGreatDoorQ19
import Derived.Test.YtcgbonlffcpofaaGreatDoorQ8
import Derived.BigQuiet
import Derived.Deep.RegionWith
import Derived.Deep.DeepCutAuto
import Derived.Deep.RegionHeld3
namespace Go.Proofs.YtcgbonlffcpofaaGreatDoor
open Go.RowKit Go.Deep

/-- A term that lies in a new block put behind an own row; what stands still. -/
theorem row_pushN {n base : Nat} {w1 wz : World} {ls : List (Tm n)} {xs : List Value} {kv : Value} (hX : RowsX base w1 ls kv xs) (hl : ls.length ≤ 5000) {t : Tm n} {d0 d1 d2 d3 : Value} {S : Nat → Prop} (ht : TAt S w1 n t d0 d1 d2 d3) (hS : ∀ b, S b → Off base kv w1 b)
    (hz : wz.heap = (w1.alloc (.cells #[d0, d1, d2, d3] 32)).heap ∧ wz.os = w1.os ∧ wz.tape = w1.tape ∧ wz.output = w1.output) (hb : base ≤ w1.heap.size) (ty : TypeId) :
    ∃ R cap w', (Builtin.append_ #[30, 30] ty #[kv, .slice (some ⟨w1.heap.size, 0, none⟩) 1 1]).run Tryz.prog wz = .ok (.slice (some ⟨R, 0, none⟩) (ls.length + 1) cap) w' ∧
      RowsX base w' (ls ++ [t]) (.slice (some ⟨R, 0, none⟩) (ls.length + 1) cap) (xs ++ [d0, d1, d2, d3]) ∧ Below base w1 w' ∧ ∀ b, b < w1.heap.size → kv.ownBlock ≠ some b → w'.heap[b]? = w1.heap[b]? := by
  have hbz : Below w1.heap.size w1 wz := ⟨hz.2.1, hz.2.2.1, hz.2.2.2, by rw [hz.1]; simp, fun k hk => by rw [hz.1]; exact Below.heap_alloc _ _ _ hk⟩
  have hXz := hX.up hbz
  have hblk : wz.heap[w1.heap.size]? = some (.cells #[d0, d1, d2, d3] 32 (0, 0)) := by rw [hz.1]; exact heap_new _ _
  have g1 : TAt (Off base kv wz) wz n t d0 d1 d2 d3 := (ht.below hbz fun b hb => (hS b hb).2.1).mono fun b hb => ⟨(hS b hb).1, Nat.lt_of_lt_of_le (hS b hb).2.1 hbz.size, (hS b hb).2.2⟩
  obtain ⟨R, cap, w', hr, ho, hg, hR⟩ := run_append_terms base kv ls.length xs wz hXz.1 (by omega) ⟨w1.heap.size, 0, none⟩ 1 1 [d0, d1, d2, d3] rfl ⟨by omega, by omega⟩
    (fun j u hu => by rw [Go.WideShapes.add_plain, cell_of_heap hblk, Nat.zero_add, ← Array.getElem?_toList]; exact hu) (shape_one ht) (Nat.le_trans hb hbz.size) ty
  exact ⟨R, cap, w', hr, hXz.push (CellsAt.one g1) (R := R) (cap := cap) ho hg hR, (hbz.mono hb).grown hg (Nat.le_trans hb hbz.size) fun k hk => (hXz.1.lt k hk).1, fun b hb hn => (hg.block b (Nat.lt_of_lt_of_le hb hbz.size) fun e => hn e.symm).trans (hbz.block b hb)⟩

theorem sat_none {S : Nat → Prop} {w : World} {n : Nat} (a : Option Addr) (cap : Nat) : SAt S w (TAt S w n) ([] : List (Tm n)) (.slice a 0 cap) := ⟨a, cap, rfl, Nat.zero_le _, by simp, fun i hi => by cases hi⟩

end Go.Proofs.YtcgbonlffcpofaaGreatDoor
