/- impl's isSet and bytesFor. -/
import Derived.Test.YtbljelopgalkgaaDoorBlb
import Derived.BigQuiet
namespace Go.Proofs.YtbljelopgalkgaaDoor
open Go.RowKit Go.Deep

/-- A world in which nothing below B has turned. -/
structure LaterW (B : Nat) (w : World) where
  wd : World
  be : Below B w wd

/-- A region that draws its order, whose operations only read and whose callees turn nothing below B: one walk, in the order of the text. -/
theorem wp_region_later {P : Program} {id : Nat} {Q : Exit → Act → World → Prop} {a : Act} {w : World} {l : List Oper} (B : Nat) (hm : P.follows .mixedOrders = true) (hB : Region.lexB .any l.toArray = true)
    (h : wpQuiet P l.toArray (fun w' => ∃ x : LaterW B w, w' = x.wd) (fun a' => ∀ w', (∃ x : LaterW B w, w' = x.wd) → Q .normal a' w') l a) : (Code.region id l.toArray true).wp P Q a w :=
  wp_region_quiet (C := fun w' => ∃ x : LaterW B w, w' = x.wd) hm hB ⟨⟨_, (Below.refl _ _).drew⟩, rfl⟩ (by simpa using h)

theorem Calls.later {P : Program} {f : FuncId} {args : Array Value} {B : Nat} {w : World} {x : LaterW B w} {v : Value} (hB : B ≤ w.heap.size)
    (h : Calls P f args x.wd fun e w' => e = .returned v ∧ Below x.wd.heap.size x.wd w') : Calls P f args x.wd fun e w'' => e = .returned v ∧ ∃ y : LaterW B w, w'' = y.wd :=
  h.mono fun _ w'' ⟨he, hb⟩ => ⟨he, ⟨w'', x.be.trans (hb.mono (Nat.le_trans hB x.be.size))⟩, rfl⟩

theorem field1 (a b : Value) (w : World) : (Instr.field 26 (.agg #[a, b]) 1).run Tryd.prog w = .ok b w := by rfl
theorem field0 (a b : Value) (w : World) : (Instr.field 26 (.agg #[a, b]) 0).run Tryd.prog w = .ok a w := by rfl

set_option maxRecDepth 100000 in
theorem bf_any (n : Int) (w : World) (h0 : 0 ≤ n) (hn : n ≤ 10000000000) : Calls Tryd.prog 23 #[.int .i64 n] w fun e w' => e = .returned (.int .i64 ((n + 7) / 8)) ∧ Below w.heap.size w w' := by
  go_enter Tryd.func23, Tryd.ntmps23
  go_wp2_with fail
  go_ret
  exact ⟨rfl, Below.refl _ _⟩

set_option maxRecDepth 100000 in
theorem isSet_any (n : Int) (s : ByteArray) (i : Nat) (w : World) (hm : Masks 0 w) (hi : i / 8 < s.size) (hi2 : i ≤ 10000000000) :
    Calls Tryd.prog 24 #[.agg #[.int .i64 n, .string s], .int .i64 i] w fun e w' => e = .returned (.bool (decide (bit s i = 1))) ∧ Below w.heap.size w w' := by
  have hmk := hm.2 (i % 8) (Nat.mod_lt _ (by decide))
  have hlt := hm.1
  have H := hide (set_walk s i hi)
  clear hm
  have hA : 0 ≤ (i : Int) / 8 := by omega
  have hB : (i : Int) / 8 < s.size := by omega
  have hC : ((i : Int) / 8).toNat = i / 8 := by omega
  have hW : IntKind.i64.wrap ((i : Int) / 8) = (i : Int) / 8 := by simp [IntKind.wrap, IntKind.bits, IntKind.signed]; omega
  go_enter Tryd.func24, Tryd.ntmps24
  go_wp2_with fail
  go_region
  go_wp2_with fail
  go_ret
  refine ⟨?_, (((Below.refl w.heap.size w).alloc (Nat.le_refl _) _).drew)⟩
  rw [← unhide H]
  rfl

end Go.Proofs.YtbljelopgalkgaaDoor
