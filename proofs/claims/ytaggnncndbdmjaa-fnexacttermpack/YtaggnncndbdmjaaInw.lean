/- impl's way inward from a term: inward; faultIn. -/
import Derived.Test.YtaggnncndbdmjaaVal2
namespace Go.Proofs.Ytaggnncndbdmjaa
open Go.RowKit

theorem Ctr.new (w : World) : Ctr w.heap.size 0 (w.alloc (.cells #[.int .i64 0] 59)) := heap_new _ _

def InwEnd (n : Nat) (t : Tm n) (w : World) (e : Ending) (w' : World) : Prop :=
  Below w.heap.size w w' ∧ ((valOK n t 0 1 ∧ ∃ v, e = .returned v ∧ VAt (Fresh w w') w' n t v) ∨ (¬ valOK n t 0 1 ∧ e = faultE))

theorem TAt.inp {w w2 : World} {g : Nat} (hb : Below w.heap.size w w2) (hg : w.heap.size ≤ g) {n : Nat} {t : Tm n} {a b c d : Value} (h : TAt (Under w.heap.size) w n t a b c d) : TAt (Inp w2 g) w2 n t a b c d :=
  (h.keep fun b hs => hb.block b hs).mono fun _ hs => ⟨Nat.lt_of_lt_of_le hs hb.size, by have : _ < w.heap.size := hs; omega⟩

theorem inw_below {w w3 : World} {x y : Obj} (h : But (w.heap.size + 1) ((w.alloc x).alloc y) w3) : Below w.heap.size w w3 :=
  (below_two w x y).trans (h.toBelow (by omega) (by simp; omega))

set_option maxRecDepth 20000 in
set_option maxHeartbeats 1000000 in
theorem inward_any (n : Nat) (t : Tm n) (c0 c1 c2 c3 : Value) (w : World) (ht : TAt (Under w.heap.size) w n t c0 c1 c2 c3) :
    Calls Try.prog 16 #[.agg #[c0, c1, c2, c3]] w fun e w' => InwEnd n t w e w' := by
  have hsz : ∀ x : Obj, (w.alloc x).heap.size = w.heap.size + 1 := fun x => by simp
  have hc0 := (fun (x : Obj) => let w1 := w.alloc x; let w2 := w1.alloc (.cells #[.int .i64 0] 59);
    val_any n t c0 c1 c2 c3 w1.heap.size 0 1 w2 (Ctr.new w1) (ht.inp (below_two w x _) (by simp [w1])) (by omega) (by omega) (by omega))
  simp only [hsz] at hc0
  have hc := hide hc0
  clear hc0
  obtain ⟨_, _, _, _, _, _, rfl, rfl, rfl, rfl⟩ := ht.shape
  go_enter Try.func16, Try.ntmps16
  go_wp2_with fail
  refine ((unhide hc) _).mono ?_
  rintro e w3 ⟨hb3, ⟨hok, v, rfl, hv, hct⟩ | ⟨hno, rfl⟩⟩
  · have HV := hide hv
    have HOK := hide hok
    clear hv hok hct
    go_wp2_with fail
    go_ret
    have hb := inw_below hb3
    exact ⟨hb, .inl ⟨unhide HOK, v, rfl, (unhide HV).mono fun b hb1 => ⟨by have := hb1.1; simp at this; omega, hb1.2⟩⟩⟩
  · exact ⟨rfl, inw_below hb3, .inr ⟨hno, rfl⟩⟩

/-- What faultIn makes of nothing, and of the walk's own fault. -/
theorem faultIn_nil (w : World) : Calls Try.prog 14 #[.nilIface] w fun e w' => e = .returned (.tuple #[.agg #[.int .i64 0, .int .i64 0], .bool false]) ∧ Below w.heap.size w w' := by
  have hbx := fun x : Obj => (Below.refl w.heap.size w).alloc (Nat.le_refl _) x
  go_enter Try.func14, Try.ntmps14
  go_wp2_with fail
  exact bodyPost_ret (v := .tuple #[.agg #[.int .i64 0, .int .i64 0], .bool false]) (by simp [results, Try.results14, go_sem]) rfl ⟨rfl, hbx _⟩

theorem ta_fault (x : Value) (w : World) : (Instr.typeAssert (.iface 40 x) 20 40 true).run Try.prog w = .ok (.tuple #[x, .bool true]) w := by kernel_rfl

set_option maxRecDepth 40000 in
theorem faultIn_fault (w : World) : Calls Try.prog 14 #[faultV] w fun e w' => e = .returned (.tuple #[.agg #[.int .i64 1, .int .i64 0], .bool true]) ∧ Below w.heap.size w w' := by
  unfold faultV
  have hta := ta_fault (.agg #[.int .i64 1, .int .i64 0])
  have hbx := below_two w
  go_enter Try.func14, Try.ntmps14
  go_wp2_with fail
  exact bodyPost_ret (v := .tuple #[.agg #[.int .i64 1, .int .i64 0], .bool true]) (by simp [results, Try.results14, go_sem]) rfl ⟨rfl, hbx _ _⟩

end Go.Proofs.Ytaggnncndbdmjaa
