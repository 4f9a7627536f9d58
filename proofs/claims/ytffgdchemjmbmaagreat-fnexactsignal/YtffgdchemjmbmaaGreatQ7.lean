/- impl's way outward: a value of each kind. -/
import Derived.Test.YtffgdchemjmbmaaGreatQ6
import Derived.Deep.RegionHeld3
import Derived.Test.YtffgdchemjmbmaaGreatQ5
import Derived.Test.YtffgdchemjmbmaaGreatQ2
import Derived.Deep.DeepCutAuto
import Derived.Deep.RegionWith
import Derived.Test.YtffgdchemjmbmaaGreatQ1
namespace Go.Proofs.YtffgdchemjmbmaaGreat
open Go.RowKit Go.Deep
set_option linter.unusedVariables false

theorem oa_int_int (x : Value) (w : World) : (Instr.typeAssert (.iface 65 x) 45 65 true).run Tryz.prog w = .ok (.tuple #[x, .bool true]) w := by kernel_rfl
theorem oa_atom_int (x : Value) (w : World) : (Instr.typeAssert (.iface 59 x) 45 65 true).run Tryz.prog w = .ok (.tuple #[.int .i64 0, .bool false]) w := by kernel_rfl
theorem oa_atom_atom (x : Value) (w : World) : (Instr.typeAssert (.iface 59 x) 45 59 true).run Tryz.prog w = .ok (.tuple #[x, .bool true]) w := by kernel_rfl
theorem oa_ref_int (x : Value) (w : World) : (Instr.typeAssert (.iface 66 x) 45 65 true).run Tryz.prog w = .ok (.tuple #[.int .i64 0, .bool false]) w := by kernel_rfl
theorem oa_ref_atom (x : Value) (w : World) : (Instr.typeAssert (.iface 66 x) 45 59 true).run Tryz.prog w = .ok (.tuple #[.string ⟨#[]⟩, .bool false]) w := by kernel_rfl
theorem oa_ref_ref (x : Value) (w : World) : (Instr.typeAssert (.iface 66 x) 45 66 true).run Tryz.prog w = .ok (.tuple #[x, .bool true]) w := by kernel_rfl
theorem oa_fun_int (x : Value) (w : World) : (Instr.typeAssert (.iface 69 x) 45 65 true).run Tryz.prog w = .ok (.tuple #[.int .i64 0, .bool false]) w := by kernel_rfl
theorem oa_fun_atom (x : Value) (w : World) : (Instr.typeAssert (.iface 69 x) 45 59 true).run Tryz.prog w = .ok (.tuple #[.string ⟨#[]⟩, .bool false]) w := by kernel_rfl
theorem oa_fun_ref (x : Value) (w : World) : (Instr.typeAssert (.iface 69 x) 45 66 true).run Tryz.prog w = .ok (.tuple #[.int .i64 0, .bool false]) w := by kernel_rfl
theorem oa_fun_fun (x : Value) (w : World) : (Instr.typeAssert (.iface 69 x) 45 69 true).run Tryz.prog w = .ok (.tuple #[x, .bool true]) w := by kernel_rfl
theorem oa_pid_int (x : Value) (w : World) : (Instr.typeAssert (.iface 71 x) 45 65 true).run Tryz.prog w = .ok (.tuple #[.int .i64 0, .bool false]) w := by kernel_rfl
theorem oa_pid_atom (x : Value) (w : World) : (Instr.typeAssert (.iface 71 x) 45 59 true).run Tryz.prog w = .ok (.tuple #[.string ⟨#[]⟩, .bool false]) w := by kernel_rfl
theorem oa_pid_ref (x : Value) (w : World) : (Instr.typeAssert (.iface 71 x) 45 66 true).run Tryz.prog w = .ok (.tuple #[.int .i64 0, .bool false]) w := by kernel_rfl
theorem oa_pid_fun (x : Value) (w : World) : (Instr.typeAssert (.iface 71 x) 45 69 true).run Tryz.prog w = .ok (.tuple #[.agg #[.int .i64 0, .slice none 0 0], .bool false]) w := by kernel_rfl
theorem oa_pid_pid (x : Value) (w : World) : (Instr.typeAssert (.iface 71 x) 45 71 true).run Tryz.prog w = .ok (.tuple #[x, .bool true]) w := by kernel_rfl
theorem oa_tuple_int (x : Value) (w : World) : (Instr.typeAssert (.iface 72 x) 45 65 true).run Tryz.prog w = .ok (.tuple #[.int .i64 0, .bool false]) w := by kernel_rfl
theorem oa_tuple_atom (x : Value) (w : World) : (Instr.typeAssert (.iface 72 x) 45 59 true).run Tryz.prog w = .ok (.tuple #[.string ⟨#[]⟩, .bool false]) w := by kernel_rfl
theorem oa_tuple_ref (x : Value) (w : World) : (Instr.typeAssert (.iface 72 x) 45 66 true).run Tryz.prog w = .ok (.tuple #[.int .i64 0, .bool false]) w := by kernel_rfl
theorem oa_tuple_fun (x : Value) (w : World) : (Instr.typeAssert (.iface 72 x) 45 69 true).run Tryz.prog w = .ok (.tuple #[.agg #[.int .i64 0, .slice none 0 0], .bool false]) w := by kernel_rfl
theorem oa_tuple_pid (x : Value) (w : World) : (Instr.typeAssert (.iface 72 x) 45 71 true).run Tryz.prog w = .ok (.tuple #[.int .i64 0, .bool false]) w := by kernel_rfl
theorem oa_tuple_tuple (x : Value) (w : World) : (Instr.typeAssert (.iface 72 x) 45 72 true).run Tryz.prog w = .ok (.tuple #[x, .bool true]) w := by kernel_rfl
theorem oa_map_int (x : Value) (w : World) : (Instr.typeAssert (.iface 74 x) 45 65 true).run Tryz.prog w = .ok (.tuple #[.int .i64 0, .bool false]) w := by kernel_rfl
theorem oa_map_atom (x : Value) (w : World) : (Instr.typeAssert (.iface 74 x) 45 59 true).run Tryz.prog w = .ok (.tuple #[.string ⟨#[]⟩, .bool false]) w := by kernel_rfl
theorem oa_map_ref (x : Value) (w : World) : (Instr.typeAssert (.iface 74 x) 45 66 true).run Tryz.prog w = .ok (.tuple #[.int .i64 0, .bool false]) w := by kernel_rfl
theorem oa_map_fun (x : Value) (w : World) : (Instr.typeAssert (.iface 74 x) 45 69 true).run Tryz.prog w = .ok (.tuple #[.agg #[.int .i64 0, .slice none 0 0], .bool false]) w := by kernel_rfl
theorem oa_map_pid (x : Value) (w : World) : (Instr.typeAssert (.iface 74 x) 45 71 true).run Tryz.prog w = .ok (.tuple #[.int .i64 0, .bool false]) w := by kernel_rfl
theorem oa_map_tuple (x : Value) (w : World) : (Instr.typeAssert (.iface 74 x) 45 72 true).run Tryz.prog w = .ok (.tuple #[.slice none 0 0, .bool false]) w := by kernel_rfl
theorem oa_map_map (x : Value) (w : World) : (Instr.typeAssert (.iface 74 x) 45 74 true).run Tryz.prog w = .ok (.tuple #[x, .bool true]) w := by kernel_rfl
theorem oa_list_int (x : Value) (w : World) : (Instr.typeAssert (.iface 76 x) 45 65 true).run Tryz.prog w = .ok (.tuple #[.int .i64 0, .bool false]) w := by kernel_rfl
theorem oa_list_atom (x : Value) (w : World) : (Instr.typeAssert (.iface 76 x) 45 59 true).run Tryz.prog w = .ok (.tuple #[.string ⟨#[]⟩, .bool false]) w := by kernel_rfl
theorem oa_list_ref (x : Value) (w : World) : (Instr.typeAssert (.iface 76 x) 45 66 true).run Tryz.prog w = .ok (.tuple #[.int .i64 0, .bool false]) w := by kernel_rfl
theorem oa_list_fun (x : Value) (w : World) : (Instr.typeAssert (.iface 76 x) 45 69 true).run Tryz.prog w = .ok (.tuple #[.agg #[.int .i64 0, .slice none 0 0], .bool false]) w := by kernel_rfl
theorem oa_list_pid (x : Value) (w : World) : (Instr.typeAssert (.iface 76 x) 45 71 true).run Tryz.prog w = .ok (.tuple #[.int .i64 0, .bool false]) w := by kernel_rfl
theorem oa_list_tuple (x : Value) (w : World) : (Instr.typeAssert (.iface 76 x) 45 72 true).run Tryz.prog w = .ok (.tuple #[.slice none 0 0, .bool false]) w := by kernel_rfl
theorem oa_list_map (x : Value) (w : World) : (Instr.typeAssert (.iface 76 x) 45 74 true).run Tryz.prog w = .ok (.tuple #[.slice none 0 0, .bool false]) w := by kernel_rfl
theorem oa_list_list (x : Value) (w : World) : (Instr.typeAssert (.iface 76 x) 45 76 true).run Tryz.prog w = .ok (.tuple #[x, .bool true]) w := by kernel_rfl
theorem oa_bin_int (x : Value) (w : World) : (Instr.typeAssert (.iface 77 x) 45 65 true).run Tryz.prog w = .ok (.tuple #[.int .i64 0, .bool false]) w := by kernel_rfl
theorem oa_bin_atom (x : Value) (w : World) : (Instr.typeAssert (.iface 77 x) 45 59 true).run Tryz.prog w = .ok (.tuple #[.string ⟨#[]⟩, .bool false]) w := by kernel_rfl
theorem oa_bin_ref (x : Value) (w : World) : (Instr.typeAssert (.iface 77 x) 45 66 true).run Tryz.prog w = .ok (.tuple #[.int .i64 0, .bool false]) w := by kernel_rfl
theorem oa_bin_fun (x : Value) (w : World) : (Instr.typeAssert (.iface 77 x) 45 69 true).run Tryz.prog w = .ok (.tuple #[.agg #[.int .i64 0, .slice none 0 0], .bool false]) w := by kernel_rfl
theorem oa_bin_pid (x : Value) (w : World) : (Instr.typeAssert (.iface 77 x) 45 71 true).run Tryz.prog w = .ok (.tuple #[.int .i64 0, .bool false]) w := by kernel_rfl
theorem oa_bin_tuple (x : Value) (w : World) : (Instr.typeAssert (.iface 77 x) 45 72 true).run Tryz.prog w = .ok (.tuple #[.slice none 0 0, .bool false]) w := by kernel_rfl
theorem oa_bin_map (x : Value) (w : World) : (Instr.typeAssert (.iface 77 x) 45 74 true).run Tryz.prog w = .ok (.tuple #[.slice none 0 0, .bool false]) w := by kernel_rfl
theorem oa_bin_list (x : Value) (w : World) : (Instr.typeAssert (.iface 77 x) 45 76 true).run Tryz.prog w = .ok (.tuple #[.slice none 0 0, .bool false]) w := by kernel_rfl
theorem oa_bin_bin (x : Value) (w : World) : (Instr.typeAssert (.iface 77 x) 45 77 true).run Tryz.prog w = .ok (.tuple #[x, .bool true]) w := by kernel_rfl

theorem out_end {n : Nat} {t : Tm (n + 1)} {w wr : World} (hb : Below w.heap.size w wr) (hl : w.heap.size < wr.heap.size) {k m : Int} {s : ByteArray} {a : Option Addr} {l cap : Nat}
    (hT : TAt (fun b => w.heap.size < b ∧ b < wr.heap.size) wr (n + 1) t (.int .i64 k) (.int .i64 m) (.string s) (.slice a l cap)) (hO : OwnS wr n (w.heap.size + 1) wr.heap.size (kidsOf t) (.slice a l cap)) :
    OutEnd n t w (.returned (.agg #[.int .i64 k, .int .i64 m, .string s, .slice a l cap])) (fourIn wr w.heap.size (.int .i64 k) (.int .i64 m) (.string s) (.slice a l cap)) := by
  have hk := fourIn_kept wr w.heap.size (.int .i64 k) (.int .i64 m) (.string s) (.slice a l cap)
  refine ⟨hb.four (Nat.le_refl _) _ _ _ _, _, _, _, _, rfl, ?_, ?_⟩
  · exact (hT.keep fun b hb => hk.block b hb.2 (by have := hb.1; omega)).mono fun b hb => ⟨by have := hb.1; omega, Nat.lt_of_lt_of_le hb.2 hk.size⟩
  · exact (hO.keep fun b h1 h2 => hk.block b h2 (by omega)).wide (by omega) hk.size

def startW (w : World) : World := w.alloc (.cells #[.int .i64 0, .int .i64 0, .string ⟨#[]⟩, .slice none 0 0] 28)
theorem startW_four (w : World) : Four w.heap.size (startW w) := ⟨_, _, _, _, heap_new w _⟩
theorem startW_below (w : World) : Below w.heap.size w (startW w) := (Below.refl _ _).alloc (Nat.le_refl _) _
theorem startW_size (w : World) : (startW w).heap.size = w.heap.size + 1 := by simp [startW]

theorem ownS_nil {w : World} {n lo hi : Nat} {a : Option Addr} (cap : Nat) : OwnS w n lo hi ([] : List (Tm n)) (.slice a 0 cap) := by
  cases n with
  | zero => exact ⟨a, cap, rfl⟩
  | succ n => exact ⟨a, cap, rfl, .inl rfl⟩

set_option maxRecDepth 40000 in
set_option maxHeartbeats 1000000 in
theorem out_int (n : Nat) (m : Int) (hm : In64 m) (w : World) : Calls Tryz.prog 21 #[.iface 65 (.int .i64 m)] w fun e w' => OutEnd n (leafT n 1 m noText) w e w' := by
  have f0 := oa_int_int
  obtain ⟨w0, hw0⟩ : ∃ w0, w0 = startW w := ⟨_, rfl⟩
  have hr0 := startW_four w
  have hb0 := startW_below w
  have hs0 := startW_size w
  rw [← hw0] at hr0 hb0 hs0
  have HW0 := hide hw0
  have HB0 := hide hb0
  obtain ⟨y0, y1, y2, y3, z0, z1, z2, z3, g0, g1, g2, g3⟩ := hr0.cells
  clear hw0 hb0
  go_enter Tryz.func21, Tryz.ntmps21
  go_upto_region 1 with fail
  rw [← show startW w = w.alloc (.cells #[.int .i64 0, .int .i64 0, .string ⟨#[]⟩, .slice none 0 0] 28) from rfl, ← unhide HW0]
  go_wp2_with fail
  exact bodyPost_ret (v := .agg #[.int .i64 1, .int .i64 m, .string ⟨#[]⟩, .slice none 0 0]) (by simp [results, Tryz.results21, go_sem, z0, z1, z2, z3]) rfl (out_end (unhide HB0) (by omega) ⟨rfl, rfl, rfl, ⟨by omega, by omega⟩, hm, by decide, sat_none⟩ (ownS_nil _))

set_option maxRecDepth 40000 in
set_option maxHeartbeats 1000000 in
theorem out_atom (n : Nat) (s : ByteArray) (hs : s.size ≤ 2 ^ 47) (w : World) : Calls Tryz.prog 21 #[.iface 59 (.string s)] w fun e w' => OutEnd n (leafT n 2 0 s) w e w' := by
  have f0 := oa_atom_int
  have f1 := oa_atom_atom
  obtain ⟨w0, hw0⟩ : ∃ w0, w0 = startW w := ⟨_, rfl⟩
  have hr0 := startW_four w
  have hb0 := startW_below w
  have hs0 := startW_size w
  rw [← hw0] at hr0 hb0 hs0
  have HW0 := hide hw0
  have HB0 := hide hb0
  obtain ⟨y0, y1, y2, y3, z0, z1, z2, z3, g0, g1, g2, g3⟩ := hr0.cells
  clear hw0 hb0
  go_enter Tryz.func21, Tryz.ntmps21
  go_upto_region 1 with fail
  rw [← show startW w = w.alloc (.cells #[.int .i64 0, .int .i64 0, .string ⟨#[]⟩, .slice none 0 0] 28) from rfl, ← unhide HW0]
  go_wp2_with fail
  exact bodyPost_ret (v := .agg #[.int .i64 2, .int .i64 0, .string s, .slice none 0 0]) (by simp [results, Tryz.results21, go_sem, z0, z1, z2, z3]) rfl (out_end (unhide HB0) (by omega) ⟨rfl, rfl, rfl, ⟨by omega, by omega⟩, ⟨by omega, by omega⟩, hs, sat_none⟩ (ownS_nil _))

set_option maxRecDepth 40000 in
set_option maxHeartbeats 1000000 in
theorem out_ref (n : Nat) (m : Int) (hm : In64 m) (w : World) : Calls Tryz.prog 21 #[.iface 66 (.int .i64 m)] w fun e w' => OutEnd n (leafT n 3 m noText) w e w' := by
  have f0 := oa_ref_int
  have f1 := oa_ref_atom
  have f2 := oa_ref_ref
  obtain ⟨w0, hw0⟩ : ∃ w0, w0 = startW w := ⟨_, rfl⟩
  have hr0 := startW_four w
  have hb0 := startW_below w
  have hs0 := startW_size w
  rw [← hw0] at hr0 hb0 hs0
  have HW0 := hide hw0
  have HB0 := hide hb0
  obtain ⟨y0, y1, y2, y3, z0, z1, z2, z3, g0, g1, g2, g3⟩ := hr0.cells
  clear hw0 hb0
  go_enter Tryz.func21, Tryz.ntmps21
  go_upto_region 1 with fail
  rw [← show startW w = w.alloc (.cells #[.int .i64 0, .int .i64 0, .string ⟨#[]⟩, .slice none 0 0] 28) from rfl, ← unhide HW0]
  go_wp2_with fail
  exact bodyPost_ret (v := .agg #[.int .i64 3, .int .i64 m, .string ⟨#[]⟩, .slice none 0 0]) (by simp [results, Tryz.results21, go_sem, z0, z1, z2, z3]) rfl (out_end (unhide HB0) (by omega) ⟨rfl, rfl, rfl, ⟨by omega, by omega⟩, hm, by decide, sat_none⟩ (ownS_nil _))

set_option maxRecDepth 40000 in
set_option maxHeartbeats 1000000 in
theorem out_pid (n : Nat) (m : Int) (hm : In64 m) (w : World) : Calls Tryz.prog 21 #[.iface 71 (.int .i64 m)] w fun e w' => OutEnd n (leafT n 5 m noText) w e w' := by
  have f0 := oa_pid_int
  have f1 := oa_pid_atom
  have f2 := oa_pid_ref
  have f3 := oa_pid_fun
  have f4 := oa_pid_pid
  obtain ⟨w0, hw0⟩ : ∃ w0, w0 = startW w := ⟨_, rfl⟩
  have hr0 := startW_four w
  have hb0 := startW_below w
  have hs0 := startW_size w
  rw [← hw0] at hr0 hb0 hs0
  have HW0 := hide hw0
  have HB0 := hide hb0
  obtain ⟨y0, y1, y2, y3, z0, z1, z2, z3, g0, g1, g2, g3⟩ := hr0.cells
  clear hw0 hb0
  go_enter Tryz.func21, Tryz.ntmps21
  go_upto_region 1 with fail
  rw [← show startW w = w.alloc (.cells #[.int .i64 0, .int .i64 0, .string ⟨#[]⟩, .slice none 0 0] 28) from rfl, ← unhide HW0]
  go_wp2_with fail
  exact bodyPost_ret (v := .agg #[.int .i64 5, .int .i64 m, .string ⟨#[]⟩, .slice none 0 0]) (by simp [results, Tryz.results21, go_sem, z0, z1, z2, z3]) rfl (out_end (unhide HB0) (by omega) ⟨rfl, rfl, rfl, ⟨by omega, by omega⟩, hm, by decide, sat_none⟩ (ownS_nil _))

set_option maxRecDepth 40000 in
set_option maxHeartbeats 1000000 in
theorem out_bin (n : Nat) (s : ByteArray) (hs : s.size ≤ 2 ^ 47) (w : World) : Calls Tryz.prog 21 #[.iface 77 (.string s)] w fun e w' => OutEnd n (leafT n 9 0 s) w e w' := by
  have f0 := oa_bin_int
  have f1 := oa_bin_atom
  have f2 := oa_bin_ref
  have f3 := oa_bin_fun
  have f4 := oa_bin_pid
  have f5 := oa_bin_tuple
  have f6 := oa_bin_map
  have f7 := oa_bin_list
  have f8 := oa_bin_bin
  obtain ⟨w0, hw0⟩ : ∃ w0, w0 = startW w := ⟨_, rfl⟩
  have hr0 := startW_four w
  have hb0 := startW_below w
  have hs0 := startW_size w
  rw [← hw0] at hr0 hb0 hs0
  have HW0 := hide hw0
  have HB0 := hide hb0
  obtain ⟨y0, y1, y2, y3, z0, z1, z2, z3, g0, g1, g2, g3⟩ := hr0.cells
  clear hw0 hb0
  go_enter Tryz.func21, Tryz.ntmps21
  go_upto_region 1 with fail
  rw [← show startW w = w.alloc (.cells #[.int .i64 0, .int .i64 0, .string ⟨#[]⟩, .slice none 0 0] 28) from rfl, ← unhide HW0]
  go_wp2_with fail
  exact bodyPost_ret (v := .agg #[.int .i64 9, .int .i64 0, .string s, .slice none 0 0]) (by simp [results, Tryz.results21, go_sem, z0, z1, z2, z3]) rfl (out_end (unhide HB0) (by omega) ⟨rfl, rfl, rfl, ⟨by omega, by omega⟩, ⟨by omega, by omega⟩, hs, sat_none⟩ (ownS_nil _))

/-- The way outward of a row. -/
def OrSaid (n : Nat) : Prop := ∀ (ks : List (Tm n)) (a : Option Addr) (cap : Nat) (w : World), KAt (Under w.heap.size) w (XAt (Under w.heap.size) w n) ks a → ks.length ≤ 100000 → Calls Tryz.prog 32 #[.slice a ks.length cap] w fun e w' => OrEnd n ks w e w'
theorem or_any {n : Nat} (h : ∀ m, n = m + 1 → OutSaid m) : OrSaid n := by
  cases n with
  | zero =>
    intro ks a cap w _ _
    have hn : ks = [] := by
      cases ks with
      | nil => rfl
      | cons t _ => exact t.elim
    subst hn
    exact orow_nil a cap w
  | succ m => exact fun ks a cap w hka hl => orow_of (h m rfl) ks a cap w hka hl
theorem kat_up {n : Nat} {w w0 : World} (hb : Below w.heap.size w w0) {ks : List (Tm n)} {a : Option Addr} (h : KAt (Under w.heap.size) w (XAt (Under w.heap.size) w n) ks a) : KAt (Under w0.heap.size) w0 (XAt (Under w0.heap.size) w0 n) ks a :=
  (h.keep (fun b hb' => hb.block b hb') fun t _ v hv => hv.keep fun b hb' => hb.block b hb').mono (fun b hb' => Nat.lt_of_lt_of_le hb' hb.size) fun t _ v hv => hv.mono fun b hb' => Nat.lt_of_lt_of_le hb' hb.size

set_option maxRecDepth 40000 in
set_option maxHeartbeats 1000000 in
theorem out_tuple {n : Nat} (h : OrSaid n) (ks : List (Tm n)) (a : Option Addr) (cap : Nat) (w : World) (hka : KAt (Under w.heap.size) w (XAt (Under w.heap.size) w n) ks a) (hl : ks.length ≤ 100000) :
    Calls Tryz.prog 21 #[.iface 72 (.slice a ks.length cap)] w fun e w' => OutEnd n (6, 0, noText, ks) w e w' := by
  have f0 := oa_tuple_int
  have f1 := oa_tuple_atom
  have f2 := oa_tuple_ref
  have f3 := oa_tuple_fun
  have f4 := oa_tuple_pid
  have f5 := oa_tuple_tuple
  obtain ⟨w0, hw0⟩ : ∃ w0, w0 = startW w := ⟨_, rfl⟩
  have hr0 := startW_four w
  have hb0 := startW_below w
  have hs0 := startW_size w
  rw [← hw0] at hr0 hb0 hs0
  have HW0 := hide hw0
  have HB0 := hide hb0
  have hcall := hide (h ks a cap w0 (kat_up hb0 hka) hl)
  have HR0 := hide hr0
  clear hw0 hb0 hka hr0
  go_enter Tryz.func21, Tryz.ntmps21
  go_upto_region 1 with fail
  rw [← show startW w = w.alloc (.cells #[.int .i64 0, .int .i64 0, .string ⟨#[]⟩, .slice none 0 0] 28) from rfl, ← unhide HW0]
  go_wp2_with fail
  refine (unhide hcall).mono ?_
  rintro e w1 ⟨hb1, v, rfl, hS, hO⟩
  obtain ⟨a1, cap1, rfl, _⟩ := id hS
  have hr1 := (unhide HR0).keep (hb1.block _ (by omega))
  have HB1 := hide ((unhide HB0).trans (hb1.mono (by omega)))
  have hsz := hb1.size
  have HS := hide (hS.mono (S' := fun b => w.heap.size < b ∧ b < w1.heap.size) (R' := TAt (fun b => w.heap.size < b ∧ b < w1.heap.size) w1 n) (fun b hb => ⟨by have := hb.1; omega, hb.2⟩) fun t _ _ _ _ _ ht => ht.mono fun b hb => ⟨by have := hb.1; omega, hb.2⟩)
  have HO := hide (hO.wide (lo' := w.heap.size + 1) (hi' := w1.heap.size) (by omega) (Nat.le_refl _))
  obtain ⟨y0, y1, y2, y3, z0, z1, z2, z3, g0, g1, g2, g3⟩ := hr1.cells
  clear hr1 hb1 hS hO hcall
  go_wp2_with fail
  exact bodyPost_ret (v := .agg #[.int .i64 6, .int .i64 0, .string ⟨#[]⟩, .slice a1 ks.length cap1]) (by simp [results, Tryz.results21, go_sem, z0, z1, z2, z3]) rfl (out_end (unhide HB1) (by omega) ⟨rfl, rfl, rfl, ⟨by omega, by omega⟩, ⟨by omega, by omega⟩, by decide, unhide HS⟩ (unhide HO))

set_option maxRecDepth 40000 in
set_option maxHeartbeats 1000000 in
theorem out_list {n : Nat} (h : OrSaid n) (ks : List (Tm n)) (a : Option Addr) (cap : Nat) (w : World) (hka : KAt (Under w.heap.size) w (XAt (Under w.heap.size) w n) ks a) (hl : ks.length ≤ 100000) :
    Calls Tryz.prog 21 #[.iface 76 (.slice a ks.length cap)] w fun e w' => OutEnd n (8, 0, noText, ks) w e w' := by
  have f0 := oa_list_int
  have f1 := oa_list_atom
  have f2 := oa_list_ref
  have f3 := oa_list_fun
  have f4 := oa_list_pid
  have f5 := oa_list_tuple
  have f6 := oa_list_map
  have f7 := oa_list_list
  obtain ⟨w0, hw0⟩ : ∃ w0, w0 = startW w := ⟨_, rfl⟩
  have hr0 := startW_four w
  have hb0 := startW_below w
  have hs0 := startW_size w
  rw [← hw0] at hr0 hb0 hs0
  have HW0 := hide hw0
  have HB0 := hide hb0
  have hcall := hide (h ks a cap w0 (kat_up hb0 hka) hl)
  have HR0 := hide hr0
  clear hw0 hb0 hka hr0
  go_enter Tryz.func21, Tryz.ntmps21
  go_upto_region 1 with fail
  rw [← show startW w = w.alloc (.cells #[.int .i64 0, .int .i64 0, .string ⟨#[]⟩, .slice none 0 0] 28) from rfl, ← unhide HW0]
  go_wp2_with fail
  refine (unhide hcall).mono ?_
  rintro e w1 ⟨hb1, v, rfl, hS, hO⟩
  obtain ⟨a1, cap1, rfl, _⟩ := id hS
  have hr1 := (unhide HR0).keep (hb1.block _ (by omega))
  have HB1 := hide ((unhide HB0).trans (hb1.mono (by omega)))
  have hsz := hb1.size
  have HS := hide (hS.mono (S' := fun b => w.heap.size < b ∧ b < w1.heap.size) (R' := TAt (fun b => w.heap.size < b ∧ b < w1.heap.size) w1 n) (fun b hb => ⟨by have := hb.1; omega, hb.2⟩) fun t _ _ _ _ _ ht => ht.mono fun b hb => ⟨by have := hb.1; omega, hb.2⟩)
  have HO := hide (hO.wide (lo' := w.heap.size + 1) (hi' := w1.heap.size) (by omega) (Nat.le_refl _))
  obtain ⟨y0, y1, y2, y3, z0, z1, z2, z3, g0, g1, g2, g3⟩ := hr1.cells
  clear hr1 hb1 hS hO hcall
  go_wp2_with fail
  exact bodyPost_ret (v := .agg #[.int .i64 8, .int .i64 0, .string ⟨#[]⟩, .slice a1 ks.length cap1]) (by simp [results, Tryz.results21, go_sem, z0, z1, z2, z3]) rfl (out_end (unhide HB1) (by omega) ⟨rfl, rfl, rfl, ⟨by omega, by omega⟩, ⟨by omega, by omega⟩, by decide, unhide HS⟩ (unhide HO))

end Go.Proofs.YtffgdchemjmbmaaGreat
/- impl's way outward: maps, functions; outward as a whole. -/
namespace Go.Proofs.YtffgdchemjmbmaaGreat
open Go.RowKit Go.Deep
set_option linter.unusedVariables false

set_option maxRecDepth 40000 in
set_option maxHeartbeats 1000000 in
theorem flatX_any {n : Nat} (K : Nat → Prop) (w : World) (ks : List (Tm n)) (p : Nat) (a : Option Addr) (cap : Nat) (hp : ks.length = 2 * p) (hl : ks.length ≤ 2 ^ 42) (hKA : KAt K w (XAt K w n) ks a) (hK : ∀ k, K k → k < w.heap.size) :
    Calls Tryz.prog 33 #[.slice a p cap] w fun e w' => Below w.heap.size w w' ∧
      ∃ a' cap', e = .returned (.slice a' ks.length cap') ∧ KAt (fun k => K k ∨ (w.heap.size ≤ k ∧ k < w'.heap.size)) w' (XAt (fun k => K k ∨ (w.heap.size ≤ k ∧ k < w'.heap.size)) w' n) ks a' := by
  obtain ⟨vs, hvl, hv⟩ := hKA.cellsOf
  obtain ⟨i0, hi0, hz0, hz1, hz2⟩ := info_parts infoV
  have HV := hide hv
  clear hv hKA
  go_enter Tryz.func33, Tryz.ntmps33
  go_wp2_with fail
  go_loopw [3, 8] (fun rv iv wr => ∃ i : Nat, i ≤ p ∧ iv = .int .i64 i ∧ Below w.heap.size w wr ∧ wr.ownsRow w.heap.size 45 1 rv (2 * i) (vs.take (2 * i))) (fun _ iv _ => p - (intOf iv).toNat)
  case atStart => exact ⟨0, Nat.zero_le _, rfl, Below.refl _ _, by simpa using World.ownsRow_nil _ _ _ _⟩
  case round =>
    obtain ⟨i, hi, rfl, hb, ho⟩ := hrel
    by_cases hlt : i < p
    · obtain ⟨bb, off, rfl, hS, e0, r0⟩ := unhide HV (2 * i) (by omega) (by omega)
      obtain ⟨b2, o2, h2, _, e1, r1⟩ := unhide HV (2 * i + 1) (by omega) (by omega)
      cases h2
      obtain ⟨u0, x0, hx⟩ := r0.iface
      obtain ⟨u1, x1, hy⟩ := r1.iface
      have f0 : wr.cell? ⟨bb, off + i * 2, none⟩ = some (vs[2 * i]'(by omega)) := by rw [Nat.mul_comm i 2]; exact (World.cell?_of_block (hb.block bb (hK bb hS))).trans e0
      have f1 : wr.cell? ⟨bb, off + i * 2 + 1, none⟩ = some (vs[2 * i + 1]'(by omega)) := by rw [Nat.mul_comm i 2]; exact (World.cell?_of_block (hb.block bb (hK bb hS))).trans e1
      have ht := hide (take_two vs i (by omega))
      rw [hx] at f0 ht
      rw [hy] at f1 ht
      obtain ⟨a1, cap1, rfl⟩ := own_form ho
      have HB := hide hb
      have HO := hide ho
      have hm1 := hide (show 2 * i + 2 ≤ maxLen by unfold maxLen; omega)
      have hm2 := hide (show (2 * i + 2) * 16 ≤ 140737488355328 by omega)
      have hm3 := hide hb.size
      have hm4 := hide (show wr.heap.size ≤ ((wr.alloc (.cells #[.iface u0 x0, .iface u1 x1] 91)).alloc (.cells #[.iface u0 x0, .iface u1 x1] 45)).heap.size by simp; omega)
      have hnb := hide (show ((wr.alloc (.cells #[.iface u0 x0, .iface u1 x1] 91)).alloc (.cells #[.iface u0 x0, .iface u1 x1] 45)).heap[wr.heap.size + 1]? = some (.cells #[.iface u0 x0, .iface u1 x1] 45 (0, 0)) by
        have := heap_new (wr.alloc (.cells #[.iface u0 x0, .iface u1 x1] 91)) (.cells #[.iface u0 x0, .iface u1 x1] 45)
        simpa using this)
      have h1c := hide (show ∀ u ∈ [Value.iface u0 x0, Value.iface u1 x1], u.oneCell' = true by intro u hu; simp at hu; rcases hu with rfl | rfl <;> rfl)
      clear e0 e1 r0 r1 hx hy hb ho
      go_upto_region 5 with fail
      go_wp2_with (at_builtin; refine wpList_append_own _ rfl (.tmp 12) (.tmp 17) 67 rfl w.heap.size 45 i0 .nilIface 1 16 Tryz.underlying67 hi0 hz0 hz1 hz2 rfl (by decide) _ (2 * i) _ rfl (((unhide HO).alloc _).alloc _) _ 2 2 [.iface u0 x0, .iface u1 x1] rfl rfl (World.news_of_block (cs := #[.iface u0 x0, .iface u1 x1]) (unhide hnb)) (unhide h1c) (unhide hm1) (unhide hm2) (Nat.le_trans (unhide hm3) (unhide hm4)) ?_)
      intro v w1 ho1 hg1 _
      have hb1 : Below w.heap.size w w1 := (((unhide HB).alloc (unhide hm3) _).alloc (by simp; have := unhide hm3; omega) _).grown hg1 (Nat.le_trans (unhide hm3) (unhide hm4)) fun k hk => ((unhide HO).lt k hk).1
      rw [← unhide ht] at ho1
      have HO1 := hide ho1
      have HB1 := hide hb1
      clear ho1 hb1 hg1 f0 f1
      go_wp2_with fail
      go_roundw
      case rel => exact ⟨i + 1, hlt, by go_num, unhide HB1, unhide HO1⟩
      case measure => simp [intOf]; omega
    · have hkk : i = p := by omega
      subst hkk
      rw [List.take_of_length_le (by omega)] at ho
      rw [← hp] at ho
      obtain ⟨a1, cap1, rfl⟩ := own_form ho
      have HB := hide hb
      have HO := hide ho
      clear hb ho
      go_wp2_with fail
      go_ret
      refine ⟨unhide HB, a1, cap1, rfl, ?_⟩
      have ho := unhide HO
      intro i hi
      obtain ⟨g, c, hv, hg, hgl⟩ := ho.form (by omega)
      cases hv
      have hi' : i < vs.length := by omega
      obtain ⟨_, _, _, _, _, hr⟩ := unhide HV i hi hi'
      refine ⟨g, 0, vs[i], rfl, .inr ⟨hg, hgl⟩, ?_, (hr.keep fun k hk => (unhide HB).block k (hK k hk)).mono fun _ h => .inl h⟩
      have := ho.cells (g := g) rfl i vs[i] (List.getElem?_eq_getElem hi')
      have hadd : (⟨g, 0, none⟩ : Addr).add i = ⟨g, i, none⟩ := by unfold Addr.add; split <;> simp_all
      rw [hadd] at this
      simpa using this

theorem fourIn_other (w : World) {B b : Nat} (hn : b ≠ B) (hb : b < w.heap.size) (d0 d1 d2 d3 : Value) (o : Nat) : (fourIn w B d0 d1 d2 d3).cell? ⟨b, o, none⟩ = w.cell? ⟨b, o, none⟩ :=
  World.cell?_of_block (w := w) ((fourIn_kept w B d0 d1 d2 d3).block b hb hn)
theorem kat_or {n : Nat} {w1 : World} {N : Nat} (hN : N ≤ w1.heap.size) {ks : List (Tm n)} {a : Option Addr} (h : KAt (fun k => Under N k ∨ (N ≤ k ∧ k < w1.heap.size)) w1 (XAt (fun k => Under N k ∨ (N ≤ k ∧ k < w1.heap.size)) w1 n) ks a) :
    KAt (Under w1.heap.size) w1 (XAt (Under w1.heap.size) w1 n) ks a := by
  have hs : ∀ b, (Under N b ∨ (N ≤ b ∧ b < w1.heap.size)) → Under w1.heap.size b := fun b hb => by
    rcases hb with hb | hb
    · exact Nat.lt_of_lt_of_le hb hN
    · exact hb.2
  exact h.mono hs fun t _ v hv => hv.mono hs

set_option maxRecDepth 40000 in
set_option maxHeartbeats 1000000 in
theorem out_map {n : Nat} (h : OrSaid n) (ks : List (Tm n)) (p : Nat) (hp : ks.length = 2 * p) (a : Option Addr) (cap : Nat) (w : World) (hka : KAt (Under w.heap.size) w (XAt (Under w.heap.size) w n) ks a) (hl : ks.length ≤ 100000) :
    Calls Tryz.prog 21 #[.iface 74 (.slice a p cap)] w fun e w' => OutEnd n (7, 0, noText, ks) w e w' := by
  have f0 := oa_map_int
  have f1 := oa_map_atom
  have f2 := oa_map_ref
  have f3 := oa_map_fun
  have f4 := oa_map_pid
  have f5 := oa_map_tuple
  have f6 := oa_map_map
  obtain ⟨w0, hw0⟩ : ∃ w0, w0 = startW w := ⟨_, rfl⟩
  have hr0 := startW_four w
  have hb0 := startW_below w
  have hs0 := startW_size w
  rw [← hw0] at hr0 hb0 hs0
  have HW0 := hide hw0
  have HB0 := hide hb0
  have HR0 := hide hr0
  have HKA := hide (kat_up hb0 hka)
  clear hw0 hb0 hka hr0
  go_enter Tryz.func21, Tryz.ntmps21
  go_upto_region 1 with fail
  rw [← show startW w = w.alloc (.cells #[.int .i64 0, .int .i64 0, .string ⟨#[]⟩, .slice none 0 0] 28) from rfl, ← unhide HW0]
  have hflat := hide (flatX_any (Under w0.heap.size) w0 ks p a cap hp (by omega) (unhide HKA) fun _ h => h)
  clear hp
  go_wp2_with fail
  refine (unhide hflat).mono ?_
  rintro e w1 ⟨hb1, a1, cap1, rfl, hka1⟩
  have hs1 := hb1.size
  have hcall := hide (h ks a1 cap1 w1 (kat_or hs1 hka1) hl)
  have HB1 := hide hb1
  clear hflat hb1 hka1
  go_wp2_with fail
  refine (unhide hcall).mono ?_
  rintro e w2 ⟨hb2, v, rfl, hS, hO⟩
  obtain ⟨a2, cap2, rfl, _⟩ := id hS
  have hb1 := unhide HB1
  have hr1 := ((unhide HR0).keep (hb1.block _ (by omega))).keep (hb2.block _ (by omega))
  have HB2 := hide (((unhide HB0).trans (hb1.mono (by omega))).trans (hb2.mono (by omega)))
  have hsz := hb2.size
  have HS := hide (hS.mono (S' := fun b => w.heap.size < b ∧ b < w2.heap.size) (R' := TAt (fun b => w.heap.size < b ∧ b < w2.heap.size) w2 n) (fun b hb => ⟨by have := hb.1; omega, hb.2⟩) fun t _ _ _ _ _ ht => ht.mono fun b hb => ⟨by have := hb.1; omega, hb.2⟩)
  have HO := hide (hO.wide (lo' := w.heap.size + 1) (hi' := w2.heap.size) (by omega) (Nat.le_refl _))
  obtain ⟨y0, y1, y2, y3, z0, z1, z2, z3, g0, g1, g2, g3⟩ := hr1.cells
  clear hr1 hb1 hb2 hS hO hcall
  go_wp2_with fail
  exact bodyPost_ret (v := .agg #[.int .i64 7, .int .i64 0, .string ⟨#[]⟩, .slice a2 ks.length cap2]) (by simp [results, Tryz.results21, go_sem, z0, z1, z2, z3]) rfl (out_end (unhide HB2) (by omega) ⟨rfl, rfl, rfl, ⟨by omega, by omega⟩, ⟨by omega, by omega⟩, by decide, unhide HS⟩ (unhide HO))

set_option maxRecDepth 40000 in
set_option maxHeartbeats 2000000 in
theorem out_fun {n : Nat} (h : OrSaid n) (m : Int) (hm : In64 m) (ks : List (Tm n)) (a : Option Addr) (cap : Nat) (w : World) (hka : KAt (Under w.heap.size) w (XAt (Under w.heap.size) w n) ks a) (hl : ks.length ≤ 100000) :
    Calls Tryz.prog 21 #[.iface 69 (.agg #[.int .i64 m, .slice a ks.length cap])] w fun e w' => OutEnd n (4, m, noText, ks) w e w' := by
  have f0 := oa_fun_int
  have f1 := oa_fun_atom
  have f2 := oa_fun_ref
  have f3 := oa_fun_fun
  obtain ⟨w0, hw0⟩ : ∃ w0, w0 = startW w := ⟨_, rfl⟩
  have hr0 := startW_four w
  have hb0 := startW_below w
  have hs0 := startW_size w
  rw [← hw0] at hr0 hb0 hs0
  have HW0 := hide hw0
  have HB0 := hide hb0
  have HR0 := hide hr0
  have HKA := hide (kat_up hb0 hka)
  clear hw0 hb0 hka hr0
  go_enter Tryz.func21, Tryz.ntmps21
  go_upto_region 1 with fail
  rw [← show startW w = w.alloc (.cells #[.int .i64 0, .int .i64 0, .string ⟨#[]⟩, .slice none 0 0] 28) from rfl, ← unhide HW0]
  go_upto_region 13 with fail
  obtain ⟨w1, hw1⟩ : ∃ w1, w1 = w0.alloc (.cells #[.int .i64 m, .slice a ks.length cap] 69) := ⟨_, rfl⟩
  have hb1 : Below w0.heap.size w0 w1 := by rw [hw1]; exact (Below.refl _ _).alloc (Nat.le_refl _) _
  have hn1 : w1.heap[w0.heap.size]? = some (.cells #[.int .i64 m, .slice a ks.length cap] 69 (0, 0)) := by rw [hw1]; exact heap_new _ _
  have hs1 : w1.heap.size = w0.heap.size + 1 := by rw [hw1]; simp
  rw [← hw1]
  have p0 := cell_of_heap hn1 0
  have p1 := cell_of_heap hn1 1
  have hlt : w0.heap.size < w1.heap.size := by omega
  rw [hs0] at p0 p1 hlt
  have HCALL := hide (fun (W : World) (hb : Below w1.heap.size w1 W) => h ks a cap W (kat_up (hb.mono (Nat.le_refl _)) (kat_up hb1 (unhide HKA))) hl)
  have HB1 := hide hb1
  have HR1 := hide ((unhide HR0).keep (hb1.block _ (by omega)))
  have hsp := hide ((Below.refl w1.heap.size w1).drew)
  clear hw1 hn1 hb1
  go_region_held3 (fun W => W.cell? ⟨w.heap.size + 1, 0, none⟩ = some (.int .i64 m) ∧ W.cell? ⟨w.heap.size + 1, 1, none⟩ = some (.slice a ks.length cap))
    (first | exact ⟨(bcell (unhide hsp) _ _ hlt).trans p0, (bcell (unhide hsp) _ _ hlt).trans p1⟩ | exact ⟨(fourIn_other w2 (by omega) (Nat.lt_of_lt_of_le hlt (unhide hsp).size) _ _ _ _ _).trans ((bcell (unhide hsp) _ _ hlt).trans p0), (fourIn_other w2 (by omega) (Nat.lt_of_lt_of_le hlt (unhide hsp).size) _ _ _ _ _).trans ((bcell (unhide hsp) _ _ hlt).trans p1)⟩)
    (first
      | (go_at_call 32; refine (unhide HCALL _ (unhide hsp)).mono ?_; rintro e w2 ⟨hb2, v, rfl, hS, hO⟩; obtain ⟨a2, cap2, rfl, _⟩ := id hS; have hsz := hb2.size; have HSZ1 := hide (unhide hsp).size; have hsp := hide ((unhide hsp).trans (hb2.mono (unhide hsp).size)); have hr1 := (unhide HR1).keep ((unhide hsp).block _ (by omega)); obtain ⟨y0, y1, y2, y3, z0, z1, z2, z3, g0, g1, g2, g3⟩ := hr1.cells; have HS := hide hS; have HO := hide hO; clear hb2 hS hO hr1))
  have hw1s := (unhide HB1).size
  have hz1 := unhide HSZ1
  have HBW := hide (((unhide HB0).trans ((unhide HB1).mono (by omega))).trans ((unhide hsp).mono (by omega)))
  have HS2 := hide ((unhide HS).mono (S' := fun b => w.heap.size < b ∧ b < w2.heap.size) (R' := TAt (fun b => w.heap.size < b ∧ b < w2.heap.size) w2 n) (fun b hb => ⟨by have := hb.1; omega, hb.2⟩) fun t _ _ _ _ _ ht => ht.mono fun b hb => ⟨by have := hb.1; omega, hb.2⟩)
  have HO2 := hide ((unhide HO).wide (lo' := w.heap.size + 1) (hi' := w2.heap.size) (by omega) (Nat.le_refl _))
  go_wp2_with fail
  exact bodyPost_ret (v := .agg #[.int .i64 4, .int .i64 m, .string ⟨#[]⟩, .slice a2 ks.length cap2]) (by simp [results, Tryz.results21, go_sem, z0, z1, z2, z3]) rfl (out_end (unhide HBW) (by omega) ⟨rfl, rfl, rfl, ⟨by omega, by omega⟩, hm, by decide, unhide HS2⟩ (unhide HO2))

end Go.Proofs.YtffgdchemjmbmaaGreat
/- impl's way outward: any value. -/
namespace Go.Proofs.YtffgdchemjmbmaaGreat
open Go.RowKit Go.Deep

theorem out_of {n : Nat} (h : OrSaid n) : OutSaid n := by
  rintro ⟨k, m, s, ks⟩ v w ⟨hm, hs, hx⟩
  rcases hx with ⟨rfl, rfl, rfl, rfl⟩ | ⟨rfl, rfl, rfl, rfl⟩ | ⟨rfl, rfl, rfl, rfl⟩ | ⟨rfl, rfl, rfl, rfl⟩ | ⟨rfl, rfl, rfl, rfl⟩ | ⟨a, cap, hK, hl, rfl, ⟨rfl, rfl⟩ | ⟨rfl, rfl, rfl⟩ | ⟨rfl, rfl, rfl⟩ | ⟨rfl, rfl, hev, rfl⟩⟩
  · exact out_int n m hm w
  · exact out_atom n s hs w
  · exact out_ref n m hm w
  · exact out_pid n m hm w
  · exact out_bin n s hs w
  · exact out_fun h m hm ks a cap w hK hl
  · exact out_tuple h ks a cap w hK hl
  · exact out_list h ks a cap w hK hl
  · exact out_map h ks (ks.length / 2) (by omega) a cap w hK hl

theorem out_any : ∀ n, OutSaid n
  | 0 => out_of (or_any fun m h => by omega)
  | n + 1 => out_of (or_any fun m h => by
    obtain rfl : n = m := by omega
    exact out_any n)

end Go.Proofs.YtffgdchemjmbmaaGreat
/- What the draws of maps need. -/
namespace Go.Proofs.YtffgdchemjmbmaaGreat
open Go.RowKit Go.Deep

theorem shape_one {S : Nat → Prop} {w : World} {n : Nat} {t : Tm n} {c0 c1 c2 c3 : Value} (h : TAt S w n t c0 c1 c2 c3) : ∀ u ∈ [c0, c1, c2, c3], u.oneCell' = true := by
  obtain ⟨_, _, _, _, _, _, rfl, rfl, rfl, rfl⟩ := h.shape
  intro u hu
  simp at hu
  rcases hu with rfl | rfl | rfl | rfl <;> rfl

end Go.Proofs.YtffgdchemjmbmaaGreat
/- What the draws of terms need. -/
namespace Go.Proofs.YtffgdchemjmbmaaGreat
open Go.RowKit Go.Deep

/-- Four cells of a result. -/
def Res4 (B : Nat) (w : World) : Prop := ∃ a b c d, w.heap[B]? = some (.cells #[a, b, c, d] 28 (0, 0))
theorem Res4.lt {B : Nat} {w : World} (h : Res4 B w) : B < w.heap.size := by
  obtain ⟨_, _, _, _, h⟩ := h
  rcases Nat.lt_or_ge B w.heap.size with h1 | h1
  · exact h1
  · rw [Array.getElem?_eq_none h1] at h; cases h
theorem Res4.keep {B : Nat} {w w' : World} (h : Res4 B w) (hb : w'.heap[B]? = w.heap[B]?) : Res4 B w' := by
  obtain ⟨a, b, s, c, h1⟩ := h
  exact ⟨a, b, s, c, hb.trans h1⟩
/-- A term that lies in a new block put behind an own row. -/
theorem row_push {n base : Nat} {w1 wz : World} {ls : List (Tm n)} {xs : List Value} {kv : Value} (hX : RowsX base w1 ls kv xs) (hl : ls.length ≤ 5000) {t : Tm n} {d0 d1 d2 d3 : Value} {S : Nat → Prop} (ht : TAt S w1 n t d0 d1 d2 d3) (hS : ∀ b, S b → Off base kv w1 b)
    (hz : wz.heap = (w1.alloc (.cells #[d0, d1, d2, d3] 28)).heap ∧ wz.os = w1.os ∧ wz.tape = w1.tape ∧ wz.output = w1.output) (hb : base ≤ w1.heap.size) (ty : TypeId) :
    ∃ R cap w', (Builtin.append_ #[26, 26] ty #[kv, .slice (some ⟨w1.heap.size, 0, none⟩) 1 1]).run Tryz.prog wz = .ok (.slice (some ⟨R, 0, none⟩) (ls.length + 1) cap) w' ∧
      RowsX base w' (ls ++ [t]) (.slice (some ⟨R, 0, none⟩) (ls.length + 1) cap) (xs ++ [d0, d1, d2, d3]) ∧ Below base w1 w' := by
  have hbz : Below w1.heap.size w1 wz := ⟨hz.2.1, hz.2.2.1, hz.2.2.2, by rw [hz.1]; simp, fun k hk => by rw [hz.1]; exact Below.heap_alloc _ _ _ hk⟩
  have hXz := hX.up hbz
  have hblk : wz.heap[w1.heap.size]? = some (.cells #[d0, d1, d2, d3] 28 (0, 0)) := by rw [hz.1]; exact heap_new _ _
  have g1 : TAt (Off base kv wz) wz n t d0 d1 d2 d3 := (ht.below hbz fun b hb => (hS b hb).2.1).mono fun b hb => ⟨(hS b hb).1, Nat.lt_of_lt_of_le (hS b hb).2.1 hbz.size, (hS b hb).2.2⟩
  obtain ⟨R, cap, w', hr, ho, hg, hR⟩ := run_append_terms base kv ls.length xs wz hXz.1 (by omega) ⟨w1.heap.size, 0, none⟩ 1 1 [d0, d1, d2, d3] rfl ⟨by omega, by omega⟩
    (fun j u hu => by rw [Go.WideShapes.add_plain, cell_of_heap hblk, Nat.zero_add, ← Array.getElem?_toList]; exact hu) (shape_one ht) (Nat.le_trans hb hbz.size) ty
  exact ⟨R, cap, w', hr, hXz.push (CellsAt.one g1) (R := R) (cap := cap) ho hg hR, (hbz.mono hb).grown hg (Nat.le_trans hb hbz.size) fun k hk => (hXz.1.lt k hk).1⟩

end Go.Proofs.YtffgdchemjmbmaaGreat
/- Rows of elements of K cells: what lies in memory, for any kind of element. -/
namespace Go.Proofs.YtffgdchemjmbmaaGreat
open Go.RowKit

/-- A slice whose elements take K cells each; each stands for a member of ks, as R says. -/
def RAt {α : Type} (K : Nat) (S : Nat → Prop) (w : World) (R : α → List Value → Prop) (ks : List α) (v : Value) : Prop :=
  ∃ a cap, v = .slice a ks.length cap ∧ ks.length ≤ cap ∧ ks.length ≤ 2 ^ 47 ∧ ∀ i (h : i < ks.length), ∃ b off ds, a = some ⟨b, off, none⟩ ∧ S b ∧ ds.length = K ∧
    (∀ j, j < K → w.cell? ⟨b, off + i * K + j, none⟩ = ds[j]?) ∧ R ks[i] ds
theorem RAt.keep {α : Type} {K : Nat} {S : Nat → Prop} {w w' : World} {R R' : α → List Value → Prop} {ks : List α} {v : Value} (h : RAt K S w R ks v) (hk : ∀ b, S b → w'.heap[b]? = w.heap[b]?) (hR : ∀ t ∈ ks, ∀ ds, R t ds → R' t ds) : RAt K S w' R' ks v := by
  obtain ⟨a, cap, hv, h1, h2, h3⟩ := h
  refine ⟨a, cap, hv, h1, h2, fun i hi => ?_⟩
  obtain ⟨b, off, ds, e0, e1, e2, e3, hr⟩ := h3 i hi
  exact ⟨b, off, ds, e0, e1, e2, fun j hj => (World.cell?_of_block (w := w) (hk b e1)).trans (e3 j hj), hR _ (List.getElem_mem hi) _ hr⟩
theorem RAt.mono {α : Type} {K : Nat} {S S' : Nat → Prop} {w : World} {R R' : α → List Value → Prop} {ks : List α} {v : Value} (h : RAt K S w R ks v) (hk : ∀ b, S b → S' b) (hR : ∀ t ∈ ks, ∀ ds, R t ds → R' t ds) : RAt K S' w R' ks v := by
  obtain ⟨a, cap, hv, h1, h2, h3⟩ := h
  refine ⟨a, cap, hv, h1, h2, fun i hi => ?_⟩
  obtain ⟨b, off, ds, e0, e1, e2, e3, hr⟩ := h3 i hi
  exact ⟨b, off, ds, e0, hk b e1, e2, e3, hR _ (List.getElem_mem hi) _ hr⟩
theorem RAt.nil {α : Type} {K : Nat} {S : Nat → Prop} {w : World} {R : α → List Value → Prop} : RAt K S w R [] (.slice none 0 0) := ⟨none, 0, rfl, Nat.le_refl _, by simp, fun i hi => by cases hi⟩

/-- Cells stored, one behind the other. -/
def setL (w : World) (B o : Nat) : List Value → World
  | [] => w
  | d :: ds => setL (w.setCell ⟨B, o, none⟩ d) B (o + 1) ds
theorem setL_low {B o' : Nat} : ∀ (ds : List Value) {w : World} {o : Nat}, o' < o → (setL w B o ds).cell? ⟨B, o', none⟩ = w.cell? ⟨B, o', none⟩
  | [], _, _, _ => rfl
  | d :: ds, w, o, h => (setL_low ds (w := w.setCell ⟨B, o, none⟩ d) (by omega)).trans (World.cell?_setCell_other _ _ _ _ (by intro e; cases e; omega))
theorem setL_facts {B N : Nat} {e : TypeId} : ∀ (ds : List Value) {w : World} {o : Nat}, Row B e N w → o + ds.length ≤ N →
    Row B e N (setL w B o ds) ∧ (∀ j, j < ds.length → (setL w B o ds).cell? ⟨B, o + j, none⟩ = ds[j]?) ∧ Below B w (setL w B o ds) ∧ (∀ b, b ≠ B → (setL w B o ds).heap[b]? = w.heap[b]?) ∧ (setL w B o ds).heap.size = w.heap.size
  | [], w, o, h, _ => ⟨h, fun j hj => absurd hj (Nat.not_lt_zero j), Below.refl _ _, fun _ _ => rfl, rfl⟩
  | d :: ds, w, o, h, hl => by
    rw [List.length_cons] at hl
    obtain ⟨r1, r2, r3, r4, r5⟩ := setL_facts ds (w := w.setCell ⟨B, o, none⟩ d) (o := o + 1) (h.set o d) (by omega)
    refine ⟨r1, fun j hj => ?_, (((Below.refl B w).setCell (p := ⟨B, o, none⟩) (Nat.le_refl B) d)).trans r3, fun b hb => (r4 b hb).trans (Below.heap_setCell _ _ _ _ hb), r5.trans (by simp)⟩
    cases j with
    | zero => exact (setL_low ds (by omega)).trans (h.set_get (by omega) d)
    | succ j =>
      have := r2 j (by simpa using hj)
      rw [show o + (j + 1) = o + 1 + j by omega]
      exact this

theorem two_news (w : World) (x y : Obj) : ((w.alloc x).alloc y).heap[w.heap.size]? = some x ∧ ((w.alloc x).alloc y).heap[w.heap.size + 1]? = some y ∧ w.heap.size < ((w.alloc x).alloc y).heap.size ∧ w.heap.size + 1 < ((w.alloc x).alloc y).heap.size := by
  refine ⟨?_, ?_, by simp; omega, by simp⟩
  · rw [Below.heap_alloc _ _ _ (by simp)]; exact heap_new w x
  · have := heap_new (w.alloc x) y
    rwa [World.size_alloc] at this
theorem three_news (w : World) (x y z : Obj) : (((w.alloc x).alloc y).alloc z).heap[w.heap.size]? = some x ∧ (((w.alloc x).alloc y).alloc z).heap[w.heap.size + 1]? = some y ∧
    (((w.alloc x).alloc y).alloc z).heap[w.heap.size + 1 + 1]? = some z := by
  refine ⟨?_, ?_, ?_⟩
  · rw [Below.heap_alloc _ _ _ (by simp; omega), Below.heap_alloc _ _ _ (by simp)]; exact heap_new w x
  · rw [Below.heap_alloc _ _ _ (by simp)]
    have := heap_new (w.alloc x) y
    rwa [World.size_alloc] at this
  · have := heap_new ((w.alloc x).alloc y) z
    rwa [World.size_alloc, World.size_alloc] at this

end Go.Proofs.YtffgdchemjmbmaaGreat
/- spec's l01Copy: a term over, every row anew. -/
namespace Go.Proofs.YtffgdchemjmbmaaGreat
open Go.RowKit Go.Deep

def CpySaid (n : Nat) : Prop := ∀ (t : Tm n) (c0 c1 c2 c3 : Value) (w : World), TAt (Under w.heap.size) w n t c0 c1 c2 c3 → siz n t ≤ 4000 →
  Calls Tryz.prog 15 #[.agg #[c0, c1, c2, c3]] w fun e w' => ∃ d0 d1 d2 d3, e = .returned (.agg #[d0, d1, d2, d3]) ∧ TAt (Fresh w w') w' n t d0 d1 d2 d3 ∧ Below w.heap.size w w'

set_option maxRecDepth 40000 in
set_option maxHeartbeats 4000000 in
theorem cpy_of {n : Nat} (ih : CpySaid n) : CpySaid (n + 1) := by
  rintro ⟨k, m, s, ks⟩ c0 c1 c2 c3 w ht hsz
  obtain ⟨rfl, rfl, rfl, hk, hm, hs, hv⟩ := ht
  obtain ⟨a, cap, rfl, hcap⟩ : ∃ a cap, c3 = .slice a ks.length cap ∧ ks.length ≤ 2 ^ 47 := by obtain ⟨a, cap, h, _, h2, _⟩ := hv; exact ⟨a, cap, h, h2⟩
  have hsk : sizS ks ≤ 4000 := by
    have : siz (n + 1) ((k, m, s, ks) : Tm (n + 1)) = 1 + sizS ks := rfl
    omega
  have hlen : ks.length ≤ 4000 := Nat.le_trans (len_siz ks) hsk
  have hki : ∀ i (h : i < ks.length), siz n ks[i] ≤ 4000 := fun i h => by
    have h1 := sizS_take ks i h
    have h2 := sizS_le ks (i + 1)
    omega
  obtain ⟨W, hW⟩ : ∃ W, W = ((w.alloc (.cells #[.int .i64 k, .int .i64 m, .string s, .slice a ks.length cap] 28)).alloc (.cells #[.int .i64 0, .int .i64 0, .string ⟨#[]⟩, .slice none 0 0] 28)).alloc (.cells #[] 28) := ⟨_, rfl⟩
  obtain ⟨n0, n1, n2⟩ := three_news w (.cells #[.int .i64 k, .int .i64 m, .string s, .slice a ks.length cap] 28) (.cells #[.int .i64 0, .int .i64 0, .string ⟨#[]⟩, .slice none 0 0] 28) (.cells #[] 28)
  have hWs : W.heap.size = w.heap.size + 3 := by rw [hW]; simp
  have hWb : Below w.heap.size w W := by rw [hW]; exact ((below_two w _ _)).alloc (by simp; omega) _
  have hlit : RowsX (w.heap.size + 2) W ([] : List (Tm n)) (.slice (some ⟨w.heap.size + 1 + 1, 0, none⟩) 0 0) [] := by
    have h := World.ownsRow_lit (base := w.heap.size + 2) (e := 28) (size := 4) ((w.alloc (.cells #[.int .i64 k, .int .i64 m, .string s, .slice a ks.length cap] 28)).alloc (.cells #[.int .i64 0, .int .i64 0, .string ⟨#[]⟩, .slice none 0 0] 28)) #[] 0 (by simp) (by unfold maxLen; omega) (by simp)
    rw [hW]
    refine ⟨?_, CellsAt.nil⟩
    simpa using h
  rw [← hW] at n0 n1
  have HLIT := hide hlit
  clear hlit n2
  go_enter Tryz.func15, Tryz.ntmps15
  go_wp2_with fail
  rw [← hW]
  clear hW
  go_loopw [3, 4] (fun kv iv wr => ∃ (j : Nat) (xs : List Value), j ≤ ks.length ∧ iv = .int .i64 j ∧ RowsX (w.heap.size + 2) wr (ks.take j) kv xs ∧ Below (w.heap.size + 2) W wr) (fun _ iv _ => ks.length - (intOf iv).toNat)
  case atStart => exact ⟨0, [], Nat.zero_le _, rfl, unhide HLIT, Below.refl _ _⟩
  case round =>
    obtain ⟨j, xs, hj, rfl, hX, hb⟩ := hrel
    have q0 := (hb.block w.heap.size (by omega)).trans n0
    have q1 := (hb.block (w.heap.size + 1) (by omega)).trans n1
    have p0 := cell_of_heap q0
    have p3 : wr.cell? ⟨w.heap.size, 3, none⟩ = some (.slice a ks.length cap) := p0 3
    have hwr : Below w.heap.size w wr := hWb.trans (hb.mono (by omega))
    by_cases hlt : j < ks.length
    · obtain ⟨b, off, d0, d1, d2, d3, rfl, hS, e0, e1, e2, e3, hr⟩ : ∃ b off d0 d1 d2 d3, a = some ⟨b, off, none⟩ ∧ Under wr.heap.size b ∧ wr.cell? ⟨b, off + j * 4, none⟩ = some d0 ∧ wr.cell? ⟨b, off + j * 4 + 1, none⟩ = some d1 ∧ wr.cell? ⟨b, off + j * 4 + 2, none⟩ = some d2 ∧ wr.cell? ⟨b, off + j * 4 + 3, none⟩ = some d3 ∧ TAt (Under wr.heap.size) wr n ks[j] d0 d1 d2 d3 := by
        obtain ⟨a', cap', h1, _, _, h4⟩ := hv.up hwr
        cases h1
        exact h4 j hlt
      have hst := List.take_succ_eq_append_getElem hlt
      have hl : (ks.take j).length ≤ 4000 := by rw [List.length_take]; omega
      have HC := hide (ih ks[j] d0 d1 d2 d3 wr hr (hki j hlt))
      have HX := hide hX
      have HB := hide hb
      have HST := hide hst
      clear hX hb hst hr p0 q0 q1 hki
      go_wp2_with fail
      refine (unhide HC).mono ?_
      rintro e w2 ⟨g0, g1, g2, g3, rfl, hT, hb2⟩
      have hbs := (unhide HB).size
      obtain ⟨R, cp, w3, hr, hX3, hb3⟩ := row_push ((unhide HX).up hb2) (by omega) hT (fun x hx => ⟨by have := hx.1; omega, hx.2, fun e => by have := ((unhide HX).1.lt _ e).2; have := hx.1; omega⟩) (wz := w2.alloc _) ⟨rfl, rfl, rfl, rfl⟩ (by have := hb2.size; omega) 26
      have hl1 : (ks.take j).length = j := by rw [List.length_take]; omega
      rw [← unhide HST, hl1] at hX3
      rw [hl1] at hr
      have HR := hide hr
      have HX3 := hide hX3
      have HB3 := hide (((unhide HB).trans (hb2.mono (by omega))).trans hb3)
      clear hr hX3 hb3 hT hb2 e0 e1 e2 e3 p3 hbs hl1
      go_wp2_with (at_builtin; refine Go.Lib.wpList_append_run _ rfl (.tmp 13) (.tmp 20) 26 26 rfl _ _ rfl rfl _ _ (unhide HR) ?_)
      go_roundw
      case rel => exact ⟨j + 1, _, hlt, by go_num, unhide HX3, unhide HB3⟩
      case measure => simp [intOf]; omega
    · have hkk : j = ks.length := by omega
      subst hkk
      rw [List.take_length] at hX
      have hsat := hX.sat (by omega)
      obtain ⟨ra, rc, rfl, _⟩ := id hsat
      have hwrs := hb.size
      obtain ⟨V1, hV1⟩ : ∃ V1, V1 = setL wr w.heap.size 3 [.slice ra ks.length rc] := ⟨_, rfl⟩
      obtain ⟨V2, hV2⟩ : ∃ V2, V2 = setL V1 (w.heap.size + 1) 0 [.int .i64 k, .int .i64 m, .string s, .slice ra ks.length rc] := ⟨_, rfl⟩
      obtain ⟨_, _, x1, x2, x3⟩ := setL_facts (N := 4) (e := 28) [.slice ra ks.length rc] (w := wr) (B := w.heap.size) (o := 3) ⟨_, q0, rfl⟩ (by simp)
      rw [← hV1] at x1 x2 x3
      obtain ⟨_, _, r1, r2, r3⟩ := setL_facts (N := 4) (e := 28) [.int .i64 k, .int .i64 m, .string s, .slice ra ks.length rc] (w := V1) (B := w.heap.size + 1) (o := 0) ⟨_, (x2 (w.heap.size + 1) (by omega)).trans q1, rfl⟩ (by simp)
      rw [← hV2] at r1 r2 r3
      have hT : TAt (Fresh w V2) V2 (n + 1) ((k, m, s, ks) : Tm (n + 1)) (.int .i64 k) (.int .i64 m) (.string s) (.slice ra ks.length rc) := by
        refine ⟨rfl, rfl, rfl, hk, hm, hs, ?_⟩
        have hfr : ∀ b, w.heap.size + 2 ≤ b ∧ b < wr.heap.size → V2.heap[b]? = wr.heap[b]? := fun b hb => (r2 b (by omega)).trans (x2 b (by omega))
        have hss : ∀ b, w.heap.size + 2 ≤ b ∧ b < wr.heap.size → Fresh w V2 b := fun b hb => ⟨by have := hb.1; omega, by have := hb.2; omega⟩
        exact (hsat.keep hfr fun _ _ _ _ _ _ ht => ht.keep hfr).mono hss fun _ _ _ _ _ _ ht => ht.mono hss
      have hB : Below w.heap.size w V2 := (hwr.trans (x1.mono (Nat.le_refl _))).trans (r1.mono (by omega))
      have c0 : wr.cell? ⟨w.heap.size, 0, none⟩ = some (.int .i64 k) := p0 0
      have c1 : wr.cell? ⟨w.heap.size, 1, none⟩ = some (.int .i64 m) := p0 1
      have c2 : wr.cell? ⟨w.heap.size, 2, none⟩ = some (.string s) := p0 2
      have y1 := cell_of_heap q1
      have y0 : wr.cell? ⟨w.heap.size + 1, 0, none⟩ = some (.int .i64 0) := y1 0
      have y10 : wr.cell? ⟨w.heap.size + 1, 1, none⟩ = some (.int .i64 0) := y1 1
      have y2 : wr.cell? ⟨w.heap.size + 1, 2, none⟩ = some (.string ⟨#[]⟩) := y1 2
      have y3 : wr.cell? ⟨w.heap.size + 1, 3, none⟩ = some (.slice none 0 0) := y1 3
      have f0 := frozen_of_heap q0
      have f1 := frozen_of_heap q1
      have HTT := hide hT
      have HB := hide hB
      have HV := hide (hV2.trans (by rw [hV1]))
      clear hT hB x1 x2 x3 r1 r2 r3 hV1 hV2 hsat hX hb q0 q1 p0 y1 hki
      go_wp2_with fail
      have key : ∀ W', W' = V2 → TAt (Fresh w W') W' (n + 1) ((k, m, s, ks) : Tm (n + 1)) (.int .i64 k) (.int .i64 m) (.string s) (.slice ra ks.length rc) ∧ Below w.heap.size w W' := fun W' e => by rw [e]; exact ⟨unhide HTT, unhide HB⟩
      refine bodyPost_ret (v := .agg #[.int .i64 k, .int .i64 m, .string s, .slice ra ks.length rc]) (by simp [results, Tryz.results15, go_sem, y0, y10, y2, y3]) rfl ⟨_, _, _, _, rfl, key _ ?_⟩
      exact ((unhide HV).trans rfl).symm

theorem cpy_any : ∀ n, CpySaid n
  | 0 => fun t => t.elim
  | n + 1 => cpy_of (cpy_any n)

end Go.Proofs.YtffgdchemjmbmaaGreat
/- spec's l04Same: two terms held against each other. -/
namespace Go.Proofs.YtffgdchemjmbmaaGreat
open Go.RowKit Go.Deep

theorem okB_siz {n : Nat} {t : Tm n} (h : okB n t = true) : siz n t ≤ 2000 := by
  unfold okB fitsB at h
  simp only [Bool.and_eq_true, decide_eq_true_eq] at h
  omega

def sameB {n m : Nat} (t : Tm n) (u : Tm m) : Bool := cmpT n m t u == 0

set_option maxRecDepth 40000 in
set_option maxHeartbeats 1000000 in
theorem same_any {n m : Nat} (t : Tm n) (u : Tm m) (c0 c1 c2 c3 d0 d1 d2 d3 : Value) (w : World) (ht : TAt (Under w.heap.size) w n t c0 c1 c2 c3) (hu : TAt (Under w.heap.size) w m u d0 d1 d2 d3) :
    Calls Tryz.prog 13 #[.agg #[c0, c1, c2, c3], .agg #[d0, d1, d2, d3]] w fun e w' => e = .returned (.bool (sameB t u)) ∧ Below w.heap.size w w' := by
  obtain ⟨k0, k1, k2, k3, k4, k5, rfl, rfl, rfl, rfl⟩ := ht.shape
  obtain ⟨l0, l1, l2, l3, l4, l5, rfl, rfl, rfl, rfl⟩ := hu.shape
  have HC := hide (fun w' (hb : Below w.heap.size w w') => cmp_any n m t u _ _ _ _ _ _ _ _ w' (ht.up hb) (hu.up hb))
  obtain ⟨z, hz⟩ : ∃ z, z = cmpT n m t u := ⟨_, rfl⟩
  unfold sameB
  rw [← hz] at HC ⊢
  clear hz ht hu
  go_enter Tryz.func13, Tryz.ntmps13
  go_wp2_with fail
  refine ((unhide HC) _ (below_two _ _ _)).mono ?_
  rintro e w' ⟨rfl, hb2⟩
  go_wp2_with fail
  go_ret
  exact ⟨by first | rfl | simp, (below_two _ _ _).trans (hb2.mono (by simp; omega))⟩


end Go.Proofs.YtffgdchemjmbmaaGreat
