/- impl's way outward: a value of each kind. -/
import Derived.Test.YthfjgffhncogaaaGreatQ34
import Derived.Test.YthfjgffhncogaaaGreatQ42
namespace Go.Proofs.YthfjgffhncogaaaGreat
open Go.RowKit Go.Deep
set_option linter.unusedVariables false

theorem oa_int_int (x : Value) (w : World) : (Instr.typeAssert (.iface 101 x) 56 101 true).run Tryz.prog w = .ok (.tuple #[x, .bool true]) w := by kernel_rfl
theorem oa_atom_int (x : Value) (w : World) : (Instr.typeAssert (.iface 100 x) 56 101 true).run Tryz.prog w = .ok (.tuple #[.int .i64 0, .bool false]) w := by kernel_rfl
theorem oa_atom_atom (x : Value) (w : World) : (Instr.typeAssert (.iface 100 x) 56 100 true).run Tryz.prog w = .ok (.tuple #[x, .bool true]) w := by kernel_rfl
theorem oa_ref_int (x : Value) (w : World) : (Instr.typeAssert (.iface 102 x) 56 101 true).run Tryz.prog w = .ok (.tuple #[.int .i64 0, .bool false]) w := by kernel_rfl
theorem oa_ref_atom (x : Value) (w : World) : (Instr.typeAssert (.iface 102 x) 56 100 true).run Tryz.prog w = .ok (.tuple #[.string ⟨#[]⟩, .bool false]) w := by kernel_rfl
theorem oa_ref_ref (x : Value) (w : World) : (Instr.typeAssert (.iface 102 x) 56 102 true).run Tryz.prog w = .ok (.tuple #[x, .bool true]) w := by kernel_rfl
theorem oa_fun_int (x : Value) (w : World) : (Instr.typeAssert (.iface 108 x) 56 101 true).run Tryz.prog w = .ok (.tuple #[.int .i64 0, .bool false]) w := by kernel_rfl
theorem oa_fun_atom (x : Value) (w : World) : (Instr.typeAssert (.iface 108 x) 56 100 true).run Tryz.prog w = .ok (.tuple #[.string ⟨#[]⟩, .bool false]) w := by kernel_rfl
theorem oa_fun_ref (x : Value) (w : World) : (Instr.typeAssert (.iface 108 x) 56 102 true).run Tryz.prog w = .ok (.tuple #[.int .i64 0, .bool false]) w := by kernel_rfl
theorem oa_fun_fun (x : Value) (w : World) : (Instr.typeAssert (.iface 108 x) 56 108 true).run Tryz.prog w = .ok (.tuple #[x, .bool true]) w := by kernel_rfl
theorem oa_pid_int (x : Value) (w : World) : (Instr.typeAssert (.iface 103 x) 56 101 true).run Tryz.prog w = .ok (.tuple #[.int .i64 0, .bool false]) w := by kernel_rfl
theorem oa_pid_atom (x : Value) (w : World) : (Instr.typeAssert (.iface 103 x) 56 100 true).run Tryz.prog w = .ok (.tuple #[.string ⟨#[]⟩, .bool false]) w := by kernel_rfl
theorem oa_pid_ref (x : Value) (w : World) : (Instr.typeAssert (.iface 103 x) 56 102 true).run Tryz.prog w = .ok (.tuple #[.int .i64 0, .bool false]) w := by kernel_rfl
theorem oa_pid_fun (x : Value) (w : World) : (Instr.typeAssert (.iface 103 x) 56 108 true).run Tryz.prog w = .ok (.tuple #[.agg #[.int .i64 0, .slice none 0 0], .bool false]) w := by kernel_rfl
theorem oa_pid_pid (x : Value) (w : World) : (Instr.typeAssert (.iface 103 x) 56 103 true).run Tryz.prog w = .ok (.tuple #[x, .bool true]) w := by kernel_rfl
theorem oa_tuple_int (x : Value) (w : World) : (Instr.typeAssert (.iface 111 x) 56 101 true).run Tryz.prog w = .ok (.tuple #[.int .i64 0, .bool false]) w := by kernel_rfl
theorem oa_tuple_atom (x : Value) (w : World) : (Instr.typeAssert (.iface 111 x) 56 100 true).run Tryz.prog w = .ok (.tuple #[.string ⟨#[]⟩, .bool false]) w := by kernel_rfl
theorem oa_tuple_ref (x : Value) (w : World) : (Instr.typeAssert (.iface 111 x) 56 102 true).run Tryz.prog w = .ok (.tuple #[.int .i64 0, .bool false]) w := by kernel_rfl
theorem oa_tuple_fun (x : Value) (w : World) : (Instr.typeAssert (.iface 111 x) 56 108 true).run Tryz.prog w = .ok (.tuple #[.agg #[.int .i64 0, .slice none 0 0], .bool false]) w := by kernel_rfl
theorem oa_tuple_pid (x : Value) (w : World) : (Instr.typeAssert (.iface 111 x) 56 103 true).run Tryz.prog w = .ok (.tuple #[.int .i64 0, .bool false]) w := by kernel_rfl
theorem oa_tuple_tuple (x : Value) (w : World) : (Instr.typeAssert (.iface 111 x) 56 111 true).run Tryz.prog w = .ok (.tuple #[x, .bool true]) w := by kernel_rfl
theorem oa_map_int (x : Value) (w : World) : (Instr.typeAssert (.iface 113 x) 56 101 true).run Tryz.prog w = .ok (.tuple #[.int .i64 0, .bool false]) w := by kernel_rfl
theorem oa_map_atom (x : Value) (w : World) : (Instr.typeAssert (.iface 113 x) 56 100 true).run Tryz.prog w = .ok (.tuple #[.string ⟨#[]⟩, .bool false]) w := by kernel_rfl
theorem oa_map_ref (x : Value) (w : World) : (Instr.typeAssert (.iface 113 x) 56 102 true).run Tryz.prog w = .ok (.tuple #[.int .i64 0, .bool false]) w := by kernel_rfl
theorem oa_map_fun (x : Value) (w : World) : (Instr.typeAssert (.iface 113 x) 56 108 true).run Tryz.prog w = .ok (.tuple #[.agg #[.int .i64 0, .slice none 0 0], .bool false]) w := by kernel_rfl
theorem oa_map_pid (x : Value) (w : World) : (Instr.typeAssert (.iface 113 x) 56 103 true).run Tryz.prog w = .ok (.tuple #[.int .i64 0, .bool false]) w := by kernel_rfl
theorem oa_map_tuple (x : Value) (w : World) : (Instr.typeAssert (.iface 113 x) 56 111 true).run Tryz.prog w = .ok (.tuple #[.slice none 0 0, .bool false]) w := by kernel_rfl
theorem oa_map_map (x : Value) (w : World) : (Instr.typeAssert (.iface 113 x) 56 113 true).run Tryz.prog w = .ok (.tuple #[x, .bool true]) w := by kernel_rfl
theorem oa_list_int (x : Value) (w : World) : (Instr.typeAssert (.iface 115 x) 56 101 true).run Tryz.prog w = .ok (.tuple #[.int .i64 0, .bool false]) w := by kernel_rfl
theorem oa_list_atom (x : Value) (w : World) : (Instr.typeAssert (.iface 115 x) 56 100 true).run Tryz.prog w = .ok (.tuple #[.string ⟨#[]⟩, .bool false]) w := by kernel_rfl
theorem oa_list_ref (x : Value) (w : World) : (Instr.typeAssert (.iface 115 x) 56 102 true).run Tryz.prog w = .ok (.tuple #[.int .i64 0, .bool false]) w := by kernel_rfl
theorem oa_list_fun (x : Value) (w : World) : (Instr.typeAssert (.iface 115 x) 56 108 true).run Tryz.prog w = .ok (.tuple #[.agg #[.int .i64 0, .slice none 0 0], .bool false]) w := by kernel_rfl
theorem oa_list_pid (x : Value) (w : World) : (Instr.typeAssert (.iface 115 x) 56 103 true).run Tryz.prog w = .ok (.tuple #[.int .i64 0, .bool false]) w := by kernel_rfl
theorem oa_list_tuple (x : Value) (w : World) : (Instr.typeAssert (.iface 115 x) 56 111 true).run Tryz.prog w = .ok (.tuple #[.slice none 0 0, .bool false]) w := by kernel_rfl
theorem oa_list_map (x : Value) (w : World) : (Instr.typeAssert (.iface 115 x) 56 113 true).run Tryz.prog w = .ok (.tuple #[.slice none 0 0, .bool false]) w := by kernel_rfl
theorem oa_list_list (x : Value) (w : World) : (Instr.typeAssert (.iface 115 x) 56 115 true).run Tryz.prog w = .ok (.tuple #[x, .bool true]) w := by kernel_rfl
theorem oa_bin_int (x : Value) (w : World) : (Instr.typeAssert (.iface 116 x) 56 101 true).run Tryz.prog w = .ok (.tuple #[.int .i64 0, .bool false]) w := by kernel_rfl
theorem oa_bin_atom (x : Value) (w : World) : (Instr.typeAssert (.iface 116 x) 56 100 true).run Tryz.prog w = .ok (.tuple #[.string ⟨#[]⟩, .bool false]) w := by kernel_rfl
theorem oa_bin_ref (x : Value) (w : World) : (Instr.typeAssert (.iface 116 x) 56 102 true).run Tryz.prog w = .ok (.tuple #[.int .i64 0, .bool false]) w := by kernel_rfl
theorem oa_bin_fun (x : Value) (w : World) : (Instr.typeAssert (.iface 116 x) 56 108 true).run Tryz.prog w = .ok (.tuple #[.agg #[.int .i64 0, .slice none 0 0], .bool false]) w := by kernel_rfl
theorem oa_bin_pid (x : Value) (w : World) : (Instr.typeAssert (.iface 116 x) 56 103 true).run Tryz.prog w = .ok (.tuple #[.int .i64 0, .bool false]) w := by kernel_rfl
theorem oa_bin_tuple (x : Value) (w : World) : (Instr.typeAssert (.iface 116 x) 56 111 true).run Tryz.prog w = .ok (.tuple #[.slice none 0 0, .bool false]) w := by kernel_rfl
theorem oa_bin_map (x : Value) (w : World) : (Instr.typeAssert (.iface 116 x) 56 113 true).run Tryz.prog w = .ok (.tuple #[.slice none 0 0, .bool false]) w := by kernel_rfl
theorem oa_bin_list (x : Value) (w : World) : (Instr.typeAssert (.iface 116 x) 56 115 true).run Tryz.prog w = .ok (.tuple #[.slice none 0 0, .bool false]) w := by kernel_rfl
theorem oa_bin_bin (x : Value) (w : World) : (Instr.typeAssert (.iface 116 x) 56 116 true).run Tryz.prog w = .ok (.tuple #[x, .bool true]) w := by kernel_rfl

theorem out_end {n : Nat} {t : Tm (n + 1)} {w wr : World} (hb : Below w.heap.size w wr) (hl : w.heap.size < wr.heap.size) {k m : Int} {s : ByteArray} {a : Option Addr} {l cap : Nat}
    (hT : TAt (fun b => w.heap.size < b ∧ b < wr.heap.size) wr (n + 1) t (.int .i64 k) (.int .i64 m) (.string s) (.slice a l cap)) (hO : OwnS wr n (w.heap.size + 1) wr.heap.size (kidsOf t) (.slice a l cap)) :
    OutEnd n t w (.returned (.agg #[.int .i64 k, .int .i64 m, .string s, .slice a l cap])) (fourIn wr w.heap.size (.int .i64 k) (.int .i64 m) (.string s) (.slice a l cap)) := by
  have hk := fourIn_kept wr w.heap.size (.int .i64 k) (.int .i64 m) (.string s) (.slice a l cap)
  refine ⟨hb.four (Nat.le_refl _) _ _ _ _, _, _, _, _, rfl, ?_, ?_⟩
  · exact (hT.keep fun b hb => hk.block b hb.2 (by have := hb.1; omega)).mono fun b hb => ⟨by have := hb.1; omega, Nat.lt_of_lt_of_le hb.2 hk.size⟩
  · exact (hO.keep fun b h1 h2 => hk.block b h2 (by omega)).wide (by omega) hk.size

def startW (w : World) : World := w.alloc (.cells #[.int .i64 0, .int .i64 0, .string ⟨#[]⟩, .slice none 0 0] 26)
theorem startW_four (w : World) : Four w.heap.size (startW w) := ⟨_, _, _, _, heap_new w _⟩
theorem startW_below (w : World) : Below w.heap.size w (startW w) := (Below.refl _ _).alloc (Nat.le_refl _) _
theorem startW_size (w : World) : (startW w).heap.size = w.heap.size + 1 := by simp [startW]

theorem ownS_nil {w : World} {n lo hi : Nat} {a : Option Addr} (cap : Nat) : OwnS w n lo hi ([] : List (Tm n)) (.slice a 0 cap) := by
  cases n with
  | zero => exact ⟨a, cap, rfl⟩
  | succ n => exact ⟨a, cap, rfl, .inl rfl⟩

set_option maxRecDepth 40000 in
set_option maxHeartbeats 1000000 in
theorem out_int (n : Nat) (m : Int) (hm : In64 m) (w : World) : Calls Tryz.prog 37 #[.iface 101 (.int .i64 m)] w fun e w' => OutEnd n (leafT n 1 m noText) w e w' := by
  have f0 := oa_int_int
  obtain ⟨w0, hw0⟩ : ∃ w0, w0 = startW w := ⟨_, rfl⟩
  have hr0 := startW_four w
  have hb0 := startW_below w
  have hs0 := startW_size w
  rw [← hw0] at hr0 hb0 hs0
  have HW0 := hide hw0
  have HB0 := hide hb0
  obtain ⟨y0, y1, y2, y3, z0, z1, z2, z3, g0, g1, g2, g3⟩ := hr0.cells
  clear hw0 hb0
  go_enter Tryz.func37, Tryz.ntmps37
  go_upto_region 1 with fail
  rw [← show startW w = w.alloc (.cells #[.int .i64 0, .int .i64 0, .string ⟨#[]⟩, .slice none 0 0] 26) from rfl, ← unhide HW0]
  go_wp2_with fail
  exact bodyPost_ret (v := .agg #[.int .i64 1, .int .i64 m, .string ⟨#[]⟩, .slice none 0 0]) (by simp [results, Tryz.results37, go_sem, z0, z1, z2, z3]) rfl (out_end (unhide HB0) (by omega) ⟨rfl, rfl, rfl, ⟨by omega, by omega⟩, hm, by decide, sat_none⟩ (ownS_nil _))

set_option maxRecDepth 40000 in
set_option maxHeartbeats 1000000 in
theorem out_atom (n : Nat) (s : ByteArray) (hs : s.size ≤ 2 ^ 47) (w : World) : Calls Tryz.prog 37 #[.iface 100 (.string s)] w fun e w' => OutEnd n (leafT n 2 0 s) w e w' := by
  have f0 := oa_atom_int
  have f1 := oa_atom_atom
  obtain ⟨w0, hw0⟩ : ∃ w0, w0 = startW w := ⟨_, rfl⟩
  have hr0 := startW_four w
  have hb0 := startW_below w
  have hs0 := startW_size w
  rw [← hw0] at hr0 hb0 hs0
  have HW0 := hide hw0
  have HB0 := hide hb0
  obtain ⟨y0, y1, y2, y3, z0, z1, z2, z3, g0, g1, g2, g3⟩ := hr0.cells
  clear hw0 hb0
  go_enter Tryz.func37, Tryz.ntmps37
  go_upto_region 1 with fail
  rw [← show startW w = w.alloc (.cells #[.int .i64 0, .int .i64 0, .string ⟨#[]⟩, .slice none 0 0] 26) from rfl, ← unhide HW0]
  go_wp2_with fail
  exact bodyPost_ret (v := .agg #[.int .i64 2, .int .i64 0, .string s, .slice none 0 0]) (by simp [results, Tryz.results37, go_sem, z0, z1, z2, z3]) rfl (out_end (unhide HB0) (by omega) ⟨rfl, rfl, rfl, ⟨by omega, by omega⟩, ⟨by omega, by omega⟩, hs, sat_none⟩ (ownS_nil _))

set_option maxRecDepth 40000 in
set_option maxHeartbeats 1000000 in
theorem out_ref (n : Nat) (m : Int) (hm : In64 m) (w : World) : Calls Tryz.prog 37 #[.iface 102 (.int .i64 m)] w fun e w' => OutEnd n (leafT n 3 m noText) w e w' := by
  have f0 := oa_ref_int
  have f1 := oa_ref_atom
  have f2 := oa_ref_ref
  obtain ⟨w0, hw0⟩ : ∃ w0, w0 = startW w := ⟨_, rfl⟩
  have hr0 := startW_four w
  have hb0 := startW_below w
  have hs0 := startW_size w
  rw [← hw0] at hr0 hb0 hs0
  have HW0 := hide hw0
  have HB0 := hide hb0
  obtain ⟨y0, y1, y2, y3, z0, z1, z2, z3, g0, g1, g2, g3⟩ := hr0.cells
  clear hw0 hb0
  go_enter Tryz.func37, Tryz.ntmps37
  go_upto_region 1 with fail
  rw [← show startW w = w.alloc (.cells #[.int .i64 0, .int .i64 0, .string ⟨#[]⟩, .slice none 0 0] 26) from rfl, ← unhide HW0]
  go_wp2_with fail
  exact bodyPost_ret (v := .agg #[.int .i64 3, .int .i64 m, .string ⟨#[]⟩, .slice none 0 0]) (by simp [results, Tryz.results37, go_sem, z0, z1, z2, z3]) rfl (out_end (unhide HB0) (by omega) ⟨rfl, rfl, rfl, ⟨by omega, by omega⟩, hm, by decide, sat_none⟩ (ownS_nil _))

set_option maxRecDepth 40000 in
set_option maxHeartbeats 1000000 in
theorem out_pid (n : Nat) (m : Int) (hm : In64 m) (w : World) : Calls Tryz.prog 37 #[.iface 103 (.int .i64 m)] w fun e w' => OutEnd n (leafT n 5 m noText) w e w' := by
  have f0 := oa_pid_int
  have f1 := oa_pid_atom
  have f2 := oa_pid_ref
  have f3 := oa_pid_fun
  have f4 := oa_pid_pid
  obtain ⟨w0, hw0⟩ : ∃ w0, w0 = startW w := ⟨_, rfl⟩
  have hr0 := startW_four w
  have hb0 := startW_below w
  have hs0 := startW_size w
  rw [← hw0] at hr0 hb0 hs0
  have HW0 := hide hw0
  have HB0 := hide hb0
  obtain ⟨y0, y1, y2, y3, z0, z1, z2, z3, g0, g1, g2, g3⟩ := hr0.cells
  clear hw0 hb0
  go_enter Tryz.func37, Tryz.ntmps37
  go_upto_region 1 with fail
  rw [← show startW w = w.alloc (.cells #[.int .i64 0, .int .i64 0, .string ⟨#[]⟩, .slice none 0 0] 26) from rfl, ← unhide HW0]
  go_wp2_with fail
  exact bodyPost_ret (v := .agg #[.int .i64 5, .int .i64 m, .string ⟨#[]⟩, .slice none 0 0]) (by simp [results, Tryz.results37, go_sem, z0, z1, z2, z3]) rfl (out_end (unhide HB0) (by omega) ⟨rfl, rfl, rfl, ⟨by omega, by omega⟩, hm, by decide, sat_none⟩ (ownS_nil _))

set_option maxRecDepth 40000 in
set_option maxHeartbeats 1000000 in
theorem out_bin (n : Nat) (s : ByteArray) (hs : s.size ≤ 2 ^ 47) (w : World) : Calls Tryz.prog 37 #[.iface 116 (.string s)] w fun e w' => OutEnd n (leafT n 9 0 s) w e w' := by
  have f0 := oa_bin_int
  have f1 := oa_bin_atom
  have f2 := oa_bin_ref
  have f3 := oa_bin_fun
  have f4 := oa_bin_pid
  have f5 := oa_bin_tuple
  have f6 := oa_bin_map
  have f7 := oa_bin_list
  have f8 := oa_bin_bin
  obtain ⟨w0, hw0⟩ : ∃ w0, w0 = startW w := ⟨_, rfl⟩
  have hr0 := startW_four w
  have hb0 := startW_below w
  have hs0 := startW_size w
  rw [← hw0] at hr0 hb0 hs0
  have HW0 := hide hw0
  have HB0 := hide hb0
  obtain ⟨y0, y1, y2, y3, z0, z1, z2, z3, g0, g1, g2, g3⟩ := hr0.cells
  clear hw0 hb0
  go_enter Tryz.func37, Tryz.ntmps37
  go_upto_region 1 with fail
  rw [← show startW w = w.alloc (.cells #[.int .i64 0, .int .i64 0, .string ⟨#[]⟩, .slice none 0 0] 26) from rfl, ← unhide HW0]
  go_wp2_with fail
  exact bodyPost_ret (v := .agg #[.int .i64 9, .int .i64 0, .string s, .slice none 0 0]) (by simp [results, Tryz.results37, go_sem, z0, z1, z2, z3]) rfl (out_end (unhide HB0) (by omega) ⟨rfl, rfl, rfl, ⟨by omega, by omega⟩, ⟨by omega, by omega⟩, hs, sat_none⟩ (ownS_nil _))

/-- The way outward of a row. -/
def OrSaid (n : Nat) : Prop := ∀ (ks : List (Tm n)) (a : Option Addr) (cap : Nat) (w : World), KAt (Under w.heap.size) w (XAt (Under w.heap.size) w n) ks a → ks.length ≤ 100000 → Calls Tryz.prog 69 #[.slice a ks.length cap] w fun e w' => OrEnd n ks w e w'
theorem or_any {n : Nat} (h : ∀ m, n = m + 1 → OutSaid m) : OrSaid n := by
  cases n with
  | zero =>
    intro ks a cap w _ _
    have hn : ks = [] := by
      cases ks with
      | nil => rfl
      | cons t _ => exact t.elim
    subst hn
    exact orow_nil a cap w
  | succ m => exact fun ks a cap w hka hl => orow_of (h m rfl) ks a cap w hka hl
theorem kat_up {n : Nat} {w w0 : World} (hb : Below w.heap.size w w0) {ks : List (Tm n)} {a : Option Addr} (h : KAt (Under w.heap.size) w (XAt (Under w.heap.size) w n) ks a) : KAt (Under w0.heap.size) w0 (XAt (Under w0.heap.size) w0 n) ks a :=
  (h.keep (fun b hb' => hb.block b hb') fun t _ v hv => hv.keep fun b hb' => hb.block b hb').mono (fun b hb' => Nat.lt_of_lt_of_le hb' hb.size) fun t _ v hv => hv.mono fun b hb' => Nat.lt_of_lt_of_le hb' hb.size

set_option maxRecDepth 40000 in
set_option maxHeartbeats 1000000 in
theorem out_tuple {n : Nat} (h : OrSaid n) (ks : List (Tm n)) (a : Option Addr) (cap : Nat) (w : World) (hka : KAt (Under w.heap.size) w (XAt (Under w.heap.size) w n) ks a) (hl : ks.length ≤ 100000) :
    Calls Tryz.prog 37 #[.iface 111 (.slice a ks.length cap)] w fun e w' => OutEnd n (6, 0, noText, ks) w e w' := by
  have f0 := oa_tuple_int
  have f1 := oa_tuple_atom
  have f2 := oa_tuple_ref
  have f3 := oa_tuple_fun
  have f4 := oa_tuple_pid
  have f5 := oa_tuple_tuple
  obtain ⟨w0, hw0⟩ : ∃ w0, w0 = startW w := ⟨_, rfl⟩
  have hr0 := startW_four w
  have hb0 := startW_below w
  have hs0 := startW_size w
  rw [← hw0] at hr0 hb0 hs0
  have HW0 := hide hw0
  have HB0 := hide hb0
  have hcall := hide (h ks a cap w0 (kat_up hb0 hka) hl)
  have HR0 := hide hr0
  clear hw0 hb0 hka hr0
  go_enter Tryz.func37, Tryz.ntmps37
  go_upto_region 1 with fail
  rw [← show startW w = w.alloc (.cells #[.int .i64 0, .int .i64 0, .string ⟨#[]⟩, .slice none 0 0] 26) from rfl, ← unhide HW0]
  go_wp2_with fail
  refine (unhide hcall).mono ?_
  rintro e w1 ⟨hb1, v, rfl, hS, hO⟩
  obtain ⟨a1, cap1, rfl, _⟩ := id hS
  have hr1 := (unhide HR0).keep (hb1.block _ (by omega))
  have HB1 := hide ((unhide HB0).trans (hb1.mono (by omega)))
  have hsz := hb1.size
  have HS := hide (hS.mono (S' := fun b => w.heap.size < b ∧ b < w1.heap.size) (R' := TAt (fun b => w.heap.size < b ∧ b < w1.heap.size) w1 n) (fun b hb => ⟨by have := hb.1; omega, hb.2⟩) fun t _ _ _ _ _ ht => ht.mono fun b hb => ⟨by have := hb.1; omega, hb.2⟩)
  have HO := hide (hO.wide (lo' := w.heap.size + 1) (hi' := w1.heap.size) (by omega) (Nat.le_refl _))
  obtain ⟨y0, y1, y2, y3, z0, z1, z2, z3, g0, g1, g2, g3⟩ := hr1.cells
  clear hr1 hb1 hS hO hcall
  go_wp2_with fail
  exact bodyPost_ret (v := .agg #[.int .i64 6, .int .i64 0, .string ⟨#[]⟩, .slice a1 ks.length cap1]) (by simp [results, Tryz.results37, go_sem, z0, z1, z2, z3]) rfl (out_end (unhide HB1) (by omega) ⟨rfl, rfl, rfl, ⟨by omega, by omega⟩, ⟨by omega, by omega⟩, by decide, unhide HS⟩ (unhide HO))

set_option maxRecDepth 40000 in
set_option maxHeartbeats 1000000 in
theorem out_list {n : Nat} (h : OrSaid n) (ks : List (Tm n)) (a : Option Addr) (cap : Nat) (w : World) (hka : KAt (Under w.heap.size) w (XAt (Under w.heap.size) w n) ks a) (hl : ks.length ≤ 100000) :
    Calls Tryz.prog 37 #[.iface 115 (.slice a ks.length cap)] w fun e w' => OutEnd n (8, 0, noText, ks) w e w' := by
  have f0 := oa_list_int
  have f1 := oa_list_atom
  have f2 := oa_list_ref
  have f3 := oa_list_fun
  have f4 := oa_list_pid
  have f5 := oa_list_tuple
  have f6 := oa_list_map
  have f7 := oa_list_list
  obtain ⟨w0, hw0⟩ : ∃ w0, w0 = startW w := ⟨_, rfl⟩
  have hr0 := startW_four w
  have hb0 := startW_below w
  have hs0 := startW_size w
  rw [← hw0] at hr0 hb0 hs0
  have HW0 := hide hw0
  have HB0 := hide hb0
  have hcall := hide (h ks a cap w0 (kat_up hb0 hka) hl)
  have HR0 := hide hr0
  clear hw0 hb0 hka hr0
  go_enter Tryz.func37, Tryz.ntmps37
  go_upto_region 1 with fail
  rw [← show startW w = w.alloc (.cells #[.int .i64 0, .int .i64 0, .string ⟨#[]⟩, .slice none 0 0] 26) from rfl, ← unhide HW0]
  go_wp2_with fail
  refine (unhide hcall).mono ?_
  rintro e w1 ⟨hb1, v, rfl, hS, hO⟩
  obtain ⟨a1, cap1, rfl, _⟩ := id hS
  have hr1 := (unhide HR0).keep (hb1.block _ (by omega))
  have HB1 := hide ((unhide HB0).trans (hb1.mono (by omega)))
  have hsz := hb1.size
  have HS := hide (hS.mono (S' := fun b => w.heap.size < b ∧ b < w1.heap.size) (R' := TAt (fun b => w.heap.size < b ∧ b < w1.heap.size) w1 n) (fun b hb => ⟨by have := hb.1; omega, hb.2⟩) fun t _ _ _ _ _ ht => ht.mono fun b hb => ⟨by have := hb.1; omega, hb.2⟩)
  have HO := hide (hO.wide (lo' := w.heap.size + 1) (hi' := w1.heap.size) (by omega) (Nat.le_refl _))
  obtain ⟨y0, y1, y2, y3, z0, z1, z2, z3, g0, g1, g2, g3⟩ := hr1.cells
  clear hr1 hb1 hS hO hcall
  go_wp2_with fail
  exact bodyPost_ret (v := .agg #[.int .i64 8, .int .i64 0, .string ⟨#[]⟩, .slice a1 ks.length cap1]) (by simp [results, Tryz.results37, go_sem, z0, z1, z2, z3]) rfl (out_end (unhide HB1) (by omega) ⟨rfl, rfl, rfl, ⟨by omega, by omega⟩, ⟨by omega, by omega⟩, by decide, unhide HS⟩ (unhide HO))

end Go.Proofs.YthfjgffhncogaaaGreat
