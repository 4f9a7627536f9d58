/- The makers of terms; an atom's name drawn; a cursor made. -/
import Derived.Test.YtjhdljmghhdhgaaDw0
import Derived.Deep.RegionWith
namespace Go.Proofs.Ytjhdljmghhdhgaa
open Go.RowKit Go.Deep

theorem mk_int (n : Int) (w : World) : Calls Try.prog 44 #[.int .i64 n] w fun e w' => e = .returned (.agg #[.int .i64 1, .int .i64 n, .string ⟨#[]⟩, .slice none 0 0]) ∧ Below w.heap.size w w' := by
  go_enter Try.func44, Try.ntmps44
  go_wp2_with fail
  exact bodyPost_ret (v := .agg #[.int .i64 1, .int .i64 n, .string ⟨#[]⟩, .slice none 0 0]) (by simp [results, Try.results44, go_sem]) rfl ⟨rfl, (Below.refl _ _).alloc (Nat.le_refl _) _⟩
theorem mk_atom (s : ByteArray) (w : World) : Calls Try.prog 48 #[.string s] w fun e w' => e = .returned (.agg #[.int .i64 2, .int .i64 0, .string s, .slice none 0 0]) ∧ Below w.heap.size w w' := by
  go_enter Try.func48, Try.ntmps48
  go_wp2_with fail
  exact bodyPost_ret (v := .agg #[.int .i64 2, .int .i64 0, .string s, .slice none 0 0]) (by simp [results, Try.results48, go_sem]) rfl ⟨rfl, (Below.refl _ _).alloc (Nat.le_refl _) _⟩
theorem mk_bin (s : ByteArray) (w : World) : Calls Try.prog 47 #[.string s] w fun e w' => e = .returned (.agg #[.int .i64 9, .int .i64 0, .string s, .slice none 0 0]) ∧ Below w.heap.size w w' := by
  go_enter Try.func47, Try.ntmps47
  go_wp2_with fail
  exact bodyPost_ret (v := .agg #[.int .i64 9, .int .i64 0, .string s, .slice none 0 0]) (by simp [results, Try.results47, go_sem]) rfl ⟨rfl, (Below.refl _ _).alloc (Nat.le_refl _) _⟩
theorem mk_list (a : Option Addr) (l c : Nat) (w : World) : Calls Try.prog 45 #[.slice a l c] w fun e w' => e = .returned (.agg #[.int .i64 8, .int .i64 0, .string ⟨#[]⟩, .slice a l c]) ∧ Below w.heap.size w w' := by
  go_enter Try.func45, Try.ntmps45
  go_wp2_with fail
  exact bodyPost_ret (v := .agg #[.int .i64 8, .int .i64 0, .string ⟨#[]⟩, .slice a l c]) (by simp [results, Try.results45, go_sem]) rfl ⟨rfl, (Below.refl _ _).alloc (Nat.le_refl _) _⟩
theorem mk_tuple (a : Option Addr) (l c : Nat) (w : World) : Calls Try.prog 46 #[.slice a l c] w fun e w' => e = .returned (.agg #[.int .i64 6, .int .i64 0, .string ⟨#[]⟩, .slice a l c]) ∧ Below w.heap.size w w' := by
  go_enter Try.func46, Try.ntmps46
  go_wp2_with fail
  exact bodyPost_ret (v := .agg #[.int .i64 6, .int .i64 0, .string ⟨#[]⟩, .slice a l c]) (by simp [results, Try.results46, go_sem]) rfl ⟨rfl, (Below.refl _ _).alloc (Nat.le_refl _) _⟩

/-- Literals of small texts, of ints. -/
def isStr : Value → Bool | .string s => decide (s.size ≤ 100) | _ => false
def isI64 : Value → Bool | .int .i64 n => decide (-9223372036854775808 ≤ n) && decide (n ≤ 9223372036854775807) | _ => false
theorem lit_block {g : Nat} {w w1 : World} {arr : Array Value} {e : TypeId} (hg : g < w.heap.size) (hk : Kept g (w.alloc (.cells arr e)) w1) (r : Nat) : w1.cell? ⟨w.heap.size, r, none⟩ = arr[r]? := by
  have h := (hk.block w.heap.size (by simp) (by omega)).trans (heap_new w _)
  exact cell_of_heap h r
theorem lit_str {g : Nat} {w w1 : World} {arr : Array Value} {e : TypeId} (hg : g < w.heap.size) (hk : Kept g (w.alloc (.cells arr e)) w1) (h : arr.toList.all isStr = true) {r : Nat} (hr : r < arr.size) :
    ∃ s : ByteArray, w1.cell? ⟨w.heap.size, r, none⟩ = some (.string s) ∧ s.size ≤ 100 := by
  have h1 := List.all_eq_true.1 h arr[r] (by simp)
  rw [lit_block hg hk, Array.getElem?_eq_getElem hr]
  generalize arr[r] = x at h1
  cases x <;> simp [isStr] at h1
  exact ⟨_, rfl, h1⟩
theorem lit_int {g : Nat} {w w1 : World} {arr : Array Value} {e : TypeId} (hg : g < w.heap.size) (hk : Kept g (w.alloc (.cells arr e)) w1) (h : arr.toList.all isI64 = true) {r : Nat} (hr : r < arr.size) :
    ∃ n : Int, w1.cell? ⟨w.heap.size, r, none⟩ = some (.int .i64 n) ∧ In64 n := by
  have h1 := List.all_eq_true.1 h arr[r] (by simp)
  rw [lit_block hg hk, Array.getElem?_eq_getElem hr]
  generalize arr[r] = x at h1
  cases x with
  | int k n => cases k <;> simp [isI64] at h1; exact ⟨_, rfl, h1⟩
  | _ => simp [isI64] at h1

set_option maxRecDepth 40000 in
theorem datom_any (g L N : Nat) (v : Value) (w : World) (hc : Cur g L v N w) (hN : N ≤ 1000000000000) :
    Calls Try.prog 49 #[.pointer (some ⟨g, 0, none⟩)] w fun e w' => (∃ s : ByteArray, e = .returned (.string s) ∧ s.size ≤ 100) ∧ Cur g L v (N + 2) w' ∧ Kept g w w' := by
  have hp := hide (fun o => dpick_any g L N v 10 (w.alloc o) (hc.alloc o) hN (by omega) (by omega))
  have hg := hc.lt
  clear hc
  go_enter Try.func49, Try.ntmps49
  go_wp2_with fail
  refine ((unhide hp) _).mono ?_
  rintro e w1 ⟨⟨r, rfl, hr⟩, hc1, hk1⟩
  have hr' : (r : Int) < 10 := by omega
  obtain ⟨s, hs, hs2⟩ := lit_str (r := r) hg hk1 rfl (by show r < 10; omega)
  have HC := hide hc1
  have HK := hide (((Kept.refl g w).alloc _).trans hk1)
  clear hc1 hk1 hr
  go_wp2_with fail
  go_ret
  exact ⟨⟨s, rfl, hs2⟩, unhide HC, unhide HK⟩

set_option maxRecDepth 40000 in
theorem dcur_any (L : Nat) (v : Value) (w : World) (hc : CodeAt w.heap.size L v w) :
    Calls Try.prog 23 #[v] w fun e w' => e = .returned (.pointer (some ⟨w.heap.size, 0, none⟩)) ∧ Cur w.heap.size L v 0 w' ∧ Kept w.heap.size w w' := by
  have HC := hide hc
  obtain ⟨a, cap, rfl, hLc, hcap, hL, hel⟩ := hc
  clear hel
  go_enter Try.func23, Try.ntmps23
  go_wp2_with fail
  go_ret
  have hk : Kept w.heap.size w (w.alloc (.cells #[.slice a L cap, .int .i64 0, .int .i64 (17 + L)] 70)) := (Kept.refl _ w).alloc _
  exact ⟨rfl, ⟨(unhide HC).low fun b hb => hk.block b hb (by omega), 0, 17 + L, heap_new w _, by omega, by omega, by omega, by omega⟩, hk⟩

end Go.Proofs.Ytjhdljmghhdhgaa
