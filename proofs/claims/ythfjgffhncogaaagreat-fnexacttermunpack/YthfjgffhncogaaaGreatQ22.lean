/- The draws' cursor: what it is, what becomes of it, its bytes, its picks, its sizes. -/
import Derived.Test.YthfjgffhncogaaaGreatQ2
import Derived.Deep.OwnRows
import Derived.Deep.RegionWith
namespace Go.Proofs.YthfjgffhncogaaaGreat
open Go.RowKit Go.Deep

/-- All blocks that were there are as they were, but block g. -/
structure Kept (g : Nat) (w w' : World) : Prop where
  os : w'.os = w.os
  tape : w'.tape = w.tape
  output : w'.output = w.output
  size : w.heap.size ≤ w'.heap.size
  block : ∀ k, k < w.heap.size → k ≠ g → w'.heap[k]? = w.heap[k]?

theorem Kept.refl (g : Nat) (w : World) : Kept g w w := ⟨rfl, rfl, rfl, Nat.le_refl _, fun _ _ _ => rfl⟩
theorem Kept.trans {g : Nat} {a b c : World} (h : Kept g a b) (k : Kept g b c) : Kept g a c :=
  ⟨k.os.trans h.os, k.tape.trans h.tape, k.output.trans h.output, Nat.le_trans h.size k.size, fun i hi hg => (k.block i (Nat.lt_of_lt_of_le hi h.size) hg).trans (h.block i hi hg)⟩
theorem Kept.below {g : Nat} {w w' : World} (h : Below w.heap.size w w') : Kept g w w' := ⟨h.os, h.tape, h.output, h.size, fun k hk _ => h.block k hk⟩
theorem Kept.alloc {g : Nat} {a w : World} (h : Kept g a w) (o : Obj) : Kept g a (w.alloc o) := h.trans (Kept.below ((Below.refl _ _).alloc (Nat.le_refl _) _))
theorem Kept.drew {g : Nat} {a w : World} (h : Kept g a w) : Kept g a w.drew := ⟨h.os, h.tape, h.output, h.size, h.block⟩
theorem Kept.set {g : Nat} {a w : World} (h : Kept g a w) (o : Nat) (v : Value) : Kept g a (w.setCell ⟨g, o, none⟩ v) :=
  h.trans ⟨rfl, rfl, rfl, by simp, fun k _ hg => Below.heap_setCell _ _ _ _ hg⟩
/-- A store into a block that wasn't there. -/
theorem Kept.fresh {g : Nat} {a w : World} (h : Kept g a w) {b : Nat} (hb : a.heap.size ≤ b) (o : Nat) (v : Value) : Kept g a (w.setCell ⟨b, o, none⟩ v) :=
  ⟨h.os, h.tape, h.output, by simpa using h.size, fun k hk hg => (Below.heap_setCell _ _ _ _ (by show k ≠ b; omega)).trans (h.block k hk hg)⟩
theorem Kept.grown {g : Nat} {a w w' : World} {r : Option Nat} (h : Kept g a w) (hg : w.grownBy w' r) (hR : ∀ R, r = some R → a.heap.size ≤ R) : Kept g a w' :=
  ⟨hg.os.trans h.os, hg.tape.trans h.tape, hg.output.trans h.output, Nat.le_trans h.size hg.size, fun k hk hn => (hg.block k (Nat.lt_of_lt_of_le hk h.size) (by intro e; have := hR k e.symm; omega)).trans (h.block k hk hn)⟩
/-- Where block g is new, all that was there is as it was. -/
theorem Kept.toBelow {g : Nat} {w w' : World} (h : Kept g w w') {B : Nat} (hB : B ≤ g) (hs : B ≤ w.heap.size) : Below B w w' := ⟨h.os, h.tape, h.output, h.size, fun k hk => h.block k (by omega) (by omega)⟩
theorem Kept.cell {g : Nat} {w w' : World} (h : Kept g w w') {b o : Nat} (hb : b < w.heap.size) (hg : b ≠ g) : w'.cell? ⟨b, o, none⟩ = w.cell? ⟨b, o, none⟩ := World.cell?_of_block (w := w) (h.block b hb hg)

/-- A code's bytes, L of them, in blocks below g. -/
def CodeAt (g L : Nat) (v : Value) (w : World) : Prop :=
  ∃ a cap, v = .slice a L cap ∧ L ≤ cap ∧ cap ≤ 2 ^ 47 ∧ L ≤ 1048576 ∧ ∀ i, i < L → ∃ b off x, a = some ⟨b, off, none⟩ ∧ b < g ∧ w.cell? ⟨b, off + i, none⟩ = some (.int .u8 x) ∧ 0 ≤ x ∧ x < 256
theorem CodeAt.low {g L : Nat} {v : Value} {w w' : World} (h : CodeAt g L v w) (hk : ∀ b, b < g → w'.heap[b]? = w.heap[b]?) : CodeAt g L v w' := by
  obtain ⟨a, cap, h1, h2, h3, h4, h5⟩ := h
  refine ⟨a, cap, h1, h2, h3, h4, fun i hi => ?_⟩
  obtain ⟨b, off, x, g1, g2, g4, g5⟩ := h5 i hi
  exact ⟨b, off, x, g1, g2, (World.cell?_of_block (w := w) (hk b g2)).trans g4, g5⟩

/-- Block g is a cursor, N bytes gone at most. -/
def Cur (g L : Nat) (v : Value) (N : Nat) (w : World) : Prop :=
  CodeAt g L v w ∧ ∃ at' sd : Int, w.heap[g]? = some (.cells #[v, .int .i64 at', .int .i64 sd] 91 (0, 0)) ∧ 0 ≤ at' ∧ at' ≤ N ∧ 0 ≤ sd ∧ sd < 2147483648
theorem Cur.lt {g L N : Nat} {v : Value} {w : World} (h : Cur g L v N w) : g < w.heap.size := by
  obtain ⟨_, _, _, h, _⟩ := h
  rcases Nat.lt_or_ge g w.heap.size with h1 | h1
  · exact h1
  · rw [Array.getElem?_eq_none h1] at h; cases h
theorem Cur.mono {g L N M : Nat} {v : Value} {w : World} (h : Cur g L v N w) (hN : N ≤ M) : Cur g L v M w := by
  obtain ⟨h1, a, s, h2, h3, h4, h5⟩ := h
  exact ⟨h1, a, s, h2, h3, by omega, h5⟩
theorem Cur.low {g L N : Nat} {v : Value} {w w' : World} (h : Cur g L v N w) (hb : ∀ b, b ≤ g → w'.heap[b]? = w.heap[b]?) : Cur g L v N w' := by
  obtain ⟨h1, a, s, h2, h3⟩ := h
  exact ⟨h1.low fun b hb' => hb b (by omega), a, s, (hb g (Nat.le_refl _)).trans h2, h3⟩
theorem Cur.below {g L N : Nat} {v : Value} {w w' : World} (h : Cur g L v N w) (hb : Below w.heap.size w w') : Cur g L v N w' := h.low fun b hb' => hb.block b (by have := h.lt; omega)
theorem Cur.alloc {g L N : Nat} {v : Value} {w : World} (h : Cur g L v N w) (o : Obj) : Cur g L v N (w.alloc o) := h.below ((Below.refl _ _).alloc (Nat.le_refl _) _)

theorem cur_cells {g : Nat} {v : Value} {at' sd : Int} {w : World} (h : w.heap[g]? = some (.cells #[v, .int .i64 at', .int .i64 sd] 91 (0, 0))) :
    w.cell? ⟨g, 0, none⟩ = some v ∧ w.cell? ⟨g, 1, none⟩ = some (.int .i64 at') ∧ w.cell? ⟨g, 2, none⟩ = some (.int .i64 sd) ∧ w.frozen? ⟨g, 1, none⟩ = false ∧ w.frozen? ⟨g, 2, none⟩ = false :=
  ⟨cell_of_heap h 0, cell_of_heap h 1, cell_of_heap h 2, frozen_of_heap h 1, frozen_of_heap h 2⟩

set_option maxRecDepth 40000 in
set_option maxHeartbeats 1000000 in
theorem dbyte_any (g L N : Nat) (v : Value) (w : World) (hc : Cur g L v N w) (hN : N ≤ 1099511627776) :
    Calls Tryz.prog 92 #[.pointer (some ⟨g, 0, none⟩)] w fun e w' => (∃ x : Int, e = .returned (.int .i64 x) ∧ 0 ≤ x ∧ x < 256) ∧ Cur g L v (N + 1) w' ∧ Kept g w w' := by
  have hgl := hc.lt
  obtain ⟨hcode, p, sd, hh, hp0, hp1, hs0, hs1⟩ := hc
  obtain ⟨f0, f1, f2, z1, z2⟩ := cur_cells hh
  have Hcode := hide hcode
  obtain ⟨a, cap, rfl, hLc, hcap, hL, hel⟩ := hcode
  -- the world behind the count
  obtain ⟨w1, hw1⟩ : ∃ w1, w1 = w.setCell ⟨g, 1, none⟩ (.int .i64 (p + 1)) := ⟨_, rfl⟩
  have hh1 : w1.heap[g]? = some (.cells #[.slice a L cap, .int .i64 (p + 1), .int .i64 sd] 91 (0, 0)) := by
    rw [hw1]; exact Row.setHeap hh 1 _
  have hk1 : Kept g w w1 := by rw [hw1]; exact (Kept.refl g w).set _ _
  have hend : ∀ (w' : World) (sd' : Int), w'.heap[g]? = some (.cells #[.slice a L cap, .int .i64 (p + 1), .int .i64 sd'] 91 (0, 0)) → Kept g w w' → 0 ≤ sd' → sd' < 2147483648 → Cur g L (.slice a L cap) (N + 1) w' ∧ Kept g w w' :=
    fun w' sd' h1 h2 h3 h4 => ⟨⟨(unhide Hcode).low fun b hb => h2.block b (by omega) (by omega), _, _, h1, by omega, by omega, h3, h4⟩, h2⟩
  have HEND := hide hend
  have HK1 := hide hk1
  have HH1 := hide hh1
  have HEL := hide hel
  have HW1 := hide hw1
  clear hh hend hk1 hh1 hel hw1
  by_cases hA : 4000 + 4 * (L : Int) < p + 1
  · go_enter Tryz.func92, Tryz.ntmps92
    go_wp2_with fail
    rw [← unhide HW1]
    obtain ⟨q0, q1, q2, y1, y2⟩ := cur_cells (unhide HH1)
    clear f0 f1 f2 z1 z2
    go_region
    go_wp2_with fail
    go_ret
    exact ⟨⟨0, rfl, by omega, by omega⟩, unhide HEND _ sd (unhide HH1) (unhide HK1).drew hs0 hs1⟩
  by_cases hB : (L : Int) < p + 1
  · go_enter Tryz.func92, Tryz.ntmps92
    go_wp2_with fail
    rw [← unhide HW1]
    obtain ⟨q0, q1, q2, y1, y2⟩ := cur_cells (unhide HH1)
    clear f0 f1 f2 z1 z2
    go_region
    go_wp2_with fail
    go_region
    go_wp2_with fail
    go_ret
    exact ⟨⟨_, rfl, by omega, by omega⟩, unhide HEND _ _ (Row.setHeap (unhide HH1) 2 _) (((unhide HK1).set _ _).drew.drew) (by omega) (by omega)⟩
  · obtain ⟨k, rfl⟩ : ∃ k : Nat, p = k := ⟨p.toNat, by omega⟩
    obtain ⟨b, off, x, rfl, hb1, hb3, hx0, hx1⟩ := unhide HEL k (by omega)
    have q3 : w1.cell? ⟨b, off + k, none⟩ = some (.int .u8 x) := ((unhide HK1).cell (by omega) (by omega)).trans hb3
    go_enter Tryz.func92, Tryz.ntmps92
    go_wp2_with fail
    rw [← unhide HW1]
    obtain ⟨q0, q1, q2, y1, y2⟩ := cur_cells (unhide HH1)
    clear f0 f1 f2 z1 z2 hb3
    go_region
    go_wp2_with fail
    go_region
    go_wp2_with fail
    have w0 : IntKind.i64.wrap ((k : Int) + 1 - 1) = (k : Int) := by rw [show (k : Int) + 1 - 1 = k from by omega, IntKind.wrap_i64]; omega
    have w2 : (0 : Int) ≤ (k : Int) := by omega
    have w3 : (k : Int) < (L : Int) := by omega
    have w4 : ((k : Int)).toNat = k := by omega
    have w5 : IntKind.i64.wrap (sd * 31) = sd * 31 := by rw [IntKind.wrap_i64]; omega
    have w6 : IntKind.i64.wrap (sd * 31 + x) = sd * 31 + x := by rw [IntKind.wrap_i64]; omega
    have w7 : IntKind.i64.wrap (sd * 31 + x + 7) = sd * 31 + x + 7 := by rw [IntKind.wrap_i64]; omega
    go_region
    go_wp2_with fail
    go_region
    go_wp2_with fail
    go_ret
    exact ⟨⟨x, rfl, hx0, by omega⟩, unhide HEND _ ((sd * 31 + x + 7) % 2147483648) (Row.setHeap (unhide HH1) 2 _) (((unhide HK1).set _ _).drew.drew.drew.drew) (by omega) (by omega)⟩

set_option maxRecDepth 40000 in
set_option maxHeartbeats 1000000 in
theorem dpick_any (g L N : Nat) (v : Value) (n : Int) (w : World) (hc : Cur g L v N w) (hN : N ≤ 1000000000000) (hn0 : -1000000 ≤ n) (hn : n ≤ 1000000000) :
    Calls Tryz.prog 54 #[.pointer (some ⟨g, 0, none⟩), .int .i64 n] w fun e w' => (∃ r : Nat, e = .returned (.int .i64 r) ∧ ((r : Int) < n ∨ (r = 0 ∧ n ≤ 1))) ∧ Cur g L v (N + 2) w' ∧ Kept g w w' := by
  by_cases h1 : n ≤ 1
  · have HC := hide hc
    clear hc
    go_enter Tryz.func54, Tryz.ntmps54
    go_wp2_with fail
    go_ret
    exact ⟨⟨0, rfl, .inr ⟨rfl, h1⟩⟩, (unhide HC).mono (by omega), Kept.refl _ _⟩
  by_cases h2 : n ≤ 256
  · have hb := hide (dbyte_any g L N v w hc (by omega))
    clear hc
    go_enter Tryz.func54, Tryz.ntmps54
    go_wp2_with fail
    refine (unhide hb).mono ?_
    rintro e w1 ⟨⟨x, rfl, hx0, hx1⟩, hc1, hk1⟩
    have HC := hide hc1
    have HK := hide hk1
    clear hc1 hk1
    go_wp2_with fail
    go_ret
    exact ⟨⟨(x % n).toNat, ret_int (by have := Int.emod_nonneg x (by omega : n ≠ 0); omega), .inl (by have := Int.emod_nonneg x (by omega : n ≠ 0); have := Int.emod_lt_of_pos x (by omega : 0 < n); omega)⟩, (unhide HC).mono (by omega), unhide HK⟩
  · have hb := hide (dbyte_any g L N v w hc (by omega))
    clear hc
    go_enter Tryz.func54, Tryz.ntmps54
    go_wp2_with fail
    refine (unhide hb).mono ?_
    rintro e w1 ⟨⟨x, rfl, hx0, hx1⟩, hc1, hk1⟩
    have hb2 := hide (dbyte_any g L (N + 1) v w1 hc1 (by omega))
    have HK := hide hk1
    clear hc1 hk1
    go_wp2_with fail
    refine (unhide hb2).mono ?_
    rintro e w2 ⟨⟨y, rfl, hy0, hy1⟩, hc2, hk2⟩
    have HC := hide hc2
    have HK2 := hide hk2
    clear hc2 hk2
    go_wp2_with fail
    go_ret
    exact ⟨⟨((x * 256 + y) % n).toNat, ret_int (by have := Int.emod_nonneg (x * 256 + y) (by omega : n ≠ 0); omega), .inl (by have := Int.emod_nonneg (x * 256 + y) (by omega : n ≠ 0); have := Int.emod_lt_of_pos (x * 256 + y) (by omega : 0 < n); omega)⟩, unhide HC, (unhide HK).trans (unhide HK2)⟩

set_option maxRecDepth 40000 in
set_option maxHeartbeats 1000000 in
theorem dsize_any (g L N : Nat) (v : Value) (w : World) (hc : Cur g L v N w) (hN : N ≤ 1000000000000) :
    Calls Tryz.prog 53 #[.pointer (some ⟨g, 0, none⟩), .int .i64 4] w fun e w' => (∃ r : Nat, e = .returned (.int .i64 r) ∧ r ≤ 4) ∧ Cur g L v (N + 2) w' ∧ Kept g w w' := by
  obtain ⟨hcode, p, sd, hh, hp0, hp1, hs0, hs1⟩ := id hc
  obtain ⟨f0, f1, f2, z1, z2⟩ := cur_cells hh
  obtain ⟨a, cap, rfl, hLc, hcap, hL, hel⟩ := hcode
  by_cases h4 : (4 : Int) < 1 + (L : Int) / 12
  · have hb := hide (dpick_any g L N _ 5 w hc hN (by omega) (by omega))
    clear hc hel hh z1 z2 f1 f2
    go_enter Tryz.func53, Tryz.ntmps53
    go_wp2_with fail
    refine (unhide hb).mono ?_
    rintro e w1 ⟨⟨r, rfl, hr⟩, hc1, hk1⟩
    have HC := hide hc1
    have HK := hide hk1
    clear hc1 hk1
    go_wp2_with fail
    go_ret
    exact ⟨⟨r, rfl, by omega⟩, unhide HC, unhide HK⟩
  · have hb := hide (dpick_any g L N _ (1 + (L : Int) / 12 + 1) w hc hN (by omega) (by omega))
    clear hc hel hh z1 z2 f1 f2
    go_enter Tryz.func53, Tryz.ntmps53
    go_wp2_with fail
    refine (unhide hb).mono ?_
    rintro e w1 ⟨⟨r, rfl, hr⟩, hc1, hk1⟩
    have HC := hide hc1
    have HK := hide hk1
    clear hc1 hk1
    go_wp2_with fail
    go_ret
    exact ⟨⟨r, rfl, by omega⟩, unhide HC, unhide HK⟩

end Go.Proofs.YthfjgffhncogaaaGreat
/- The makers of terms; an atom's name drawn; a cursor made. -/
namespace Go.Proofs.YthfjgffhncogaaaGreat
open Go.RowKit Go.Deep

theorem mk_int (n : Int) (w : World) : Calls Tryz.prog 55 #[.int .i64 n] w fun e w' => e = .returned (.agg #[.int .i64 1, .int .i64 n, .string ⟨#[]⟩, .slice none 0 0]) ∧ Below w.heap.size w w' := by
  go_enter Tryz.func55, Tryz.ntmps55
  go_wp2_with fail
  exact bodyPost_ret (v := .agg #[.int .i64 1, .int .i64 n, .string ⟨#[]⟩, .slice none 0 0]) (by simp [results, Tryz.results55, go_sem]) rfl ⟨rfl, (Below.refl _ _).alloc (Nat.le_refl _) _⟩
theorem mk_atom (s : ByteArray) (w : World) : Calls Tryz.prog 75 #[.string s] w fun e w' => e = .returned (.agg #[.int .i64 2, .int .i64 0, .string s, .slice none 0 0]) ∧ Below w.heap.size w w' := by
  go_enter Tryz.func75, Tryz.ntmps75
  go_wp2_with fail
  exact bodyPost_ret (v := .agg #[.int .i64 2, .int .i64 0, .string s, .slice none 0 0]) (by simp [results, Tryz.results75, go_sem]) rfl ⟨rfl, (Below.refl _ _).alloc (Nat.le_refl _) _⟩
theorem mk_bin (s : ByteArray) (w : World) : Calls Tryz.prog 58 #[.string s] w fun e w' => e = .returned (.agg #[.int .i64 9, .int .i64 0, .string s, .slice none 0 0]) ∧ Below w.heap.size w w' := by
  go_enter Tryz.func58, Tryz.ntmps58
  go_wp2_with fail
  exact bodyPost_ret (v := .agg #[.int .i64 9, .int .i64 0, .string s, .slice none 0 0]) (by simp [results, Tryz.results58, go_sem]) rfl ⟨rfl, (Below.refl _ _).alloc (Nat.le_refl _) _⟩
theorem mk_list (a : Option Addr) (l c : Nat) (w : World) : Calls Tryz.prog 56 #[.slice a l c] w fun e w' => e = .returned (.agg #[.int .i64 8, .int .i64 0, .string ⟨#[]⟩, .slice a l c]) ∧ Below w.heap.size w w' := by
  go_enter Tryz.func56, Tryz.ntmps56
  go_wp2_with fail
  exact bodyPost_ret (v := .agg #[.int .i64 8, .int .i64 0, .string ⟨#[]⟩, .slice a l c]) (by simp [results, Tryz.results56, go_sem]) rfl ⟨rfl, (Below.refl _ _).alloc (Nat.le_refl _) _⟩
theorem mk_tuple (a : Option Addr) (l c : Nat) (w : World) : Calls Tryz.prog 57 #[.slice a l c] w fun e w' => e = .returned (.agg #[.int .i64 6, .int .i64 0, .string ⟨#[]⟩, .slice a l c]) ∧ Below w.heap.size w w' := by
  go_enter Tryz.func57, Tryz.ntmps57
  go_wp2_with fail
  exact bodyPost_ret (v := .agg #[.int .i64 6, .int .i64 0, .string ⟨#[]⟩, .slice a l c]) (by simp [results, Tryz.results57, go_sem]) rfl ⟨rfl, (Below.refl _ _).alloc (Nat.le_refl _) _⟩

/-- Literals of small texts, of ints. -/
def isStr : Value → Bool | .string s => decide (s.size ≤ 100) | _ => false
def isI64 : Value → Bool | .int .i64 n => decide (-9223372036854775808 ≤ n) && decide (n ≤ 9223372036854775807) | _ => false
theorem lit_block {g : Nat} {w w1 : World} {arr : Array Value} {e : TypeId} (hg : g < w.heap.size) (hk : Kept g (w.alloc (.cells arr e)) w1) (r : Nat) : w1.cell? ⟨w.heap.size, r, none⟩ = arr[r]? := by
  have h := (hk.block w.heap.size (by simp) (by omega)).trans (heap_new w _)
  exact cell_of_heap h r
theorem lit_str {g : Nat} {w w1 : World} {arr : Array Value} {e : TypeId} (hg : g < w.heap.size) (hk : Kept g (w.alloc (.cells arr e)) w1) (h : arr.toList.all isStr = true) {r : Nat} (hr : r < arr.size) :
    ∃ s : ByteArray, w1.cell? ⟨w.heap.size, r, none⟩ = some (.string s) ∧ s.size ≤ 100 := by
  have h1 := List.all_eq_true.1 h arr[r] (by simp)
  rw [lit_block hg hk, Array.getElem?_eq_getElem hr]
  generalize arr[r] = x at h1
  cases x <;> simp [isStr] at h1
  exact ⟨_, rfl, h1⟩
theorem lit_int {g : Nat} {w w1 : World} {arr : Array Value} {e : TypeId} (hg : g < w.heap.size) (hk : Kept g (w.alloc (.cells arr e)) w1) (h : arr.toList.all isI64 = true) {r : Nat} (hr : r < arr.size) :
    ∃ n : Int, w1.cell? ⟨w.heap.size, r, none⟩ = some (.int .i64 n) ∧ In64 n := by
  have h1 := List.all_eq_true.1 h arr[r] (by simp)
  rw [lit_block hg hk, Array.getElem?_eq_getElem hr]
  generalize arr[r] = x at h1
  cases x with
  | int k n => cases k <;> simp [isI64] at h1; exact ⟨_, rfl, h1⟩
  | _ => simp [isI64] at h1

set_option maxRecDepth 40000 in
theorem datom_any (g L N : Nat) (v : Value) (w : World) (hc : Cur g L v N w) (hN : N ≤ 1000000000000) :
    Calls Tryz.prog 90 #[.pointer (some ⟨g, 0, none⟩)] w fun e w' => (∃ s : ByteArray, e = .returned (.string s) ∧ s.size ≤ 100) ∧ Cur g L v (N + 2) w' ∧ Kept g w w' := by
  have hp := hide (fun o => dpick_any g L N v 10 (w.alloc o) (hc.alloc o) hN (by omega) (by omega))
  have hg := hc.lt
  clear hc
  go_enter Tryz.func90, Tryz.ntmps90
  go_wp2_with fail
  refine ((unhide hp) _).mono ?_
  rintro e w1 ⟨⟨r, rfl, hr⟩, hc1, hk1⟩
  have hr' : (r : Int) < 10 := by omega
  obtain ⟨s, hs, hs2⟩ := lit_str (r := r) hg hk1 rfl (by show r < 10; omega)
  have HC := hide hc1
  have HK := hide (((Kept.refl g w).alloc _).trans hk1)
  clear hc1 hk1 hr
  go_wp2_with fail
  go_ret
  exact ⟨⟨s, rfl, hs2⟩, unhide HC, unhide HK⟩

set_option maxRecDepth 40000 in
theorem dcur_any (L : Nat) (v : Value) (w : World) (hc : CodeAt w.heap.size L v w) :
    Calls Tryz.prog 27 #[v] w fun e w' => e = .returned (.pointer (some ⟨w.heap.size, 0, none⟩)) ∧ Cur w.heap.size L v 0 w' ∧ Kept w.heap.size w w' := by
  have HC := hide hc
  obtain ⟨a, cap, rfl, hLc, hcap, hL, hel⟩ := hc
  clear hel
  go_enter Tryz.func27, Tryz.ntmps27
  go_wp2_with fail
  go_ret
  have hk : Kept w.heap.size w (w.alloc (.cells #[.slice a L cap, .int .i64 0, .int .i64 (17 + L)] 91)) := (Kept.refl _ w).alloc _
  exact ⟨rfl, ⟨(unhide HC).low fun b hb => hk.block b hb (by omega), 0, 17 + L, heap_new w _, by omega, by omega, by omega, by omega⟩, hk⟩

end Go.Proofs.YthfjgffhncogaaaGreat
