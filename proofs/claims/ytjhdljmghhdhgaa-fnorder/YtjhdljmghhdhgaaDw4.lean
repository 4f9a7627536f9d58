/- spec's l01DrawTerm: what is drawn is a term in new memory, the cursor goes on, nothing else is written. -/
import Derived.Test.YtjhdljmghhdhgaaDw3
import Derived.Deep.RegionWith
namespace Go.Proofs.Ytjhdljmghhdhgaa
open Go.RowKit Go.Deep

/-- How many bytes a term so deep may take. -/
def cost : Nat → Nat
  | 0 => 20
  | D + 1 => 20 + 6 * cost D
theorem cost_pos : ∀ D, 20 ≤ cost D
  | 0 => Nat.le_refl _
  | _ + 1 => Nat.le_add_right _ _

theorem cost_ge : ∀ D, D ≤ cost D
  | 0 => Nat.zero_le _
  | D + 1 => by have := cost_ge D; show D + 1 ≤ 20 + 6 * cost D; omega

def DrawEnd (D g L : Nat) (v : Value) (N : Nat) (w : World) (e : Ending) (w' : World) : Prop :=
  ∃ (k m : Int) (s : ByteArray) (ks : List (Tm D)) (c3 : Value) (xs : List Value), e = .returned (.agg #[.int .i64 k, .int .i64 m, .string s, c3]) ∧ In64 k ∧ In64 m ∧ s.size ≤ 2 ^ 47 ∧
    RowsX w.heap.size w' ks c3 xs ∧ ks.length ≤ 6 ∧ Cur g L v (N + cost D) w' ∧ Kept g w w'
def DrawSaid (D : Nat) : Prop := ∀ (d : Int) (g L : Nat) (v : Value) (N : Nat) (w : World), d = D → Cur g L v N w → N + cost D ≤ 1000000000 →
  Calls Try.prog 25 #[.pointer (some ⟨g, 0, none⟩), .int .i64 d] w fun e w' => DrawEnd D g L v N w e w'

/-- The result's four cells stored. -/
def put4 (w : World) (B : Nat) (d0 d1 d2 d3 : Value) : World := (((w.setCell ⟨B, 0, none⟩ d0).setCell ⟨B, 1, none⟩ d1).setCell ⟨B, 2, none⟩ d2).setCell ⟨B, 3, none⟩ d3
theorem put4_kept (w : World) (B : Nat) (d0 d1 d2 d3 : Value) : Kept B w (put4 w B d0 d1 d2 d3) := ((((Kept.refl B w).set _ _).set _ _).set _ _).set _ _
theorem Kept.both {g B : Nat} {a w w' : World} (h : Kept g a w) (k : Kept B w w') (hB : a.heap.size ≤ B) : Kept g a w' :=
  ⟨k.os.trans h.os, k.tape.trans h.tape, k.output.trans h.output, Nat.le_trans h.size k.size, fun i hi hg => (k.block i (Nat.lt_of_lt_of_le hi h.size) (by omega)).trans (h.block i hi hg)⟩
/-- Four cells of a result. -/
def Res4 (B : Nat) (w : World) : Prop := ∃ a b c d, w.heap[B]? = some (.cells #[a, b, c, d] 26 (0, 0))
theorem Res4.lt {B : Nat} {w : World} (h : Res4 B w) : B < w.heap.size := by
  obtain ⟨_, _, _, _, h⟩ := h
  rcases Nat.lt_or_ge B w.heap.size with h1 | h1
  · exact h1
  · rw [Array.getElem?_eq_none h1] at h; cases h
theorem Res4.keep {B : Nat} {w w' : World} (h : Res4 B w) (hb : w'.heap[B]? = w.heap[B]?) : Res4 B w' := by
  obtain ⟨a, b, s, c, h1⟩ := h
  exact ⟨a, b, s, c, hb.trans h1⟩
theorem draw_end {D g L N M : Nat} {v : Value} {w w' : World} (hg : g < w.heap.size) (hk : Kept g w w') (hc : Cur g L v M w') (hM : M ≤ N + cost D) {k m : Int} {s : ByteArray} {ks : List (Tm D)} {c3 : Value} {xs : List Value}
    (h1 : In64 k) (h2 : In64 m) (h3 : s.size ≤ 2 ^ 47) (hX : RowsX (w.heap.size + 1) w' ks c3 xs) (hl : ks.length ≤ 6) :
    DrawEnd D g L v N w (.returned (.agg #[.int .i64 k, .int .i64 m, .string s, c3])) (put4 w' w.heap.size (.int .i64 k) (.int .i64 m) (.string s) c3) := by
  have hp := put4_kept w' w.heap.size (.int .i64 k) (.int .i64 m) (.string s) c3
  exact ⟨k, m, s, ks, c3, xs, rfl, h1, h2, h3, (hX.kept hp (by omega)).lower (by omega), hl, (hc.low fun b hb => hp.block b (by have := hc.lt; omega) (by omega)).mono hM, hk.both hp (Nat.le_refl _)⟩
theorem rows_nil {D base : Nat} (w : World) : RowsX base w ([] : List (Tm D)) (.slice none 0 0) [] := ⟨World.ownsRow_nil w base _ 4, CellsAt.nil⟩

theorem res_cells {B : Nat} {w : World} (h : Res4 B w) : ∃ y0 y1 y2 y3, w.cell? ⟨B, 0, none⟩ = some y0 ∧ w.cell? ⟨B, 1, none⟩ = some y1 ∧ w.cell? ⟨B, 2, none⟩ = some y2 ∧ w.cell? ⟨B, 3, none⟩ = some y3 ∧
    w.frozen? ⟨B, 0, none⟩ = false ∧ w.frozen? ⟨B, 1, none⟩ = false ∧ w.frozen? ⟨B, 2, none⟩ = false ∧ w.frozen? ⟨B, 3, none⟩ = false := by
  obtain ⟨a, b, s, c, h1⟩ := h
  exact ⟨_, _, _, _, cell_of_heap h1 0, cell_of_heap h1 1, cell_of_heap h1 2, cell_of_heap h1 3, frozen_of_heap h1 0, frozen_of_heap h1 1, frozen_of_heap h1 2, frozen_of_heap h1 3⟩

/-- Under way: the cursor, what was there, the result's cells. -/
structure St (g L : Nat) (v : Value) (M : Nat) (w w' : World) : Prop where
  cur : Cur g L v M w'
  kept : Kept g w w'
  res : Res4 w.heap.size w'
  gl : g < w.heap.size
theorem St.lt {g L M : Nat} {v : Value} {w w' : World} (h : St g L v M w w') : g < w'.heap.size := Nat.lt_of_lt_of_le h.gl h.kept.size
theorem St.room {g L M : Nat} {v : Value} {w w' : World} (h : St g L v M w w') : w.heap.size + 1 ≤ w'.heap.size := h.res.lt
theorem St.go {g L M M' : Nat} {v : Value} {w w1 w2 : World} (h : St g L v M w w1) (hk : Kept g w1 w2) (hc : Cur g L v M' w2) : St g L v M' w w2 :=
  ⟨hc, h.kept.trans hk, h.res.keep (hk.block _ h.room (by have := h.gl; omega)), h.gl⟩
theorem St.below {g L M : Nat} {v : Value} {w w1 w2 : World} (h : St g L v M w w1) (hb : Below w1.heap.size w1 w2) : St g L v M w w2 := h.go (Kept.below hb) (h.cur.below hb)
theorem St.alloc {g L M : Nat} {v : Value} {w w1 : World} (h : St g L v M w w1) (o : Obj) : St g L v M w (w1.alloc o) := h.below ((Below.refl _ _).alloc (Nat.le_refl _) _)
theorem St.drew {g L M : Nat} {v : Value} {w w1 : World} (h : St g L v M w w1) : St g L v M w w1.drew := h.below (Below.refl _ _).drew
theorem St.cells {g L M : Nat} {v : Value} {w w1 : World} (h : St g L v M w w1) : ∃ y0 y1 y2 y3, w1.cell? ⟨w.heap.size, 0, none⟩ = some y0 ∧ w1.cell? ⟨w.heap.size, 1, none⟩ = some y1 ∧ w1.cell? ⟨w.heap.size, 2, none⟩ = some y2 ∧ w1.cell? ⟨w.heap.size, 3, none⟩ = some y3 ∧
    w1.frozen? ⟨w.heap.size, 0, none⟩ = false ∧ w1.frozen? ⟨w.heap.size, 1, none⟩ = false ∧ w1.frozen? ⟨w.heap.size, 2, none⟩ = false ∧ w1.frozen? ⟨w.heap.size, 3, none⟩ = false := res_cells h.res
/-- A step that turns nothing up to the result's cells. -/
theorem St.low {g L M : Nat} {v : Value} {w w1 w2 : World} (h : St g L v M w w1) (hb : Below (w.heap.size + 1) w1 w2) : St g L v M w w2 :=
  ⟨h.cur.low fun b hb' => hb.block b (by have := h.gl; omega), ⟨hb.os.trans h.kept.os, hb.tape.trans h.kept.tape, hb.output.trans h.kept.output, Nat.le_trans h.kept.size hb.size, fun k hk hn => (hb.block k (by omega)).trans (h.kept.block k hk hn)⟩,
    h.res.keep (hb.block _ (by omega)), h.gl⟩
theorem st_pick {g L M : Nat} {v : Value} {w w1 : World} (h : St g L v M w w1) (n : Int) (hM : M ≤ 1000000000000) (hn0 : -1000000 ≤ n) (hn : n ≤ 1000000000) :
    Calls Try.prog 27 #[.pointer (some ⟨g, 0, none⟩), .int .i64 n] w1 fun e w' => (∃ r : Nat, e = .returned (.int .i64 r) ∧ ((r : Int) < n ∨ (r = 0 ∧ n ≤ 1))) ∧ St g L v (M + 2) w w' ∧ Kept g w1 w' :=
  (dpick_any g L M v n w1 h.cur hM hn0 hn).mono fun _ _ ⟨h1, h2, h3⟩ => ⟨h1, h.go h3 h2, h3⟩
theorem st_end {D g L N M : Nat} {v : Value} {w w' : World} (h : St g L v M w w') (hM : M ≤ N + cost D) {k m : Int} {s : ByteArray} {ks : List (Tm D)} {c3 : Value} {xs : List Value}
    (h1 : In64 k) (h2 : In64 m) (h3 : s.size ≤ 2 ^ 47) (hX : RowsX (w.heap.size + 1) w' ks c3 xs) (hl : ks.length ≤ 6) :
    DrawEnd D g L v N w (.returned (.agg #[.int .i64 k, .int .i64 m, .string s, c3])) (put4 w' w.heap.size (.int .i64 k) (.int .i64 m) (.string s) c3) :=
  draw_end h.gl h.kept h.cur hM h1 h2 h3 hX hl

theorem DrawEnd.alloc {D g L : Nat} {v : Value} {N : Nat} {w : World} {e : Ending} {w' : World} (h : DrawEnd D g L v N w e w') (o : Obj) : DrawEnd D g L v N w e (w'.alloc o) := by
  obtain ⟨k, m, s, ks, c3, xs, he, h1, h2, h3, hX, hl, hc, hk⟩ := h
  exact ⟨k, m, s, ks, c3, xs, he, h1, h2, h3, hX.up ((Below.refl _ _).alloc (Nat.le_refl _) o), hl, hc.alloc o, hk.alloc o⟩
theorem DrawEnd.opened {D g L : Nat} {v : Value} {N : Nat} {w : World} {e : Ending} {w' : World} (h : DrawEnd D g L v N w e w') : ∃ (t : Tm (D + 1)) (k m : Int) (s : ByteArray) (a : Option Addr) (l c : Nat),
    e = .returned (.agg #[.int .i64 k, .int .i64 m, .string s, .slice a l c]) ∧ TAt (From w.heap.size w') w' (D + 1) t (.int .i64 k) (.int .i64 m) (.string s) (.slice a l c) ∧ Cur g L v (N + cost D) w' ∧ Kept g w w' := by
  obtain ⟨k, m, s, ks, c3, xs, he, h1, h2, h3, hX, hl, hc, hk⟩ := h
  have hs := hX.sat (by omega)
  obtain ⟨a, cap, rfl, _⟩ := id hs
  exact ⟨(k, m, s, ks), k, m, s, a, ks.length, cap, he, ⟨rfl, rfl, rfl, h1, h2, h3, hs⟩, hc, hk⟩

theorem lit_drew {g : Nat} {w w1 : World} {arr : Array Value} {e : TypeId} (hg : g < w.heap.size) (hk : Kept g (w.alloc (.cells arr e)).drew w1) (r : Nat) : w1.cell? ⟨w.heap.size, r, none⟩ = arr[r]? :=
  lit_block (w := w) hg ⟨hk.os, hk.tape, hk.output, hk.size, hk.block⟩ r

/-- A term that lies in a new block put behind an own row. -/
theorem row_push {n base : Nat} {w1 wz : World} {ls : List (Tm n)} {xs : List Value} {kv : Value} (hX : RowsX base w1 ls kv xs) (hl : ls.length ≤ 5000) {t : Tm n} {d0 d1 d2 d3 : Value} {S : Nat → Prop} (ht : TAt S w1 n t d0 d1 d2 d3) (hS : ∀ b, S b → Off base kv w1 b)
    (hz : wz.heap = (w1.alloc (.cells #[d0, d1, d2, d3] 26)).heap ∧ wz.os = w1.os ∧ wz.tape = w1.tape ∧ wz.output = w1.output) (hb : base ≤ w1.heap.size) (ty : TypeId) :
    ∃ R cap w', (Builtin.append_ #[24, 24] ty #[kv, .slice (some ⟨w1.heap.size, 0, none⟩) 1 1]).run Try.prog wz = .ok (.slice (some ⟨R, 0, none⟩) (ls.length + 1) cap) w' ∧
      RowsX base w' (ls ++ [t]) (.slice (some ⟨R, 0, none⟩) (ls.length + 1) cap) (xs ++ [d0, d1, d2, d3]) ∧ Below base w1 w' := by
  have hbz : Below w1.heap.size w1 wz := ⟨hz.2.1, hz.2.2.1, hz.2.2.2, by rw [hz.1]; simp, fun k hk => by rw [hz.1]; exact Below.heap_alloc _ _ _ hk⟩
  have hXz := hX.up hbz
  have hblk : wz.heap[w1.heap.size]? = some (.cells #[d0, d1, d2, d3] 26 (0, 0)) := by rw [hz.1]; exact heap_new _ _
  have g1 : TAt (Off base kv wz) wz n t d0 d1 d2 d3 := (ht.below hbz fun b hb => (hS b hb).2.1).mono fun b hb => ⟨(hS b hb).1, Nat.lt_of_lt_of_le (hS b hb).2.1 hbz.size, (hS b hb).2.2⟩
  obtain ⟨R, cap, w', hr, ho, hg, hR⟩ := run_append_terms base kv ls.length xs wz hXz.1 (by omega) ⟨w1.heap.size, 0, none⟩ 1 1 [d0, d1, d2, d3] rfl ⟨by omega, by omega⟩
    (fun j u hu => by rw [Go.WideShapes.add_plain, cell_of_heap hblk, Nat.zero_add, ← Array.getElem?_toList]; exact hu) (shape_one ht) (Nat.le_trans hb hbz.size) ty
  exact ⟨R, cap, w', hr, hXz.push (CellsAt.one g1) (R := R) (cap := cap) ho hg hR, (hbz.mono hb).grown hg (Nat.le_trans hb hbz.size) fun k hk => (hXz.1.lt k hk).1⟩

set_option maxRecDepth 100000 in
set_option maxHeartbeats 4000000 in
theorem draw_of (D : Nat) (h : ∀ D', D = D' + 1 → DrawSaid D') : DrawSaid D := by
  intro d g L v N w hd hc hN
  have hg := hc.lt
  have hcp := cost_pos D
  have hdb : d ≤ 1000000000 := by have := cost_ge D; omega
  obtain ⟨w0, hw0⟩ : ∃ w0, w0 = w.alloc (.cells #[.int .i64 0, .int .i64 0, .string ⟨#[]⟩, .slice none 0 0] 26) := ⟨_, rfl⟩
  have hr0 : Res4 w.heap.size w0 := by rw [hw0]; exact ⟨_, _, _, _, heap_new _ _⟩
  have hk0 : Kept g w w0 := by rw [hw0]; exact (Kept.refl g w).alloc _
  have hc0 : Cur g L v N w0 := by rw [hw0]; exact hc.alloc _
  have hs0 : w0.heap.size = w.heap.size + 1 := by rw [hw0]; simp
  have HW0 := hide hw0
  have HS0 := hide (show St g L v N w w0 from ⟨hc0, hk0, hr0, hg⟩)
  have HD := hide hd
  have HCP := hide hcp
  have HN := hide hN
  have hp := hide (st_pick (unhide HS0) 14 (by omega) (by omega) (by omega))
  clear hc hr0 hk0 hc0 hd hcp hN
  go_enter Try.func25, Try.ntmps25
  go_wp2_with fail
  rw [← unhide HW0]
  clear hw0
  refine (unhide hp).mono ?_
  rintro e w1 ⟨⟨r, rfl, hr⟩, hs1, -⟩
  have hr : (r : Int) < 14 := by omega
  have HS1 := hide hs1
  clear hs1
  rcases (show d ≤ 0 ∨ 0 < d by omega) with hd0 | hd0
  all_goals
    go_upto_if 19 with fail
    go_cut [5] (fun s wc => ∃ kk : Int, s = .int .i64 kk ∧ 0 ≤ kk ∧ kk ≤ 13 ∧ (kk ≤ 7 ∨ 0 < d) ∧ wc = w1)
    case first =>
      rcases (show (r : Int) ≤ 7 ∨ (7 : Int) < r by omega) with h7 | h7
      all_goals
        go_wp2_with fail
        go_meet
        case rel => first | exact ⟨r, rfl, by omega, by omega, .inl h7, rfl⟩ | exact ⟨r, rfl, by omega, by omega, .inr hd0, rfl⟩ | exact ⟨r - 7, rfl, by omega, by omega, .inl (by omega), rfl⟩
    case rest =>
      obtain ⟨kk, rfl, hk0, hk13, hk7, rfl⟩ := hcut
      rename World => w1
      have hcase : (kk = 0 ∨ kk = 1 ∨ kk = 2) ∨ (kk = 3 ∨ kk = 4 ∨ kk = 5) ∨ kk = 6 ∨ kk = 7 ∨ kk = 12 ∨ (8 ≤ kk ∧ kk ≠ 12 ∧ kk ≤ 13) := by omega
      have HK7 := hide hk7
      have HH := hide h
      clear hk0 hk13 hk7 hr h
      rcases hcase with hcase | hcase | rfl | rfl | rfl | hcase
      · rcases hcase with rfl | rfl | rfl
        all_goals
          go_wp2_with fail
          refine (st_pick (unhide HS1) 20 (by have := unhide HN; omega) (by omega) (by omega)).mono ?_
          rintro e w2 ⟨⟨a, rfl, ha⟩, hs2, -⟩
          have ha : (a : Int) < 20 := by omega
          have HS2 := hide hs2
          clear hs2
          go_wp2_with fail
          refine (st_pick (unhide HS2) 6 (by have := unhide HN; omega) (by omega) (by omega)).mono ?_
          rintro e w3 ⟨⟨b, rfl, hb⟩, hs3, -⟩
          have HS3 := hide hs3
          clear hs3 hb
          rcases Nat.eq_zero_or_pos b with hb0 | hb0
          · have hb0' : ((b : Int) == 0) = true := by simp [hb0]
            clear hb0
            go_wp2_with fail
            refine (st_pick ((unhide HS3).alloc _) 7 (by have := unhide HN; omega) (by omega) (by omega)).mono ?_
            rintro e w4 ⟨⟨c, rfl, hc⟩, hs4, hk4⟩
            have hc : (c : Int) < 7 := by omega
            obtain ⟨n, hn1, hn2⟩ := lit_int (r := c) (unhide HS3).lt hk4 rfl (by show c < 7; omega)
            have HS4 := hide hs4
            have HN2 := hide hn2
            clear hs4 hk4 hn2
            go_wp2_with fail
            refine (mk_int n w4).mono ?_
            rintro e w5 ⟨rfl, hb5⟩
            have HS5 := hide ((unhide HS4).below hb5)
            obtain ⟨y0, y1, y2, y3, q0, q1, q2, q3, z0, z1, z2, z3⟩ := (unhide HS5).cells
            clear hb5
            go_wp2_with fail
            exact bodyPost_ret (v := .agg #[.int .i64 1, .int .i64 n, .string ⟨#[]⟩, .slice none 0 0]) (by simp [results, Try.results25, go_sem, q0, q1, q2, q3]) rfl (st_end (unhide HS5) (by have := unhide HCP; omega) ⟨by omega, by omega⟩ (unhide HN2) (by decide) (rows_nil _) (by simp))
          · have hb0' : ((b : Int) == 0) = false := by simp; omega
            clear hb0
            go_wp2_with fail
            refine (mk_int ((a : Int) - 5) w3).mono ?_
            rintro e w5 ⟨rfl, hb5⟩
            have HS5 := hide ((unhide HS3).below hb5)
            obtain ⟨y0, y1, y2, y3, q0, q1, q2, q3, z0, z1, z2, z3⟩ := (unhide HS5).cells
            clear hb5
            go_wp2_with fail
            exact bodyPost_ret (v := .agg #[.int .i64 1, .int .i64 ((a : Int) - 5), .string ⟨#[]⟩, .slice none 0 0]) (by simp [results, Try.results25, go_sem, q0, q1, q2, q3]) rfl (st_end (unhide HS5) (by have := unhide HCP; omega) ⟨by omega, by omega⟩ ⟨by omega, by omega⟩ (by decide) (rows_nil _) (by simp))
      · rcases hcase with rfl | rfl | rfl
        all_goals
          go_wp2_with fail
          refine (datom_any g L (N + 2) v w1 (unhide HS1).cur (by have := unhide HN; omega)).mono ?_
          rintro e w2 ⟨⟨s, rfl, hs⟩, hc2, hk2⟩
          have HS2 := hide ((unhide HS1).go hk2 hc2)
          clear hc2 hk2
          go_wp2_with fail
          refine (mk_atom s w2).mono ?_
          rintro e w5 ⟨rfl, hb5⟩
          have HS5 := hide ((unhide HS2).below hb5)
          obtain ⟨y0, y1, y2, y3, q0, q1, q2, q3, z0, z1, z2, z3⟩ := (unhide HS5).cells
          clear hb5
          go_wp2_with fail
          exact bodyPost_ret (v := .agg #[.int .i64 2, .int .i64 0, .string s, .slice none 0 0]) (by simp [results, Try.results25, go_sem, q0, q1, q2, q3]) rfl (st_end (unhide HS5) (by have := unhide HCP; omega) ⟨by omega, by omega⟩ ⟨by omega, by omega⟩ (by omega) (rows_nil _) (by simp))
      · go_wp2_with fail
        have hS1 := (unhide HS1).drew
        have HSd := hide hS1
        have hgl := (unhide HS1).lt
        have hgl' : g < w1.drew.heap.size := hgl
        have HGL := hide hgl'
        have hlit : ∀ a : Nat, (a : Int) < 2 → ∃ n : Int, (#[.int .i64 3, .int .i64 5] : Array Value)[a]? = some (.int .i64 n) ∧ In64 n := fun a ha => by
          rcases (show a = 0 ∨ a = 1 by omega) with rfl | rfl
          · exact ⟨3, rfl, by unfold In64; omega⟩
          · exact ⟨5, rfl, by unfold In64; omega⟩
        have HLIT := hide hlit
        clear hS1 hgl' hlit
        go_region_with (first
          | (go_at_call 27; have hprobe := HS2; clear hprobe; refine (st_pick (M := N + 2 + 2) (g := g) (L := L) (v := v) (w := w) (by first | with_reducible exact (unhide HS2) | with_reducible exact (unhide HS2).alloc _) 9 (by have := unhide HN; omega) (by omega) (by omega)).mono ?_; rintro e w3 ⟨⟨b, rfl, hb⟩, hs3, hk3⟩; have hb : (b : Int) < 9 := (by omega); (first | (have hn4 := (hk3.cell (b := w1.heap.size) (o := a) (World.block_lt_of_cell? _ _ hn3) (by omega)).trans hn3) | (with_reducible have hl4 := lit_block (unhide HS2).lt hk3 a; have hn4 := hl4.trans hn1) | skip); obtain ⟨y0, y1, y2, y3, q0, q1, q2, q3, z0, z1, z2, z3⟩ := hs3.cells; have hlt3 : w.heap.size < w3.heap.size := hs3.room; have HS3 := hide hs3; clear hs3 hk3)
          | (go_at_call 27; refine (st_pick (M := N + 2) (g := g) (L := L) (v := v) (w := w) (by first | with_reducible exact ((unhide HS1).alloc _).drew | with_reducible exact (unhide HS1).drew) 2 (by have := unhide HN; omega) (by omega) (by omega)).mono ?_; rintro e w2 ⟨⟨a, rfl, ha⟩, hs2, hk2⟩; have ha : (a : Int) < 2 := (by omega); obtain ⟨n, hn1, hn2⟩ := unhide HLIT a ha; (first | (with_reducible have hl3 := lit_drew hgl hk2 a; have hn3 := hl3.trans hn1) | skip); have HN2 := hide hn2; have HS2 := hide hs2; clear hs2 hk2 hn2))
        all_goals
          go_wp2_with fail
          first
            | (have hprobe := hn4; clear hprobe; exact bodyPost_ret (v := .agg #[.int .i64 n, .int .i64 b, .string ⟨#[]⟩, .slice none 0 0]) (by simp [results, Try.results25, go_sem, q0, q1, q2, q3]) rfl (st_end (unhide HS3) (by have := unhide HCP; omega) (unhide HN2) ⟨by omega, by omega⟩ (by decide) (rows_nil _) (by simp)))
            | (exact bodyPost_ret (v := .agg #[.int .i64 n, .int .i64 b, .string ⟨#[]⟩, .slice none 0 0]) (by simp [results, Try.results25, go_sem, q0, q1, q2, q3, hlt3]) rfl ((st_end (unhide HS3) (by have := unhide HCP; omega) (unhide HN2) ⟨by omega, by omega⟩ (by decide) (rows_nil _) (by simp)).alloc _))
      · go_wp2_with fail
        refine (st_pick ((unhide HS1).alloc _) 5 (by have := unhide HN; omega) (by omega) (by omega)).mono ?_
        rintro e w4 ⟨⟨c, rfl, hc⟩, hs4, hk4⟩
        have hc : (c : Int) < 5 := by omega
        obtain ⟨s, hn1, hn2⟩ := lit_str (r := c) (unhide HS1).lt hk4 rfl (by show c < 5; omega)
        have HS4 := hide hs4
        have HN2 := hide hn2
        clear hs4 hk4 hn2
        go_wp2_with fail
        refine (mk_bin s w4).mono ?_
        rintro e w5 ⟨rfl, hb5⟩
        have HS5 := hide ((unhide HS4).below hb5)
        obtain ⟨y0, y1, y2, y3, q0, q1, q2, q3, z0, z1, z2, z3⟩ := (unhide HS5).cells
        clear hb5
        go_wp2_with fail
        exact bodyPost_ret (v := .agg #[.int .i64 9, .int .i64 0, .string s, .slice none 0 0]) (by simp [results, Try.results25, go_sem, q0, q1, q2, q3]) rfl (st_end (unhide HS5) (by have := unhide HCP; omega) ⟨by omega, by omega⟩ ⟨by omega, by omega⟩ (by have := unhide HN2; omega) (rows_nil _) (by simp))
      · first | (exact absurd hd0 (by have := unhide HK7; omega)) | skip
        all_goals
        obtain ⟨D', rfl⟩ : ∃ D', D = D' + 1 := ⟨D - 1, by have := unhide HD; have := unhide HK7; omega⟩
        have IH := hide ((unhide HH) D' rfl (d - 1))
        have hce := hide (show cost (D' + 1) = 20 + 6 * cost D' from rfl)
        go_wp2_with fail
        refine (st_pick ((unhide HS1).alloc _) 4 (by have := unhide HN; omega) (by omega) (by omega)).mono ?_
        rintro e w2 ⟨⟨a, rfl, ha⟩, hs2, hk2⟩
        have ha : a ≤ 3 := by omega
        have hX0 : RowsX (w.heap.size + 1) w2 ([] : List (Tm (D' + 1))) (.slice (some ⟨w1.heap.size, 0, none⟩) 0 0) [] :=
          RowsX.kept (w := w1.alloc (.cells #[] 26)) ⟨World.ownsRow_lit (base := w.heap.size + 1) w1 #[] 0 (unhide HS1).room (by unfold maxLen; omega) (by simp), CellsAt.nil⟩ hk2 (by omega)
        have HS2 := hide hs2
        have HX0 := hide hX0
        clear hs2 hk2 hX0
        go_wp2_with fail
        go_loopw [7, 8] (fun kv iv wr => ∃ (i : Nat) (ls : List (Tm (D' + 1))) (xs : List Value) (M q : Nat), i ≤ 3 ∧ iv = .int .i64 i ∧ ls.length = 2 * q ∧ q + i ≤ 3 ∧ M + i * (2 * cost D') ≤ N + 4 + 6 * cost D' ∧ RowsX (w.heap.size + 1) wr ls kv xs ∧ St g L v M w wr) (fun _ iv _ => (intOf iv).toNat)
        case atStart => exact ⟨a, [], [], N + 2 + 2, 0, ha, rfl, rfl, by omega, by have := Nat.mul_le_mul_right (2 * cost D') ha; omega, unhide HX0, unhide HS2⟩
        case round =>
          obtain ⟨i, ls, xs, M, q, hi, rfl, hlen, hqi, hM, hX, hS⟩ := hrel
          have HX := hide hX
          have HS := hide hS
          have HM := hide hM
          have HL := hide hlen
          clear hX hS hM hlen
          cases i with
          | zero =>
            obtain ⟨ka, kc, rfl⟩ : ∃ ka kc, u7 = .slice ka ls.length kc := by
              have := own_place (unhide HX).1
              rcases this with ⟨h1, h2⟩ | ⟨G, cap, h1, _⟩
              · exact ⟨none, 0, by rw [h1, h2]⟩
              · exact ⟨_, cap, h1⟩
            obtain ⟨y0, y1, y2, y3, q0, q1, q2, q3, z0, z1, z2, z3⟩ := (unhide HS).cells
            go_wp2_with fail
            exact bodyPost_ret (v := .agg #[.int .i64 7, .int .i64 0, .string ⟨#[]⟩, .slice ka ls.length kc]) (by simp [results, Try.results25, go_sem, q0, q1, q2, q3]) rfl (st_end (unhide HS) (by have := unhide hce; have := unhide HM; omega) ⟨by omega, by omega⟩ ⟨by omega, by omega⟩ (by decide) (unhide HX) (by have := unhide HL; omega))
          | succ i =>
            have hmul := hide (show (i + 1) * (2 * cost D') = i * (2 * cost D') + 2 * cost D' from Nat.succ_mul i (2 * cost D'))
            have hpos : (0 : Int) < ((i + 1 : Nat) : Int) := by omega
            have hqb : ((i + 1 : Nat) : Int) ≤ 3 := by omega
            obtain ⟨qq, hq⟩ : ∃ qq : Int, qq = ((i + 1 : Nat) : Int) := ⟨_, rfl⟩
            rw [← hq] at hpos hqb ⊢
            have HQ := hide hq
            clear hq
            go_wp2_with fail
            refine ((unhide IH) g L v M wr (by have := unhide HD; omega) (unhide HS).cur (by have := unhide HN; have := unhide hce; have := unhide HM; have := unhide hmul; omega)).mono ?_
            rintro e w3 hde
            obtain ⟨t, tk, tm, ts, ta, tl, tc, rfl, ht, hc3, hk3⟩ := hde.opened
            have hS3 := (unhide HS).go hk3 hc3
            have hX3 := (unhide HX).kept hk3 (by omega)
            have hroom := (unhide HS).room
            have hT3 : TAt (From (w.heap.size + 1) w3) w3 (D' + 1) t (.int .i64 tk) (.int .i64 tm) (.string ts) (.slice ta tl tc) := ht.mono fun b hb => ⟨by have := hb.1; omega, hb.2⟩
            have HX3 := hide hX3
            have HS3 := hide hS3
            have HT3 := hide hT3
            clear hde ht hc3 hk3 hX3 hT3 hS3 hroom
            go_wp2_with fail
            have hSd := ((unhide HS3).alloc (.cells #[.int .i64 tk, .int .i64 tm, .string ts, .slice ta tl tc] 26)).drew
            have hcall := (unhide IH) g L v (M + cost D') _ (by have := unhide HD; omega) hSd.cur (by have := unhide HN; have := unhide hce; have := unhide HM; have := unhide hmul; omega)
            have HSd := hide hSd
            have HCA := hide hcall
            have hbox : ∀ w5, Kept g (w3.alloc (.cells #[.int .i64 tk, .int .i64 tm, .string ts, .slice ta tl tc] 26)).drew w5 → w5.cell? ⟨w3.heap.size, 0, none⟩ = some (.int .i64 tk) ∧ w5.cell? ⟨w3.heap.size, 1, none⟩ = some (.int .i64 tm) ∧ w5.cell? ⟨w3.heap.size, 2, none⟩ = some (.string ts) ∧ w5.cell? ⟨w3.heap.size, 3, none⟩ = some (.slice ta tl tc) := fun w5 hk => by
              have hh := (hk.block w3.heap.size (by simp) (by have := (unhide HS3).lt; omega)).trans (heap_new w3 _)
              exact ⟨cell_of_heap hh 0, cell_of_heap hh 1, cell_of_heap hh 2, cell_of_heap hh 3⟩
            have HBOX := hide hbox
            have hkd : Kept g w3 (w3.alloc (.cells #[.int .i64 tk, .int .i64 tm, .string ts, .slice ta tl tc] 26)).drew := ((Kept.refl g w3).alloc _).drew
            have HKD := hide hkd
            have w0 : IntKind.i64.wrap (d - 1) = d - 1 := by rw [IntKind.wrap_i64]; omega
            clear hSd hcall hbox hkd
            go_region_with (first
              | (go_at_call 25; refine (unhide HCA).mono ?_; rintro e w5 hde; obtain ⟨t', uk, um, us, ua, ul, uc, rfl, ht', hc5, hk5⟩ := hde.opened; have HS5 := hide ((unhide HSd).go hk5 hc5); have HX5 := hide ((unhide HX3).kept ((unhide HKD).trans hk5) (by omega)); have hkk := (unhide HKD).trans hk5; have HT5 := hide (((unhide HT3).keep fun b hb => hkk.block b hb.2 (by have := hb.1; omega)).mono fun b hb => (⟨hb.1, Nat.lt_of_lt_of_le hb.2 hkk.size⟩ : From (w.heap.size + 1) w5 b)); have HT5' := hide (ht'.mono fun b hb => (⟨by have := hb.1; have := (unhide HSd).room; omega, hb.2⟩ : From (w.heap.size + 1) w5 b)); obtain ⟨j0, j1, j2, j3⟩ := unhide HBOX w5 hk5; clear hde ht' hc5 hk5 hkk)
              | (go_at_call 50; refine (with_any (w.heap.size + 1) ls q (unhide HL) (by omega) u7 t t' _ _ _ _ _ _ _ _ w5 ((unhide HX5).sat (by have := unhide HL; omega)) (unhide HT5) (unhide HT5') (unhide HS5).room).mono ?_; rintro e w6 ⟨⟨q6, ls6, v6, xs6, rfl, hl6, hq6, hX6⟩, hb6⟩; have HS6 := hide ((unhide HS5).below hb6); have HX6 := hide hX6; have HL6 := hide hl6; clear hX6 hb6 hl6))
            all_goals
              go_wp2_with fail
              go_roundw
              case rel => exact ⟨i, ls6, xs6, M + cost D' + cost D', q6, by omega, by have := unhide HQ; congr 1; omega, unhide HL6, by omega, by have := unhide HM; have := unhide hmul; omega, unhide HX6, unhide HS6⟩
              case measure => have := unhide HQ; simp [intOf]; omega
      · first | (exact absurd hd0 (by have := unhide HK7; omega)) | skip
        all_goals
        obtain ⟨D', rfl⟩ : ∃ D', D = D' + 1 := ⟨D - 1, by have := unhide HD; have := unhide HK7; omega⟩
        obtain ⟨g8, g12, g13⟩ := hcase
        have b0 : (kk == 0) = false := by simp; omega
        have b1 : (kk == 1) = false := by simp; omega
        have b2 : (kk == 2) = false := by simp; omega
        have b3 : (kk == 3) = false := by simp; omega
        have b4 : (kk == 4) = false := by simp; omega
        have b5 : (kk == 5) = false := by simp; omega
        have b6 : (kk == 6) = false := by simp; omega
        have b7 : (kk == 7) = false := by simp; omega
        have b12 : (kk == 12) = false := by simp; omega
        have IH := hide ((unhide HH) D' rfl (d - 1))
        have hce := hide (show cost (D' + 1) = 20 + 6 * cost D' from rfl)
        go_wp2_with fail
        refine (st_pick ((unhide HS1).alloc _) 4 (by have := unhide HN; omega) (by omega) (by omega)).mono ?_
        rintro e w2 ⟨⟨a, rfl, ha⟩, hs2, hk2⟩
        have ha : a ≤ 3 := by omega
        have hX0 : RowsX (w.heap.size + 1) w2 ([] : List (Tm (D' + 1))) (.slice (some ⟨w1.heap.size, 0, none⟩) 0 0) [] :=
          RowsX.kept (w := w1.alloc (.cells #[] 26)) ⟨World.ownsRow_lit (base := w.heap.size + 1) w1 #[] 0 (unhide HS1).room (by unfold maxLen; omega) (by simp), CellsAt.nil⟩ hk2 (by omega)
        have HS2 := hide hs2
        have HX0 := hide hX0
        clear hs2 hk2 hX0
        go_wp2_with fail
        go_loopw [10, 11] (fun kv iv wr => ∃ (i : Nat) (ls : List (Tm (D' + 1))) (xs : List Value) (M : Nat), i ≤ 3 ∧ iv = .int .i64 i ∧ ls.length + i ≤ 3 ∧ M + i * cost D' ≤ N + 4 + 3 * cost D' ∧ RowsX (w.heap.size + 1) wr ls kv xs ∧ St g L v M w wr) (fun _ iv _ => (intOf iv).toNat)
        case atStart => exact ⟨a, [], [], N + 2 + 2, ha, rfl, by simp; omega, by have := Nat.mul_le_mul_right (cost D') ha; omega, unhide HX0, unhide HS2⟩
        case round =>
          obtain ⟨i, ls, xs, M, hi, rfl, hlen, hM, hX, hS⟩ := hrel
          have HX := hide hX
          have HS := hide hS
          have HM := hide hM
          clear hX hS hM
          cases i with
          | zero =>
            obtain ⟨ka, kc, rfl⟩ : ∃ ka kc, u10 = .slice ka ls.length kc := by
              have := own_place (unhide HX).1
              rcases this with ⟨h1, h2⟩ | ⟨G, cap, h1, _⟩
              · exact ⟨none, 0, by rw [h1, h2]⟩
              · exact ⟨_, cap, h1⟩
            rcases (show kk = 13 ∨ (kk = 8 ∨ kk = 9) ∨ (kk = 10 ∨ kk = 11) by omega) with rfl | hk | hk
            · go_wp2_with fail
              refine (st_pick (unhide HS) 5 (by have := unhide HN; have := unhide hce; have := unhide HM; omega) (by omega) (by omega)).mono ?_
              rintro e w3 ⟨⟨f, rfl, hf⟩, hs3, hk3⟩
              have hf : (f : Int) < 5 := by omega
              have HX3 := hide ((unhide HX).kept hk3 (by omega))
              have HS5 := hide hs3
              obtain ⟨y0, y1, y2, y3, q0, q1, q2, q3, z0, z1, z2, z3⟩ := (unhide HS5).cells
              clear hs3 hk3
              go_wp2_with fail
              exact bodyPost_ret (v := .agg #[.int .i64 4, .int .i64 f, .string ⟨#[]⟩, .slice ka ls.length kc]) (by simp [results, Try.results25, go_sem, q0, q1, q2, q3]) rfl (st_end (unhide HS5) (by have := unhide hce; have := unhide HM; omega) ⟨by omega, by omega⟩ ⟨by omega, by omega⟩ (by decide) (unhide HX3) (by omega))
            · rcases hk with rfl | rfl
              all_goals
                go_wp2_with fail
                refine (mk_tuple ka ls.length kc wr).mono ?_
                rintro e w5 ⟨rfl, hb5⟩
                have HS5 := hide ((unhide HS).below hb5)
                have HX3 := hide ((unhide HX).up hb5)
                obtain ⟨y0, y1, y2, y3, q0, q1, q2, q3, z0, z1, z2, z3⟩ := (unhide HS5).cells
                clear hb5
                go_wp2_with fail
                exact bodyPost_ret (v := .agg #[.int .i64 6, .int .i64 0, .string ⟨#[]⟩, .slice ka ls.length kc]) (by simp [results, Try.results25, go_sem, q0, q1, q2, q3]) rfl (st_end (unhide HS5) (by have := unhide hce; have := unhide HM; omega) ⟨by omega, by omega⟩ ⟨by omega, by omega⟩ (by decide) (unhide HX3) (by omega))
            · rcases hk with rfl | rfl
              all_goals
                go_wp2_with fail
                refine (mk_list ka ls.length kc wr).mono ?_
                rintro e w5 ⟨rfl, hb5⟩
                have HS5 := hide ((unhide HS).below hb5)
                have HX3 := hide ((unhide HX).up hb5)
                obtain ⟨y0, y1, y2, y3, q0, q1, q2, q3, z0, z1, z2, z3⟩ := (unhide HS5).cells
                clear hb5
                go_wp2_with fail
                exact bodyPost_ret (v := .agg #[.int .i64 8, .int .i64 0, .string ⟨#[]⟩, .slice ka ls.length kc]) (by simp [results, Try.results25, go_sem, q0, q1, q2, q3]) rfl (st_end (unhide HS5) (by have := unhide hce; have := unhide HM; omega) ⟨by omega, by omega⟩ ⟨by omega, by omega⟩ (by decide) (unhide HX3) (by omega))
          | succ i =>
            have hmul := hide (show (i + 1) * cost D' = i * cost D' + cost D' from Nat.succ_mul i (cost D'))
            have hpos : (0 : Int) < ((i + 1 : Nat) : Int) := by omega
            have hqb : ((i + 1 : Nat) : Int) ≤ 3 := by omega
            obtain ⟨q, hq⟩ : ∃ q : Int, q = ((i + 1 : Nat) : Int) := ⟨_, rfl⟩
            rw [← hq] at hpos hqb ⊢
            have HQ := hide hq
            clear hq
            go_wp2_with fail
            refine ((unhide IH) g L v M wr (by have := unhide HD; omega) (unhide HS).cur (by have := unhide HN; have := unhide hce; have := unhide HM; have := unhide hmul; omega)).mono ?_
            rintro e w3 hde
            obtain ⟨t, tk, tm, ts, ta, tl, tc, rfl, ht, hc3, hk3⟩ := hde.opened
            have hS3 := (unhide HS).go hk3 hc3
            have hX3 := (unhide HX).kept hk3 (by omega)
            obtain ⟨R, cp, w4, hr4, hX4, hB4⟩ := row_push hX3 (by omega) ht (fun b hb => ⟨by have := (unhide HS).room; have := hb.1; omega, hb.2, fun e => by have := ((unhide HX).1.lt b e).2; have := hb.1; omega⟩) (wz := w3.alloc _) ⟨rfl, rfl, rfl, rfl⟩ hS3.room 24
            have HR4 := hide hr4
            have HX4 := hide hX4
            have HS4 := hide (hS3.low hB4)
            clear hde ht hc3 hk3 hS3 hX3 hr4 hX4 hB4
            go_wp2_with (at_builtin; refine Go.Lib.wpList_append_run _ rfl (.tmp 94) (.tmp 99) 24 24 rfl _ _ rfl rfl _ _ (unhide HR4) ?_)
            go_roundw
            case rel => exact ⟨i, ls ++ [t], _, M + cost D', by omega, by have := unhide HQ; congr 1; omega, by rw [List.length_append]; simp; omega, by have := unhide HM; have := unhide hmul; omega, unhide HX4, unhide HS4⟩
            case measure => have := unhide HQ; simp [intOf]; omega

theorem draw_any : ∀ D, DrawSaid D
  | 0 => draw_of 0 fun _ h => by omega
  | D + 1 => draw_of (D + 1) fun D' h => by
    have : D' = D := by omega
    subst this; exact draw_any D'

end Go.Proofs.Ytjhdljmghhdhgaa
