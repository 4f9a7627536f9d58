/- spec's l01DrawTerm, as a function of the code. -/
import Derived.Test.YtcgbonlffcpofaaGreatDoorQ31
import Derived.Test.YtcgbonlffcpofaaGreatDoorDd3
import Derived.Test.YtcgbonlffcpofaaGreatDoorDw4h
import Derived.Deep.RegionWith
namespace Go.Proofs.YtcgbonlffcpofaaGreatDoor
open Go.RowKit Go.Deep

def ints7 : Array Value := #[.int .i64 1000000000000000, .int .i64 (-1000000000000000), .int .i64 255, .int .i64 256, .int .i64 (-1), .int .i64 65536, .int .i64 0]
def kinds2 : Array Value := #[.int .i64 3, .int .i64 5]
def bins5 : Array Value := #[.string ⟨#[]⟩, .string ⟨#[97]⟩, .string ⟨#[0, 255]⟩, .string ⟨#[97, 98, 99]⟩, .string ⟨#[1]⟩]
def leafF {D : Nat} (q : Src) (kk : Int) (σ : Sig) : Tm (D + 1) × Sig :=
  if kk ≤ 2 then
    (if (pickF q 6 (pickF q 20 σ).2).1 = 0 then ((1, intV ints7[(pickF q 7 (pickF q 6 (pickF q 20 σ).2).2).1]?, ⟨#[]⟩, []), (pickF q 7 (pickF q 6 (pickF q 20 σ).2).2).2)
      else ((1, ((pickF q 20 σ).1 : Int) - 5, ⟨#[]⟩, []), (pickF q 6 (pickF q 20 σ).2).2))
  else if kk ≤ 5 then ((2, 0, (atomF q σ).1, []), (atomF q σ).2)
  else if kk = 6 then ((intV kinds2[(pickF q 2 σ).1]?, ((pickF q 9 (pickF q 2 σ).2).1 : Int), ⟨#[]⟩, []), (pickF q 9 (pickF q 2 σ).2).2)
  else ((9, 0, strV bins5[(pickF q 5 σ).1]?, []), (pickF q 5 σ).2)
def mapF {n : Nat} (f : Sig → Tm n × Sig) : Nat → List (Tm n) × Sig → List (Tm n) × Sig
  | 0, s => s
  | i + 1, s => mapF f i (withR (f s.2).1 (f (f s.2).2).1 s.1 (s.1.length / 2), (f (f s.2).2).2)
def rowF {n : Nat} (f : Sig → Tm n × Sig) : Nat → List (Tm n) × Sig → List (Tm n) × Sig
  | 0, s => s
  | i + 1, s => rowF f i (s.1 ++ [(f s.2).1], (f s.2).2)
def nodeF {n : Nat} (q : Src) (f : Sig → Tm n × Sig) (kk : Int) (σ : Sig) : Tm (n + 1) × Sig :=
  if kk = 12 then ((7, 0, ⟨#[]⟩, (mapF f (pickF q 4 σ).1 ([], (pickF q 4 σ).2)).1), (mapF f (pickF q 4 σ).1 ([], (pickF q 4 σ).2)).2)
  else if kk = 13 then ((4, ((pickF q 5 (rowF f (pickF q 4 σ).1 ([], (pickF q 4 σ).2)).2).1 : Int), ⟨#[]⟩, (rowF f (pickF q 4 σ).1 ([], (pickF q 4 σ).2)).1), (pickF q 5 (rowF f (pickF q 4 σ).1 ([], (pickF q 4 σ).2)).2).2)
  else if kk ≤ 9 then ((6, 0, ⟨#[]⟩, (rowF f (pickF q 4 σ).1 ([], (pickF q 4 σ).2)).1), (rowF f (pickF q 4 σ).1 ([], (pickF q 4 σ).2)).2)
  else ((8, 0, ⟨#[]⟩, (rowF f (pickF q 4 σ).1 ([], (pickF q 4 σ).2)).1), (rowF f (pickF q 4 σ).1 ([], (pickF q 4 σ).2)).2)
def drawF (q : Src) : (D : Nat) → Sig → Tm (D + 1) × Sig
  | 0, σ => if (pickF q 14 σ).1 ≤ 7 then leafF q (pickF q 14 σ).1 (pickF q 14 σ).2 else leafF q (((pickF q 14 σ).1 : Int) - 7) (pickF q 14 σ).2
  | D + 1, σ => if (pickF q 14 σ).1 ≤ 7 then leafF q (pickF q 14 σ).1 (pickF q 14 σ).2 else nodeF q (drawF q D) (pickF q 14 σ).1 (pickF q 14 σ).2

section
variable {D n : Nat} {q : Src} {σ σ1 σ2 σ3 σ4 σr σa σb : Sig} {r a b c p i : Nat} {kk m : Int} {s : ByteArray} {f : Sig → Tm n × Sig} {ls : List (Tm n)} {t t' : Tm n}
theorem drawF_leaf (h : pickF q 14 σ = (r, σ1)) (h7 : r ≤ 7) : drawF q D σ = leafF q r σ1 := by
  cases D with
  | zero => unfold drawF; rw [h]; exact if_pos h7
  | succ D => unfold drawF; rw [h]; exact if_pos h7
theorem drawF_zero (h : pickF q 14 σ = (r, σ1)) (h7 : ¬ r ≤ 7) : drawF q 0 σ = leafF q ((r : Int) - 7) σ1 := by unfold drawF; rw [h]; exact if_neg h7
theorem drawF_node (h : pickF q 14 σ = (r, σ1)) (h7 : ¬ r ≤ 7) : drawF q (D + 1) σ = nodeF q (drawF q D) r σ1 := by
  show (if (pickF q 14 σ).1 ≤ 7 then leafF q (pickF q 14 σ).1 (pickF q 14 σ).2 else nodeF q (drawF q D) (pickF q 14 σ).1 (pickF q 14 σ).2) = _
  rw [h]; exact if_neg h7
theorem leaf_lit (hk : kk ≤ 2) (h2 : pickF q 20 σ = (a, σ2)) (h3 : pickF q 6 σ2 = (b, σ3)) (hb : b = 0) (h4 : pickF q 7 σ3 = (c, σ4)) (hn : intV ints7[c]? = m) : leafF (D := D) q kk σ = ((1, m, ⟨#[]⟩, []), σ4) := by
  unfold leafF
  simp only [h2, h3, h4, hb, hn, if_pos hk, if_true]
  all_goals rfl
theorem leaf_num (hk : kk ≤ 2) (h2 : pickF q 20 σ = (a, σ2)) (h3 : pickF q 6 σ2 = (b, σ3)) (hb : ¬ b = 0) : leafF (D := D) q kk σ = ((1, (a : Int) - 5, ⟨#[]⟩, []), σ3) := by
  unfold leafF
  simp only [h2, h3, hb, if_pos hk, if_false]
  all_goals rfl
theorem leaf_atom (h1 : ¬ kk ≤ 2) (h2 : kk ≤ 5) (h : atomF q σ = (s, σ2)) : leafF (D := D) q kk σ = ((2, 0, s, []), σ2) := by
  unfold leafF
  rw [if_neg h1, if_pos h2, h]
  all_goals rfl
theorem leaf_ref (h : pickF q 2 σ = (a, σ2)) (hn : (#[.int .i64 3, .int .i64 5] : Array Value)[a]? = some (.int .i64 m)) (h3 : pickF q 9 σ2 = (b, σ3)) : leafF (D := D) q 6 σ = ((m, (b : Int), ⟨#[]⟩, []), σ3) := by
  have hv : intV kinds2[a]? = m := by rw [show kinds2[a]? = some (.int .i64 m) from hn]; rfl
  unfold leafF
  rw [if_neg (by omega), if_neg (by omega), if_pos rfl, h]
  dsimp only
  rw [h3, hv]
  all_goals rfl
theorem leaf_bin (h : pickF q 5 σ = (c, σ4)) (hn : strV bins5[c]? = s) : leafF (D := D) q 7 σ = ((9, 0, s, []), σ4) := by
  unfold leafF
  rw [if_neg (by omega), if_neg (by omega), if_neg (by omega), h]
  dsimp only
  rw [hn]
  all_goals rfl
theorem map_step (h1 : f σr = (t, σa)) (h2 : f σa = (t', σb)) (hl : ls.length = 2 * p) : mapF f (i + 1) (ls, σr) = mapF f i (withR t t' ls p, σb) := by
  show mapF f i (withR (f σr).1 (f (f σr).2).1 ls (ls.length / 2), (f (f σr).2).2) = _
  rw [h1]
  dsimp only
  rw [h2, hl, Nat.mul_div_cancel_left _ (by omega)]
theorem row_step (h1 : f σr = (t, σa)) : rowF f (i + 1) (ls, σr) = rowF f i (ls ++ [t], σa) := by
  show rowF f i (ls ++ [(f σr).1], (f σr).2) = _
  rw [h1]
end
section
variable {D : Nat} {q : Src} {σ σ1 σ2 σ3 σr : Sig} {a c r : Nat} {ls : List (Tm (D + 1))}
theorem draw_map (h1 : pickF q 14 σ = (12, σ1)) (h2 : pickF q 4 σ1 = (a, σ2)) (h3 : mapF (drawF q D) 0 (ls, σr) = mapF (drawF q D) a ([], σ2)) : drawF q (D + 1) σ = ((7, 0, ⟨#[]⟩, ls), σr) := by
  rw [drawF_node h1 (by omega)]
  unfold nodeF
  rw [if_pos (by rfl), h2]
  dsimp only
  rw [← h3]
  rfl
theorem draw_fun (h1 : pickF q 14 σ = (13, σ1)) (h2 : pickF q 4 σ1 = (a, σ2)) (h3 : rowF (drawF q D) 0 (ls, σr) = rowF (drawF q D) a ([], σ2)) (h4 : pickF q 5 σr = (c, σ3)) : drawF q (D + 1) σ = ((4, (c : Int), ⟨#[]⟩, ls), σ3) := by
  have h3' : rowF (drawF q D) a ([], σ2) = (ls, σr) := h3.symm
  rw [drawF_node h1 (by omega)]
  unfold nodeF
  rw [if_neg (by omega), if_pos (by rfl), h2]
  dsimp only
  rw [h3']
  dsimp only
  rw [h4]
  all_goals rfl
theorem draw_tup (hr : r = 8 ∨ r = 9) (h1 : pickF q 14 σ = (r, σ1)) (h2 : pickF q 4 σ1 = (a, σ2)) (h3 : rowF (drawF q D) 0 (ls, σr) = rowF (drawF q D) a ([], σ2)) : drawF q (D + 1) σ = ((6, 0, ⟨#[]⟩, ls), σr) := by
  have h3' : rowF (drawF q D) a ([], σ2) = (ls, σr) := h3.symm
  rw [drawF_node h1 (by omega)]
  unfold nodeF
  rw [if_neg (by omega), if_neg (by omega), if_pos (by omega), h2]
  dsimp only
  rw [h3']
  all_goals rfl
theorem draw_lst (hr : r = 10 ∨ r = 11) (h1 : pickF q 14 σ = (r, σ1)) (h2 : pickF q 4 σ1 = (a, σ2)) (h3 : rowF (drawF q D) 0 (ls, σr) = rowF (drawF q D) a ([], σ2)) : drawF q (D + 1) σ = ((8, 0, ⟨#[]⟩, ls), σr) := by
  have h3' : rowF (drawF q D) a ([], σ2) = (ls, σr) := h3.symm
  rw [drawF_node h1 (by omega)]
  unfold nodeF
  rw [if_neg (by omega), if_neg (by omega), if_neg (by omega), h2]
  dsimp only
  rw [h3']
  all_goals rfl
end

def DrawEndD (D g : Nat) (q : Src) (v : Value) (N : Nat) (σ0 : Sig) (w : World) (e : Ending) (w' : World) : Prop :=
  ∃ (k m : Int) (s : ByteArray) (ks : List (Tm D)) (c3 : Value) (xs : List Value) (σ' : Sig), drawF q D σ0 = ((k, m, s, ks), σ') ∧ e = .returned (.agg #[.int .i64 k, .int .i64 m, .string s, c3]) ∧ In64 k ∧ In64 m ∧ s.size ≤ 2 ^ 47 ∧
    RowsX w.heap.size w' ks c3 xs ∧ ks.length ≤ 6 ∧ CurD g q v (N + cost D) σ' w' ∧ Kept g w w'
def DrawSaidD (D : Nat) : Prop := ∀ (d : Int) (g : Nat) (q : Src) (v : Value) (N : Nat) (σ0 : Sig) (w : World), d = D → CurD g q v N σ0 w → N + cost D ≤ 1000000000 →
  Calls Tryz.prog 42 #[.pointer (some ⟨g, 0, none⟩), .int .i64 d] w fun e w' => DrawEndD D g q v N σ0 w e w'

theorem drawD_end {D g N M : Nat} {q : Src} {v : Value} {σ0 σ : Sig} {w w' : World} (hg : g < w.heap.size) (hk : Kept g w w') (hc : CurD g q v M σ w') (hM : M ≤ N + cost D) {k m : Int} {s : ByteArray} {ks : List (Tm D)} {c3 : Value} {xs : List Value}
    (h1 : In64 k) (h2 : In64 m) (h3 : s.size ≤ 2 ^ 47) (hX : RowsX (w.heap.size + 1) w' ks c3 xs) (hl : ks.length ≤ 6) (hF : drawF q D σ0 = ((k, m, s, ks), σ)) :
    DrawEndD D g q v N σ0 w (.returned (.agg #[.int .i64 k, .int .i64 m, .string s, c3])) (put4 w' w.heap.size (.int .i64 k) (.int .i64 m) (.string s) c3) := by
  have hp := put4_kept w' w.heap.size (.int .i64 k) (.int .i64 m) (.string s) c3
  exact ⟨k, m, s, ks, c3, xs, σ, hF, rfl, h1, h2, h3, (hX.kept hp (by omega)).lower (by omega), hl, (hc.low fun b hb => hp.block b (by have := hc.lt; omega) (by omega)).mono hM, hk.both hp (Nat.le_refl _)⟩
/-- Under way: the cursor, what was there, the result's cells. -/
structure StD (g : Nat) (q : Src) (v : Value) (M : Nat) (σ : Sig) (w w' : World) : Prop where
  cur : CurD g q v M σ w'
  kept : Kept g w w'
  res : Res4 w.heap.size w'
  gl : g < w.heap.size
theorem StD.lt {g M : Nat} {q : Src} {v : Value} {σ : Sig} {w w' : World} (h : StD g q v M σ w w') : g < w'.heap.size := Nat.lt_of_lt_of_le h.gl h.kept.size
theorem StD.room {g M : Nat} {q : Src} {v : Value} {σ : Sig} {w w' : World} (h : StD g q v M σ w w') : w.heap.size + 1 ≤ w'.heap.size := h.res.lt
theorem StD.go {g M M' : Nat} {q : Src} {v : Value} {σ σ' : Sig} {w w1 w2 : World} (h : StD g q v M σ w w1) (hk : Kept g w1 w2) (hc : CurD g q v M' σ' w2) : StD g q v M' σ' w w2 :=
  ⟨hc, h.kept.trans hk, h.res.keep (hk.block _ h.room (by have := h.gl; omega)), h.gl⟩
theorem StD.below {g M : Nat} {q : Src} {v : Value} {σ : Sig} {w w1 w2 : World} (h : StD g q v M σ w w1) (hb : Below w1.heap.size w1 w2) : StD g q v M σ w w2 := h.go (Kept.below hb) (h.cur.below hb)
theorem StD.alloc {g M : Nat} {q : Src} {v : Value} {σ : Sig} {w w1 : World} (h : StD g q v M σ w w1) (o : Obj) : StD g q v M σ w (w1.alloc o) := h.below ((Below.refl _ _).alloc (Nat.le_refl _) _)
theorem StD.drew {g M : Nat} {q : Src} {v : Value} {σ : Sig} {w w1 : World} (h : StD g q v M σ w w1) : StD g q v M σ w w1.drew := h.below (Below.refl _ _).drew
theorem StD.cells {g M : Nat} {q : Src} {v : Value} {σ : Sig} {w w1 : World} (h : StD g q v M σ w w1) : ∃ y0 y1 y2 y3, w1.cell? ⟨w.heap.size, 0, none⟩ = some y0 ∧ w1.cell? ⟨w.heap.size, 1, none⟩ = some y1 ∧ w1.cell? ⟨w.heap.size, 2, none⟩ = some y2 ∧ w1.cell? ⟨w.heap.size, 3, none⟩ = some y3 ∧
    w1.frozen? ⟨w.heap.size, 0, none⟩ = false ∧ w1.frozen? ⟨w.heap.size, 1, none⟩ = false ∧ w1.frozen? ⟨w.heap.size, 2, none⟩ = false ∧ w1.frozen? ⟨w.heap.size, 3, none⟩ = false := res_cells h.res
/-- A step that turns nothing up to the result's cells. -/
theorem StD.low {g M : Nat} {q : Src} {v : Value} {σ : Sig} {w w1 w2 : World} (h : StD g q v M σ w w1) (hb : Below (w.heap.size + 1) w1 w2) : StD g q v M σ w w2 :=
  ⟨h.cur.low fun b hb' => hb.block b (by have := h.gl; omega), ⟨hb.os.trans h.kept.os, hb.tape.trans h.kept.tape, hb.output.trans h.kept.output, Nat.le_trans h.kept.size hb.size, fun k hk hn => (hb.block k (by omega)).trans (h.kept.block k hk hn)⟩,
    h.res.keep (hb.block _ (by omega)), h.gl⟩
theorem stD_pick {g M : Nat} {q : Src} {v : Value} {σ : Sig} {w w1 : World} (h : StD g q v M σ w w1) (n : Int) (hM : M ≤ 1000000000000) (hn0 : -1000000 ≤ n) (hn : n ≤ 256) :
    Calls Tryz.prog 27 #[.pointer (some ⟨g, 0, none⟩), .int .i64 n] w1 fun e w' => ∃ (r : Nat) (σ' : Sig), pickF q n σ = (r, σ') ∧ e = .returned (.int .i64 r) ∧ ((r : Int) < n ∨ (r = 0 ∧ n ≤ 1)) ∧ StD g q v (M + 2) σ' w w' ∧ Kept g w1 w' :=
  (dpickD_any g M q v σ n w1 h.cur hM hn0 hn).mono fun _ _ ⟨r, σ', hp, h1, h2, h3, h4⟩ => ⟨r, σ', hp, h1, h2, h.go h4 h3, h4⟩
theorem stD_end {D g N M : Nat} {q : Src} {v : Value} {σ0 σ : Sig} {w w' : World} (h : StD g q v M σ w w') (hM : M ≤ N + cost D) {k m : Int} {s : ByteArray} {ks : List (Tm D)} {c3 : Value} {xs : List Value}
    (h1 : In64 k) (h2 : In64 m) (h3 : s.size ≤ 2 ^ 47) (hX : RowsX (w.heap.size + 1) w' ks c3 xs) (hl : ks.length ≤ 6) (hF : drawF q D σ0 = ((k, m, s, ks), σ)) :
    DrawEndD D g q v N σ0 w (.returned (.agg #[.int .i64 k, .int .i64 m, .string s, c3])) (put4 w' w.heap.size (.int .i64 k) (.int .i64 m) (.string s) c3) :=
  drawD_end h.gl h.kept h.cur hM h1 h2 h3 hX hl hF

theorem DrawEndD.alloc {D g : Nat} {q : Src} {v : Value} {N : Nat} {σ0 : Sig} {w : World} {e : Ending} {w' : World} (h : DrawEndD D g q v N σ0 w e w') (o : Obj) : DrawEndD D g q v N σ0 w e (w'.alloc o) := by
  obtain ⟨k, m, s, ks, c3, xs, σ', hF, he, h1, h2, h3, hX, hl, hc, hk⟩ := h
  exact ⟨k, m, s, ks, c3, xs, σ', hF, he, h1, h2, h3, hX.up ((Below.refl _ _).alloc (Nat.le_refl _) o), hl, hc.alloc o, hk.alloc o⟩
theorem DrawEndD.opened {D g : Nat} {q : Src} {v : Value} {N : Nat} {σ0 : Sig} {w : World} {e : Ending} {w' : World} (h : DrawEndD D g q v N σ0 w e w') : ∃ (t : Tm (D + 1)) (k m : Int) (s : ByteArray) (a : Option Addr) (l c : Nat) (σ' : Sig), drawF q D σ0 = (t, σ') ∧
    e = .returned (.agg #[.int .i64 k, .int .i64 m, .string s, .slice a l c]) ∧ TAt (From w.heap.size w') w' (D + 1) t (.int .i64 k) (.int .i64 m) (.string s) (.slice a l c) ∧ CurD g q v (N + cost D) σ' w' ∧ Kept g w w' := by
  obtain ⟨k, m, s, ks, c3, xs, σ', hF, he, h1, h2, h3, hX, hl, hc, hk⟩ := h
  have hs := hX.sat (by omega)
  obtain ⟨a, cap, rfl, _⟩ := id hs
  exact ⟨(k, m, s, ks), k, m, s, a, ks.length, cap, σ', hF, he, ⟨rfl, rfl, rfl, h1, h2, h3, hs⟩, hc, hk⟩

set_option maxRecDepth 100000 in
set_option maxHeartbeats 4000000 in
theorem drawD_of (D : Nat) (h : ∀ D', D = D' + 1 → DrawSaidD D') : DrawSaidD D := by
  intro d g q v N σ w hd hc hN
  have hg := hc.lt
  have hcp := cost_pos D
  have hdb : d ≤ 1000000000 := by have := cost_ge D; omega
  obtain ⟨w0, hw0⟩ : ∃ w0, w0 = w.alloc (.cells #[.int .i64 0, .int .i64 0, .string ⟨#[]⟩, .slice none 0 0] 32) := ⟨_, rfl⟩
  have hr0 : Res4 w.heap.size w0 := by rw [hw0]; exact ⟨_, _, _, _, heap_new _ _⟩
  have hk0 : Kept g w w0 := by rw [hw0]; exact (Kept.refl g w).alloc _
  have hc0 : CurD g q v N σ w0 := by rw [hw0]; exact hc.alloc _
  have hs0 : w0.heap.size = w.heap.size + 1 := by rw [hw0]; simp
  have HW0 := hide hw0
  have HS0 := hide (show StD g q v N σ w w0 from ⟨hc0, hk0, hr0, hg⟩)
  have HD := hide hd
  have HCP := hide hcp
  have HN := hide hN
  have hp := hide (stD_pick (unhide HS0) 14 (by omega) (by omega) (by omega))
  clear hc hr0 hk0 hc0 hd hcp hN
  go_enter Tryz.func42, Tryz.ntmps42
  go_wp2_with fail
  rw [← unhide HW0]
  clear hw0
  refine (unhide hp).mono ?_
  rintro e w1 ⟨r, σ1, hp1, rfl, hr, hs1, -⟩
  have hr : (r : Int) < 14 := by omega
  have HS1 := hide hs1
  have HP1 := hide hp1
  clear hs1 hp1
  rcases (show d ≤ 0 ∨ 0 < d by omega) with hd0 | hd0
  all_goals
    go_upto_if 19 with fail
    go_cut [5] (fun s wc => ∃ kk : Int, s = .int .i64 kk ∧ 0 ≤ kk ∧ kk ≤ 13 ∧ (kk ≤ 7 ∨ 0 < d) ∧ (kk ≤ 7 → drawF q D σ = leafF q kk σ1) ∧ (7 < kk → pickF q 14 σ = (kk.toNat, σ1)) ∧ wc = w1)
    case first =>
      rcases (show (r : Int) ≤ 7 ∨ (7 : Int) < r by omega) with h7 | h7
      all_goals
        go_wp2_with fail
        go_meet
        case rel => first | exact ⟨r, rfl, by omega, by omega, .inl h7, fun _ => drawF_leaf (unhide HP1) (by omega), fun h => absurd h7 (by omega), rfl⟩ | exact ⟨r, rfl, by omega, by omega, .inr hd0, fun h => absurd h (by omega), fun _ => unhide HP1, rfl⟩ | exact ⟨r - 7, rfl, by omega, by omega, .inl (by omega), fun _ => by
              obtain rfl : D = 0 := by have := unhide HD; omega
              exact drawF_zero (unhide HP1) (by omega), fun h => absurd h (by omega), rfl⟩
    case rest =>
      obtain ⟨kk, rfl, hk0, hk13, hk7, hK1, hK2, rfl⟩ := hcut
      rename World => w1
      have hcase : (kk = 0 ∨ kk = 1 ∨ kk = 2) ∨ (kk = 3 ∨ kk = 4 ∨ kk = 5) ∨ kk = 6 ∨ kk = 7 ∨ kk = 12 ∨ (8 ≤ kk ∧ kk ≠ 12 ∧ kk ≤ 13) := by omega
      have HK7 := hide hk7
      have HK1 := hide hK1
      have HK2 := hide hK2
      have HH := hide h
      clear hk0 hk13 hk7 hK1 hK2 hr h
      rcases hcase with hcase | hcase | rfl | rfl | rfl | hcase
      · rcases hcase with rfl | rfl | rfl
        all_goals
          go_wp2_with fail
          refine (stD_pick (unhide HS1) 20 (by have := unhide HN; omega) (by omega) (by omega)).mono ?_
          rintro e w2 ⟨a, σ2, hp2, rfl, ha, hs2, -⟩
          have HP2 := hide hp2
          clear hp2
          have ha : (a : Int) < 20 := by omega
          have HS2 := hide hs2
          clear hs2
          go_wp2_with fail
          refine (stD_pick (unhide HS2) 6 (by have := unhide HN; omega) (by omega) (by omega)).mono ?_
          rintro e w3 ⟨b, σ3, hp3, rfl, hb, hs3, -⟩
          have HS3 := hide hs3
          have HP3 := hide hp3
          clear hs3 hb hp3
          rcases Nat.eq_zero_or_pos b with hb0 | hb0
          · have hb0' : ((b : Int) == 0) = true := by simp [hb0]
            have HB0 := hide hb0
            clear hb0
            go_wp2_with fail
            refine (stD_pick ((unhide HS3).alloc _) 7 (by have := unhide HN; omega) (by omega) (by omega)).mono ?_
            rintro e w4 ⟨c, σ4, hp4, rfl, hc, hs4, hk4⟩
            have hc : (c : Int) < 7 := by omega
            obtain ⟨n, hnv, hn1, hn2⟩ := lit_intD (r := c) (unhide HS3).lt hk4 rfl (by show c < 7; omega)
            have HS4 := hide hs4
            have HN2 := hide hn2
            have HF := hide (((unhide HK1) (by omega)).trans (leaf_lit (D := D) (by omega) (unhide HP2) (unhide HP3) (unhide HB0) hp4 hnv))
            clear hs4 hk4 hn2 hp4 hnv
            go_wp2_with fail
            refine (mk_int n w4).mono ?_
            rintro e w5 ⟨rfl, hb5⟩
            have HS5 := hide ((unhide HS4).below hb5)
            obtain ⟨y0, y1, y2, y3, q0, q1, q2, q3, z0, z1, z2, z3⟩ := (unhide HS5).cells
            clear hb5
            go_wp2_with fail
            exact bodyPost_ret (v := .agg #[.int .i64 1, .int .i64 n, .string ⟨#[]⟩, .slice none 0 0]) (by simp [results, Tryz.results42, go_sem, q0, q1, q2, q3]) rfl (stD_end (unhide HS5) (by have := unhide HCP; omega) ⟨by omega, by omega⟩ (unhide HN2) (by decide) (rows_nil _) (by simp) (unhide HF))
          · have hb0' : ((b : Int) == 0) = false := by simp; omega
            have HF := hide (((unhide HK1) (by omega)).trans (leaf_num (D := D) (by omega) (unhide HP2) (unhide HP3) (by omega)))
            clear hb0
            go_wp2_with fail
            refine (mk_int ((a : Int) - 5) w3).mono ?_
            rintro e w5 ⟨rfl, hb5⟩
            have HS5 := hide ((unhide HS3).below hb5)
            obtain ⟨y0, y1, y2, y3, q0, q1, q2, q3, z0, z1, z2, z3⟩ := (unhide HS5).cells
            clear hb5
            go_wp2_with fail
            exact bodyPost_ret (v := .agg #[.int .i64 1, .int .i64 ((a : Int) - 5), .string ⟨#[]⟩, .slice none 0 0]) (by simp [results, Tryz.results42, go_sem, q0, q1, q2, q3]) rfl (stD_end (unhide HS5) (by have := unhide HCP; omega) ⟨by omega, by omega⟩ ⟨by omega, by omega⟩ (by decide) (rows_nil _) (by simp) (unhide HF))
      · rcases hcase with rfl | rfl | rfl
        all_goals
          go_wp2_with fail
          refine (datomD_any g (N + 2) q v σ1 w1 (unhide HS1).cur (by have := unhide HN; omega)).mono ?_
          rintro e w2 ⟨s, σ2, ha2, rfl, hs, hc2, hk2⟩
          have HF := hide (((unhide HK1) (by omega)).trans (leaf_atom (D := D) (by omega) (by omega) ha2))
          clear ha2
          have HS2 := hide ((unhide HS1).go hk2 hc2)
          clear hc2 hk2
          go_wp2_with fail
          refine (mk_atom s w2).mono ?_
          rintro e w5 ⟨rfl, hb5⟩
          have HS5 := hide ((unhide HS2).below hb5)
          obtain ⟨y0, y1, y2, y3, q0, q1, q2, q3, z0, z1, z2, z3⟩ := (unhide HS5).cells
          clear hb5
          go_wp2_with fail
          exact bodyPost_ret (v := .agg #[.int .i64 2, .int .i64 0, .string s, .slice none 0 0]) (by simp [results, Tryz.results42, go_sem, q0, q1, q2, q3]) rfl (stD_end (unhide HS5) (by have := unhide HCP; omega) ⟨by omega, by omega⟩ ⟨by omega, by omega⟩ (by omega) (rows_nil _) (by simp) (unhide HF))
      · go_wp2_with fail
        have hS1 := (unhide HS1).drew
        have HSd := hide hS1
        have hgl := (unhide HS1).lt
        have hgl' : g < w1.drew.heap.size := hgl
        have HGL := hide hgl'
        have hlit : ∀ a : Nat, (a : Int) < 2 → ∃ n : Int, (#[.int .i64 3, .int .i64 5] : Array Value)[a]? = some (.int .i64 n) ∧ In64 n := fun a ha => by
          rcases (show a = 0 ∨ a = 1 by omega) with rfl | rfl
          · exact ⟨3, rfl, by unfold In64; omega⟩
          · exact ⟨5, rfl, by unfold In64; omega⟩
        have HLIT := hide hlit
        clear hS1 hgl' hlit
        go_region_with (first
          | (go_at_call 27; have hprobe := HS2; clear hprobe; refine (stD_pick (M := N + 2 + 2) (g := g) (q := q) (v := v) (σ := σ2) (w := w) (by first | with_reducible exact (unhide HS2) | with_reducible exact (unhide HS2).alloc _) 9 (by have := unhide HN; omega) (by omega) (by omega)).mono ?_; rintro e w3 ⟨b, σ3, hp3, rfl, hb, hs3, hk3⟩; have hb : (b : Int) < 9 := (by omega); have HF := hide (((unhide HK1) (by omega)).trans (leaf_ref (D := D) (unhide HP2) (unhide HN1) hp3)); clear hp3; (first | (have hn4 := (hk3.cell (b := w1.heap.size) (o := a) (World.block_lt_of_cell? _ _ hn3) (by omega)).trans hn3) | (with_reducible have hl4 := lit_block (unhide HS2).lt hk3 a; have hn4 := hl4.trans hn1) | skip); obtain ⟨y0, y1, y2, y3, q0, q1, q2, q3, z0, z1, z2, z3⟩ := hs3.cells; have hlt3 : w.heap.size < w3.heap.size := hs3.room; have HS3 := hide hs3; clear hs3 hk3)
          | (go_at_call 27; refine (stD_pick (M := N + 2) (g := g) (q := q) (v := v) (σ := σ1) (w := w) (by first | with_reducible exact ((unhide HS1).alloc _).drew | with_reducible exact (unhide HS1).drew) 2 (by have := unhide HN; omega) (by omega) (by omega)).mono ?_; rintro e w2 ⟨a, σ2, hp2, rfl, ha, hs2, hk2⟩; have ha : (a : Int) < 2 := (by omega); have HP2 := hide hp2; clear hp2; obtain ⟨n, hn1, hn2⟩ := unhide HLIT a ha; have HN1 := hide hn1; (first | (with_reducible have hl3 := lit_drew hgl hk2 a; have hn3 := hl3.trans hn1) | skip); have HN2 := hide hn2; have HS2 := hide hs2; clear hs2 hk2 hn2))
        all_goals
          go_wp2_with fail
          first
            | (have hprobe := hn4; clear hprobe; exact bodyPost_ret (v := .agg #[.int .i64 n, .int .i64 b, .string ⟨#[]⟩, .slice none 0 0]) (by simp [results, Tryz.results42, go_sem, q0, q1, q2, q3]) rfl (stD_end (unhide HS3) (by have := unhide HCP; omega) (unhide HN2) ⟨by omega, by omega⟩ (by decide) (rows_nil _) (by simp) (unhide HF)))
            | (exact bodyPost_ret (v := .agg #[.int .i64 n, .int .i64 b, .string ⟨#[]⟩, .slice none 0 0]) (by simp [results, Tryz.results42, go_sem, q0, q1, q2, q3, hlt3]) rfl ((stD_end (unhide HS3) (by have := unhide HCP; omega) (unhide HN2) ⟨by omega, by omega⟩ (by decide) (rows_nil _) (by simp) (unhide HF)).alloc _))
      · go_wp2_with fail
        refine (stD_pick ((unhide HS1).alloc _) 5 (by have := unhide HN; omega) (by omega) (by omega)).mono ?_
        rintro e w4 ⟨c, σ4, hp4, rfl, hc, hs4, hk4⟩
        have hc : (c : Int) < 5 := by omega
        obtain ⟨s, hnv, hn1, hn2⟩ := lit_strD (r := c) (unhide HS1).lt hk4 rfl (by show c < 5; omega)
        have HS4 := hide hs4
        have HN2 := hide hn2
        have HF := hide (((unhide HK1) (by omega)).trans (leaf_bin (D := D) hp4 hnv))
        clear hs4 hk4 hn2 hp4 hnv
        go_wp2_with fail
        refine (mk_bin s w4).mono ?_
        rintro e w5 ⟨rfl, hb5⟩
        have HS5 := hide ((unhide HS4).below hb5)
        obtain ⟨y0, y1, y2, y3, q0, q1, q2, q3, z0, z1, z2, z3⟩ := (unhide HS5).cells
        clear hb5
        go_wp2_with fail
        exact bodyPost_ret (v := .agg #[.int .i64 9, .int .i64 0, .string s, .slice none 0 0]) (by simp [results, Tryz.results42, go_sem, q0, q1, q2, q3]) rfl (stD_end (unhide HS5) (by have := unhide HCP; omega) ⟨by omega, by omega⟩ ⟨by omega, by omega⟩ (by have := unhide HN2; omega) (rows_nil _) (by simp) (unhide HF))
      · first | (exact absurd hd0 (by have := unhide HK7; omega)) | skip
        all_goals
        obtain ⟨D', rfl⟩ : ∃ D', D = D' + 1 := ⟨D - 1, by have := unhide HD; have := unhide HK7; omega⟩
        have IH := hide ((unhide HH) D' rfl (d - 1))
        have hce := hide (show cost (D' + 1) = 20 + 6 * cost D' from rfl)
        go_wp2_with fail
        refine (stD_pick ((unhide HS1).alloc _) 4 (by have := unhide HN; omega) (by omega) (by omega)).mono ?_
        rintro e w2 ⟨a, σ2, hp2, rfl, ha, hs2, hk2⟩
        have HP2 := hide hp2
        clear hp2
        have ha : a ≤ 3 := by omega
        have hX0 : RowsX (w.heap.size + 1) w2 ([] : List (Tm (D' + 1))) (.slice (some ⟨w1.heap.size, 0, none⟩) 0 0) [] :=
          RowsX.kept (w := w1.alloc (.cells #[] 32)) ⟨World.ownsRow_lit (base := w.heap.size + 1) w1 #[] 0 (unhide HS1).room (by unfold maxLen; omega) (by simp), CellsAt.nil⟩ hk2 (by omega)
        have HS2 := hide hs2
        have HX0 := hide hX0
        clear hs2 hk2 hX0
        go_wp2_with fail
        go_loopw [7, 8] (fun kv iv wr => ∃ (i : Nat) (ls : List (Tm (D' + 1))) (xs : List Value) (M p : Nat), i ≤ 3 ∧ iv = .int .i64 i ∧ ls.length = 2 * p ∧ p + i ≤ 3 ∧ M + i * (2 * cost D') ≤ N + 4 + 6 * cost D' ∧ RowsX (w.heap.size + 1) wr ls kv xs ∧ ∃ σr, StD g q v M σr w wr ∧ mapF (drawF q D') i (ls, σr) = mapF (drawF q D') a ([], σ2)) (fun _ iv _ => (intOf iv).toNat)
        case atStart => exact ⟨a, [], [], N + 2 + 2, 0, ha, rfl, rfl, by omega, by have := Nat.mul_le_mul_right (2 * cost D') ha; omega, unhide HX0, σ2, unhide HS2, rfl⟩
        case round =>
          obtain ⟨i, ls, xs, M, p, hi, rfl, hlen, hqi, hM, hX, σr, hS, hmf⟩ := hrel
          have HMF := hide hmf
          clear hmf
          have HX := hide hX
          have HS := hide hS
          have HM := hide hM
          have HL := hide hlen
          clear hX hS hM hlen
          cases i with
          | zero =>
            obtain ⟨ka, kc, rfl⟩ : ∃ ka kc, u7 = .slice ka ls.length kc := by
              have := own_place (unhide HX).1
              rcases this with ⟨h1, h2⟩ | ⟨G, cap, h1, _⟩
              · exact ⟨none, 0, by rw [h1, h2]⟩
              · exact ⟨_, cap, h1⟩
            obtain ⟨y0, y1, y2, y3, q0, q1, q2, q3, z0, z1, z2, z3⟩ := (unhide HS).cells
            go_wp2_with fail
            exact bodyPost_ret (v := .agg #[.int .i64 7, .int .i64 0, .string ⟨#[]⟩, .slice ka ls.length kc]) (by simp [results, Tryz.results42, go_sem, q0, q1, q2, q3]) rfl (stD_end (unhide HS) (by have := unhide hce; have := unhide HM; omega) ⟨by omega, by omega⟩ ⟨by omega, by omega⟩ (by decide) (unhide HX) (by have := unhide HL; omega) (draw_map (unhide HK2 (by omega)) (unhide HP2) (unhide HMF)))
          | succ i =>
            have hmul := hide (show (i + 1) * (2 * cost D') = i * (2 * cost D') + 2 * cost D' from Nat.succ_mul i (2 * cost D'))
            have hpos : (0 : Int) < ((i + 1 : Nat) : Int) := by omega
            have hqb : ((i + 1 : Nat) : Int) ≤ 3 := by omega
            obtain ⟨qq, hq⟩ : ∃ qq : Int, qq = ((i + 1 : Nat) : Int) := ⟨_, rfl⟩
            rw [← hq] at hpos hqb ⊢
            have HQ := hide hq
            clear hq
            go_wp2_with fail
            refine ((unhide IH) g q v M σr wr (by have := unhide HD; omega) (unhide HS).cur (by have := unhide HN; have := unhide hce; have := unhide HM; have := unhide hmul; omega)).mono ?_
            rintro e w3 hde
            obtain ⟨t, tk, tm, ts, ta, tl, tc, σa, hfa, rfl, ht, hc3, hk3⟩ := hde.opened
            have HFA := hide hfa
            clear hfa
            have hS3 := (unhide HS).go hk3 hc3
            have hX3 := (unhide HX).kept hk3 (by omega)
            have hroom := (unhide HS).room
            have hT3 : TAt (From (w.heap.size + 1) w3) w3 (D' + 1) t (.int .i64 tk) (.int .i64 tm) (.string ts) (.slice ta tl tc) := ht.mono fun b hb => ⟨by have := hb.1; omega, hb.2⟩
            have HX3 := hide hX3
            have HS3 := hide hS3
            have HT3 := hide hT3
            clear hde ht hc3 hk3 hX3 hT3 hS3 hroom
            go_wp2_with fail
            have hSd := ((unhide HS3).alloc (.cells #[.int .i64 tk, .int .i64 tm, .string ts, .slice ta tl tc] 32)).drew
            have hcall := (unhide IH) g q v (M + cost D') σa _ (by have := unhide HD; omega) hSd.cur (by have := unhide HN; have := unhide hce; have := unhide HM; have := unhide hmul; omega)
            have HSd := hide hSd
            have HCA := hide hcall
            have hbox : ∀ w5, Kept g (w3.alloc (.cells #[.int .i64 tk, .int .i64 tm, .string ts, .slice ta tl tc] 32)).drew w5 → w5.cell? ⟨w3.heap.size, 0, none⟩ = some (.int .i64 tk) ∧ w5.cell? ⟨w3.heap.size, 1, none⟩ = some (.int .i64 tm) ∧ w5.cell? ⟨w3.heap.size, 2, none⟩ = some (.string ts) ∧ w5.cell? ⟨w3.heap.size, 3, none⟩ = some (.slice ta tl tc) := fun w5 hk => by
              have hh := (hk.block w3.heap.size (by simp) (by have := (unhide HS3).lt; omega)).trans (heap_new w3 _)
              exact ⟨cell_of_heap hh 0, cell_of_heap hh 1, cell_of_heap hh 2, cell_of_heap hh 3⟩
            have HBOX := hide hbox
            have hkd : Kept g w3 (w3.alloc (.cells #[.int .i64 tk, .int .i64 tm, .string ts, .slice ta tl tc] 32)).drew := ((Kept.refl g w3).alloc _).drew
            have HKD := hide hkd
            have w0 : IntKind.i64.wrap (d - 1) = d - 1 := by rw [IntKind.wrap_i64]; omega
            clear hSd hcall hbox hkd
            go_region_with (first
              | (go_at_call 42; refine (unhide HCA).mono ?_; rintro e w5 hde; obtain ⟨t', uk, um, us, ua, ul, uc, σb, hfb, rfl, ht', hc5, hk5⟩ := hde.opened; have HFB := hide hfb; clear hfb; have HS5 := hide ((unhide HSd).go hk5 hc5); have HX5 := hide ((unhide HX3).kept ((unhide HKD).trans hk5) (by omega)); have hkk := (unhide HKD).trans hk5; have HT5 := hide (((unhide HT3).keep fun b hb => hkk.block b hb.2 (by have := hb.1; omega)).mono fun b hb => (⟨hb.1, Nat.lt_of_lt_of_le hb.2 hkk.size⟩ : From (w.heap.size + 1) w5 b)); have HT5' := hide (ht'.mono fun b hb => (⟨by have := hb.1; have := (unhide HSd).room; omega, hb.2⟩ : From (w.heap.size + 1) w5 b)); obtain ⟨j0, j1, j2, j3⟩ := unhide HBOX w5 hk5; clear hde ht' hc5 hk5 hkk)
              | (go_at_call 57; refine (withD_any (w.heap.size + 1) ls p (unhide HL) (by omega) u7 t t' _ _ _ _ _ _ _ _ w5 ((unhide HX5).sat (by have := unhide HL; omega)) (unhide HT5) (unhide HT5') (unhide HS5).room).mono ?_; rintro e w6 ⟨⟨q6, ls6, v6, xs6, rfl, hr6, hl6, hq6, hX6⟩, hb6⟩; have HR6 := hide hr6; clear hr6; have HS6 := hide ((unhide HS5).below hb6); have HX6 := hide hX6; have HL6 := hide hl6; clear hX6 hb6 hl6))
            all_goals
              go_wp2_with fail
              go_roundw
              case rel => exact ⟨i, ls6, xs6, M + cost D' + cost D', q6, by omega, by have := unhide HQ; congr 1; omega, unhide HL6, by omega, by have := unhide HM; have := unhide hmul; omega, unhide HX6, σb, unhide HS6, by rw [unhide HR6]; exact (map_step (unhide HFA) (unhide HFB) (unhide HL)).symm.trans (unhide HMF)⟩
              case measure => have := unhide HQ; simp [intOf]; omega
      · first | (exact absurd hd0 (by have := unhide HK7; omega)) | skip
        all_goals
        obtain ⟨D', rfl⟩ : ∃ D', D = D' + 1 := ⟨D - 1, by have := unhide HD; have := unhide HK7; omega⟩
        obtain ⟨g8, g12, g13⟩ := hcase
        have b0 : (kk == 0) = false := by simp; omega
        have b1 : (kk == 1) = false := by simp; omega
        have b2 : (kk == 2) = false := by simp; omega
        have b3 : (kk == 3) = false := by simp; omega
        have b4 : (kk == 4) = false := by simp; omega
        have b5 : (kk == 5) = false := by simp; omega
        have b6 : (kk == 6) = false := by simp; omega
        have b7 : (kk == 7) = false := by simp; omega
        have b12 : (kk == 12) = false := by simp; omega
        have IH := hide ((unhide HH) D' rfl (d - 1))
        have hce := hide (show cost (D' + 1) = 20 + 6 * cost D' from rfl)
        go_wp2_with fail
        refine (stD_pick ((unhide HS1).alloc _) 4 (by have := unhide HN; omega) (by omega) (by omega)).mono ?_
        rintro e w2 ⟨a, σ2, hp2, rfl, ha, hs2, hk2⟩
        have HP2 := hide hp2
        clear hp2
        have ha : a ≤ 3 := by omega
        have hX0 : RowsX (w.heap.size + 1) w2 ([] : List (Tm (D' + 1))) (.slice (some ⟨w1.heap.size, 0, none⟩) 0 0) [] :=
          RowsX.kept (w := w1.alloc (.cells #[] 32)) ⟨World.ownsRow_lit (base := w.heap.size + 1) w1 #[] 0 (unhide HS1).room (by unfold maxLen; omega) (by simp), CellsAt.nil⟩ hk2 (by omega)
        have HS2 := hide hs2
        have HX0 := hide hX0
        clear hs2 hk2 hX0
        go_wp2_with fail
        go_loopw [10, 11] (fun kv iv wr => ∃ (i : Nat) (ls : List (Tm (D' + 1))) (xs : List Value) (M : Nat), i ≤ 3 ∧ iv = .int .i64 i ∧ ls.length + i ≤ 3 ∧ M + i * cost D' ≤ N + 4 + 3 * cost D' ∧ RowsX (w.heap.size + 1) wr ls kv xs ∧ ∃ σr, StD g q v M σr w wr ∧ rowF (drawF q D') i (ls, σr) = rowF (drawF q D') a ([], σ2)) (fun _ iv _ => (intOf iv).toNat)
        case atStart => exact ⟨a, [], [], N + 2 + 2, ha, rfl, by simp; omega, by have := Nat.mul_le_mul_right (cost D') ha; omega, unhide HX0, σ2, unhide HS2, rfl⟩
        case round =>
          obtain ⟨i, ls, xs, M, hi, rfl, hlen, hM, hX, σr, hS, hmf⟩ := hrel
          have HMF := hide hmf
          clear hmf
          have HX := hide hX
          have HS := hide hS
          have HM := hide hM
          clear hX hS hM
          cases i with
          | zero =>
            obtain ⟨ka, kc, rfl⟩ : ∃ ka kc, u10 = .slice ka ls.length kc := by
              have := own_place (unhide HX).1
              rcases this with ⟨h1, h2⟩ | ⟨G, cap, h1, _⟩
              · exact ⟨none, 0, by rw [h1, h2]⟩
              · exact ⟨_, cap, h1⟩
            rcases (show kk = 13 ∨ (kk = 8 ∨ kk = 9) ∨ (kk = 10 ∨ kk = 11) by omega) with rfl | hk | hk
            · go_wp2_with fail
              refine (stD_pick (unhide HS) 5 (by have := unhide HN; have := unhide hce; have := unhide HM; omega) (by omega) (by omega)).mono ?_
              rintro e w3 ⟨f, σ3, hp3, rfl, hf, hs3, hk3⟩
              have HP3 := hide hp3
              clear hp3
              have hf : (f : Int) < 5 := by omega
              have HX3 := hide ((unhide HX).kept hk3 (by omega))
              have HS5 := hide hs3
              obtain ⟨y0, y1, y2, y3, q0, q1, q2, q3, z0, z1, z2, z3⟩ := (unhide HS5).cells
              clear hs3 hk3
              go_wp2_with fail
              exact bodyPost_ret (v := .agg #[.int .i64 4, .int .i64 f, .string ⟨#[]⟩, .slice ka ls.length kc]) (by simp [results, Tryz.results42, go_sem, q0, q1, q2, q3]) rfl (stD_end (unhide HS5) (by have := unhide hce; have := unhide HM; omega) ⟨by omega, by omega⟩ ⟨by omega, by omega⟩ (by decide) (unhide HX3) (by omega) (draw_fun (unhide HK2 (by omega)) (unhide HP2) (unhide HMF) (unhide HP3)))
            · rcases hk with rfl | rfl
              all_goals
                go_wp2_with fail
                refine (mk_tuple ka ls.length kc wr).mono ?_
                rintro e w5 ⟨rfl, hb5⟩
                have HS5 := hide ((unhide HS).below hb5)
                have HX3 := hide ((unhide HX).up hb5)
                obtain ⟨y0, y1, y2, y3, q0, q1, q2, q3, z0, z1, z2, z3⟩ := (unhide HS5).cells
                clear hb5
                go_wp2_with fail
                exact bodyPost_ret (v := .agg #[.int .i64 6, .int .i64 0, .string ⟨#[]⟩, .slice ka ls.length kc]) (by simp [results, Tryz.results42, go_sem, q0, q1, q2, q3]) rfl (stD_end (unhide HS5) (by have := unhide hce; have := unhide HM; omega) ⟨by omega, by omega⟩ ⟨by omega, by omega⟩ (by decide) (unhide HX3) (by omega) (draw_tup (by omega) (unhide HK2 (by omega)) (unhide HP2) (unhide HMF)))
            · rcases hk with rfl | rfl
              all_goals
                go_wp2_with fail
                refine (mk_list ka ls.length kc wr).mono ?_
                rintro e w5 ⟨rfl, hb5⟩
                have HS5 := hide ((unhide HS).below hb5)
                have HX3 := hide ((unhide HX).up hb5)
                obtain ⟨y0, y1, y2, y3, q0, q1, q2, q3, z0, z1, z2, z3⟩ := (unhide HS5).cells
                clear hb5
                go_wp2_with fail
                exact bodyPost_ret (v := .agg #[.int .i64 8, .int .i64 0, .string ⟨#[]⟩, .slice ka ls.length kc]) (by simp [results, Tryz.results42, go_sem, q0, q1, q2, q3]) rfl (stD_end (unhide HS5) (by have := unhide hce; have := unhide HM; omega) ⟨by omega, by omega⟩ ⟨by omega, by omega⟩ (by decide) (unhide HX3) (by omega) (draw_lst (by omega) (unhide HK2 (by omega)) (unhide HP2) (unhide HMF)))
          | succ i =>
            have hmul := hide (show (i + 1) * cost D' = i * cost D' + cost D' from Nat.succ_mul i (cost D'))
            have hpos : (0 : Int) < ((i + 1 : Nat) : Int) := by omega
            have hqb : ((i + 1 : Nat) : Int) ≤ 3 := by omega
            obtain ⟨qz, hq⟩ : ∃ qz : Int, qz = ((i + 1 : Nat) : Int) := ⟨_, rfl⟩
            rw [← hq] at hpos hqb ⊢
            have HQ := hide hq
            clear hq
            go_wp2_with fail
            refine ((unhide IH) g q v M σr wr (by have := unhide HD; omega) (unhide HS).cur (by have := unhide HN; have := unhide hce; have := unhide HM; have := unhide hmul; omega)).mono ?_
            rintro e w3 hde
            obtain ⟨t, tk, tm, ts, ta, tl, tc, σa, hfa, rfl, ht, hc3, hk3⟩ := hde.opened
            have HFA := hide hfa
            clear hfa
            have hS3 := (unhide HS).go hk3 hc3
            have hX3 := (unhide HX).kept hk3 (by omega)
            obtain ⟨R, cp, w4, hr4, hX4, hB4⟩ := row_push hX3 (by omega) ht (fun b hb => ⟨by have := (unhide HS).room; have := hb.1; omega, hb.2, fun e => by have := ((unhide HX).1.lt b e).2; have := hb.1; omega⟩) (wz := w3.alloc _) ⟨rfl, rfl, rfl, rfl⟩ hS3.room 30
            have HR4 := hide hr4
            have HX4 := hide hX4
            have HS4 := hide (hS3.low hB4)
            clear hde ht hc3 hk3 hS3 hX3 hr4 hX4 hB4
            go_wp2_with (at_builtin; refine Go.Lib.wpList_append_run _ rfl (.tmp 94) (.tmp 99) 30 30 rfl _ _ rfl rfl _ _ (unhide HR4) ?_)
            go_roundw
            case rel => exact ⟨i, ls ++ [t], _, M + cost D', by omega, by have := unhide HQ; congr 1; omega, by rw [List.length_append]; simp; omega, by have := unhide HM; have := unhide hmul; omega, unhide HX4, σa, unhide HS4, (row_step (unhide HFA)).symm.trans (unhide HMF)⟩
            case measure => have := unhide HQ; simp [intOf]; omega

theorem drawD_any : ∀ D, DrawSaidD D
  | 0 => drawD_of 0 fun _ h => by omega
  | D + 1 => drawD_of (D + 1) fun D' h => by
    have : D' = D := by omega
    subst this; exact drawD_any D'

end Go.Proofs.YtcgbonlffcpofaaGreatDoor
