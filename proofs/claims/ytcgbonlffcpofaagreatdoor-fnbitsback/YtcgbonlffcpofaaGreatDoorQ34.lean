/- A pick among many, a size up to twelve: as functions of the code. A part under way in its box. -/
import Derived.Test.YtcgbonlffcpofaaGreatDoorDd4
import Derived.Test.YtcgbonlffcpofaaGreatDoorQ5
import Derived.Deep.RegionWith
import Derived.Deep.DeepCutAuto
import Derived.Deep.RegionHeld3
namespace Go.Proofs.YtcgbonlffcpofaaGreatDoor
open Go.RowKit Go.Deep

theorem pickF_many {q : Src} {n : Int} {σ : Sig} (h : ¬ n ≤ 256) : pickF q n σ = ((((byteF q σ).1 * 256 + (byteF q (byteF q σ).2).1) % n).toNat, (byteF q (byteF q σ).2).2) := by
  unfold pickF
  rw [if_neg (by omega), if_neg h]
set_option maxRecDepth 40000 in
set_option maxHeartbeats 1000000 in
theorem dpickW_any (g N : Nat) (q : Src) (v : Value) (σ : Sig) (n : Int) (w : World) (hc : CurD g q v N σ w) (hN : N ≤ 1000000000000) (hn0 : 256 < n) (hn : n ≤ 1000000) :
    Calls Tryz.prog 27 #[.pointer (some ⟨g, 0, none⟩), .int .i64 n] w fun e w' => ∃ r σ', pickF q n σ = (r, σ') ∧ e = .returned (.int .i64 r) ∧ (r : Int) < n ∧ CurD g q v (N + 2) σ' w' ∧ Kept g w w' := by
  have hb := hide (dbyteD_any g N q v σ w hc (by omega))
  have hp := hide (pickF_many (q := q) (σ := σ) (show ¬ n ≤ 256 by omega))
  generalize byteF q σ = x at hb hp
  obtain ⟨x, σ'⟩ := x
  clear hc
  go_enter Tryz.func27, Tryz.ntmps27
  go_wp2_with fail
  refine (unhide hb).mono ?_
  rintro e w1 ⟨rfl, hx0, hx1, hc1, hk1⟩
  try dsimp only at hx0 hx1 hc1
  have hb2 := hide (dbyteD_any g (N + 1) q v σ' w1 hc1 (by omega))
  have hp2 := unhide hp
  try dsimp only at hp2
  generalize byteF q σ' = y at hb2 hp2
  obtain ⟨y, σ2⟩ := y
  have HP := hide hp2
  have HK := hide hk1
  clear hc1 hk1 hp2
  go_wp2_with fail
  refine (unhide hb2).mono ?_
  rintro e w2 ⟨rfl, hy0, hy1, hc2, hk2⟩
  try dsimp only at hy0 hy1 hc2
  have HC := hide hc2
  have HK2 := hide hk2
  clear hc2 hk2
  have v1 : IntKind.i64.wrap (x * 256) = x * 256 := by rw [IntKind.wrap_i64]; omega
  have v2 : IntKind.i64.wrap (x * 256 + y) = x * 256 + y := by rw [IntKind.wrap_i64]; omega
  go_wp2_with fail
  go_ret
  have hm := Int.emod_nonneg (x * 256 + y) (by omega : n ≠ 0)
  have hm2 := Int.emod_lt_of_pos (x * 256 + y) (by omega : 0 < n)
  exact ⟨((x * 256 + y) % n).toNat, σ2, unhide HP, ret_int (by omega), by omega, (unhide HC).mono (by omega), (unhide HK).trans (unhide HK2)⟩

def sizeG (q : Src) (σ : Sig) : Nat × Sig := pickF q (if 12 < 1 + q.1 / 12 then 13 else 1 + ((q.1 / 12 : Nat) : Int) + 1) σ
set_option maxRecDepth 40000 in
set_option maxHeartbeats 1000000 in
theorem dsizeG_any (g N : Nat) (q : Src) (v : Value) (σ : Sig) (w : World) (hc : CurD g q v N σ w) (hN : N ≤ 1000000000000) :
    Calls Tryz.prog 25 #[.pointer (some ⟨g, 0, none⟩), .int .i64 12] w fun e w' => ∃ r σ', sizeG q σ = (r, σ') ∧ e = .returned (.int .i64 r) ∧ r ≤ 12 ∧ CurD g q v (N + 2) σ' w' ∧ Kept g w w' := by
  obtain ⟨hcode, hh, hp0, hp1, hs0, hs1⟩ := id hc
  obtain ⟨f0, f1, f2, z1, z2⟩ := cur_cells hh
  obtain ⟨a, cap, rfl, hLc, hcap, hL, hel⟩ := hcode
  obtain ⟨L, cb⟩ := q
  dsimp only at hLc hL f0
  by_cases h4 : (12 : Int) < 1 + (L : Int) / 12
  · have hb := hide (dpickD_any g N (L, cb) _ σ 13 w hc hN (by omega) (by omega))
    have hS := hide (show sizeG (L, cb) σ = pickF (L, cb) 13 σ by unfold sizeG; rw [if_pos (by dsimp only; omega)])
    clear hc hel hh z1 z2 f1 f2
    go_enter Tryz.func25, Tryz.ntmps25
    go_wp2_with fail
    refine (unhide hb).mono ?_
    rintro e w1 ⟨r, σ', hp, rfl, hr, hc1, hk1⟩
    have HC := hide hc1
    have HK := hide hk1
    have HP := hide hp
    clear hc1 hk1 hp
    go_wp2_with fail
    go_ret
    exact ⟨r, σ', (unhide hS).trans (unhide HP), rfl, by omega, unhide HC, unhide HK⟩
  · have hb := hide (dpickD_any g N (L, cb) _ σ (1 + (L : Int) / 12 + 1) w hc hN (by omega) (by omega))
    have hS := hide (show sizeG (L, cb) σ = pickF (L, cb) (1 + (L : Int) / 12 + 1) σ by unfold sizeG; rw [if_neg (by dsimp only; omega)]; rfl)
    clear hc hel hh z1 z2 f1 f2
    go_enter Tryz.func25, Tryz.ntmps25
    go_wp2_with fail
    refine (unhide hb).mono ?_
    rintro e w1 ⟨r, σ', hp, rfl, hr, hc1, hk1⟩
    have HC := hide hc1
    have HK := hide hk1
    have HP := hide hp
    clear hc1 hk1 hp
    go_wp2_with fail
    go_ret
    exact ⟨r, σ', (unhide hS).trans (unhide HP), rfl, by omega, unhide HC, unhide HK⟩

/-- Under way: the cursor, what was there, the result's nine cells. -/
structure StG (g : Nat) (q : Src) (v : Value) (M : Nat) (σ : Sig) (w w' : World) : Prop where
  cur : CurD g q v M σ w'
  kept : Kept g w w'
  res : Row w.heap.size 34 9 w'
  gl : g < w.heap.size
section
variable {g M : Nat} {q : Src} {v : Value} {σ : Sig} {w w1 w2 : World}
theorem StG.lt (h : StG g q v M σ w w1) : g < w1.heap.size := Nat.lt_of_lt_of_le h.gl h.kept.size
theorem StG.room (h : StG g q v M σ w w1) : w.heap.size + 1 ≤ w1.heap.size := h.res.lt
theorem StG.go {M' : Nat} {σ' : Sig} (h : StG g q v M σ w w1) (hk : Kept g w1 w2) (hc : CurD g q v M' σ' w2) : StG g q v M' σ' w w2 :=
  ⟨hc, h.kept.trans hk, h.res.keep (hk.block _ h.room (by have := h.gl; omega)), h.gl⟩
theorem StG.below (h : StG g q v M σ w w1) (hb : Below w1.heap.size w1 w2) : StG g q v M σ w w2 := h.go (Kept.below hb) (h.cur.below hb)
theorem StG.alloc (h : StG g q v M σ w w1) (o : Obj) : StG g q v M σ w (w1.alloc o) := h.below ((Below.refl _ _).alloc (Nat.le_refl _) _)
theorem StG.drew (h : StG g q v M σ w w1) : StG g q v M σ w w1.drew := h.below (Below.refl _ _).drew
theorem StG.more {M' : Nat} (h : StG g q v M σ w w1) (hM : M ≤ M') : StG g q v M' σ w w1 := ⟨h.cur.mono hM, h.kept, h.res, h.gl⟩
/-- A step that turns one newer block alone. -/
theorem StG.put {B : Nat} (h : StG g q v M σ w w1) (hB : w.heap.size + 1 ≤ B) (hk : Kept B w1 w2) : StG g q v M σ w w2 :=
  ⟨h.cur.low fun b hb => hk.block b (by have := h.lt; omega) (by have := h.gl; omega), h.kept.both hk (by omega), h.res.keep (hk.block _ h.room (by omega)), h.gl⟩
theorem stG_pick (h : StG g q v M σ w w1) (n : Int) (hM : M ≤ 1000000000000) (hn0 : -1000000 ≤ n) (hn : n ≤ 256) :
    Calls Tryz.prog 27 #[.pointer (some ⟨g, 0, none⟩), .int .i64 n] w1 fun e w' => ∃ (r : Nat) (σ' : Sig), pickF q n σ = (r, σ') ∧ e = .returned (.int .i64 r) ∧ ((r : Int) < n ∨ (r = 0 ∧ n ≤ 1)) ∧ StG g q v (M + 2) σ' w w' ∧ Kept g w1 w' :=
  (dpickD_any g M q v σ n w1 h.cur hM hn0 hn).mono fun _ _ ⟨r, σ', h0, h1, h2, h3, h4⟩ => ⟨r, σ', h0, h1, h2, h.go h4 h3, h4⟩
theorem stG_pickW (h : StG g q v M σ w w1) (n : Int) (hM : M ≤ 1000000000000) (hn0 : 256 < n) (hn : n ≤ 1000000) :
    Calls Tryz.prog 27 #[.pointer (some ⟨g, 0, none⟩), .int .i64 n] w1 fun e w' => ∃ (r : Nat) (σ' : Sig), pickF q n σ = (r, σ') ∧ e = .returned (.int .i64 r) ∧ (r : Int) < n ∧ StG g q v (M + 2) σ' w w' ∧ Kept g w1 w' :=
  (dpickW_any g M q v σ n w1 h.cur hM hn0 hn).mono fun _ _ ⟨r, σ', h0, h1, h2, h3, h4⟩ => ⟨r, σ', h0, h1, h2, h.go h4 h3, h4⟩
end

/-- Nine cells of a block. -/
def Box9 (B : Nat) (w : World) (ds : List Value) : Prop := Row B 34 9 w ∧ ds.length = 9 ∧ ∀ j, j < 9 → w.cell? ⟨B, j, none⟩ = ds[j]?
theorem Box9.new (w : World) (ds : List Value) (h : ds.length = 9) (arr : Array Value) (ha : arr = ds.toArray) : Box9 w.heap.size (w.alloc (.cells arr 34)) ds := by
  subst ha
  have hr := Row.new (e := 34) w ds.toArray
  have hs : ds.toArray.size = 9 := by simpa using h
  rw [hs] at hr
  refine ⟨hr, h, fun j _ => ?_⟩
  rw [cell_of_heap (heap_new w _)]; simp
theorem Box9.keep {B : Nat} {w w' : World} {ds : List Value} (h : Box9 B w ds) (hb : w'.heap[B]? = w.heap[B]?) : Box9 B w' ds :=
  ⟨h.1.keep hb, h.2.1, fun j hj => (World.cell?_of_block (w := w) hb).trans (h.2.2 j hj)⟩
theorem Box9.lt {B : Nat} {w : World} {ds : List Value} (h : Box9 B w ds) : B < w.heap.size := h.1.lt
/-- Cells of it stored: the list that it holds is another one. -/
theorem Box9.put {B o : Nat} {w : World} {ds es fs : List Value} (h : Box9 B w ds) (ho : o + es.length ≤ 9) (hf : fs.length = 9) (h1 : ∀ j, j < es.length → fs[o + j]? = es[j]?) (h2 : ∀ j, j < 9 → j < o ∨ o + es.length ≤ j → fs[j]? = ds[j]?) :
    Box9 B (setL w B o es) fs ∧ Kept B w (setL w B o es) ∧ (setL w B o es).heap.size = w.heap.size := by
  obtain ⟨r1, r2, r3, r4, r5⟩ := setL_facts es h.1 ho
  refine ⟨⟨r1, hf, fun j hj => ?_⟩, ⟨r3.os, r3.tape, r3.output, by rw [r5]; exact Nat.le_refl _, fun k _ hk => r4 k hk⟩, r5⟩
  by_cases hin : o ≤ j ∧ j < o + es.length
  · have := r2 (j - o) (by omega)
    have h3 := h1 (j - o) (by omega)
    rw [show o + (j - o) = j by omega] at this h3
    rw [this, h3]
  · have h4 := setL_out es (w := w) (B := B) (o := o) (o' := j) (by omega)
    rw [h4, h2 j hj (by omega)]
    exact h.2.2 j hj
  where setL_out {B o' : Nat} : ∀ (ds : List Value) {w : World} {o : Nat}, o' < o ∨ o + ds.length ≤ o' → (setL w B o ds).cell? ⟨B, o', none⟩ = w.cell? ⟨B, o', none⟩
    | [], _, _, _ => rfl
    | d :: ds, w, o, h => by
      rw [List.length_cons] at h
      exact (setL_out ds (w := w.setCell ⟨B, o, none⟩ d) (by omega)).trans (World.cell?_setCell_other _ _ _ _ (by intro e; cases e; omega))

/-- Blocks that a drawn value may lie in: neither what was there nor the box. -/
abbrev Sb (w : World) (B : Nat) (w1 : World) : Nat → Prop := fun b => w.heap.size + 1 ≤ b ∧ b < w1.heap.size ∧ b ≠ B
/-- A part in its box. -/
structure BoxG (g : Nat) (q : Src) (v : Value) (M : Nat) (σ : Sig) (w : World) (B : Nat) (w1 : World) (p : SgT 2) (k m : Int) (s : ByteArray) (c : Value) : Prop where
  st : StG g q v M σ w w1
  hB : w.heap.size + 1 ≤ B
  box : Box9 B w1 [.int .i64 p.1, .int .i64 p.2.1, .int .i64 p.2.2.1, .bool p.2.2.2.1, .bool p.2.2.2.2.1, .int .i64 k, .int .i64 m, .string s, c]
  i1 : In64 p.1
  i2 : In64 p.2.1
  i3 : In64 p.2.2.1
  val : TAt (Sb w B w1) w1 2 p.2.2.2.2.2 (.int .i64 k) (.int .i64 m) (.string s) c
section
variable {g M B : Nat} {q : Src} {v : Value} {σ : Sig} {w w1 w2 : World} {p : SgT 2} {k m : Int} {s : ByteArray} {c : Value}
theorem BoxG.go {M' : Nat} {σ' : Sig} (h : BoxG g q v M σ w B w1 p k m s c) (hs : StG g q v M' σ' w w2) (hk : Kept g w1 w2) : BoxG g q v M' σ' w B w2 p k m s c := by
  have hg := h.st.gl
  have hB := h.hB
  have hlt := h.box.lt
  exact ⟨hs, h.hB, h.box.keep (hk.block B hlt (by omega)), h.i1, h.i2, h.i3, (h.val.keep fun b hb => hk.block b hb.2.1 (by have := hb.1; omega)).mono fun b hb => ⟨hb.1, Nat.lt_of_lt_of_le hb.2.1 hk.size, hb.2.2⟩⟩
theorem BoxG.below (h : BoxG g q v M σ w B w1 p k m s c) (hb : Below w1.heap.size w1 w2) : BoxG g q v M σ w B w2 p k m s c := h.go (h.st.below hb) (Kept.below hb)
theorem BoxG.more {M' : Nat} (h : BoxG g q v M σ w B w1 p k m s c) (hM : M ≤ M') : BoxG g q v M' σ w B w1 p k m s c := ⟨h.st.more hM, h.hB, h.box, h.i1, h.i2, h.i3, h.val⟩
/-- The box written: the part that it holds is another one. -/
theorem BoxG.put {o : Nat} {es : List Value} {p' : SgT 2} {k' m' : Int} {s' : ByteArray} {c' : Value} (h : BoxG g q v M σ w B w1 p k m s c) (ho : o + es.length ≤ 9)
    (h1 : ∀ j, j < es.length → ([.int .i64 p'.1, .int .i64 p'.2.1, .int .i64 p'.2.2.1, .bool p'.2.2.2.1, .bool p'.2.2.2.2.1, .int .i64 k', .int .i64 m', .string s', c'] : List Value)[o + j]? = es[j]?)
    (h2 : ∀ j, j < 9 → j < o ∨ o + es.length ≤ j → ([.int .i64 p'.1, .int .i64 p'.2.1, .int .i64 p'.2.2.1, .bool p'.2.2.2.1, .bool p'.2.2.2.2.1, .int .i64 k', .int .i64 m', .string s', c'] : List Value)[j]? = ([.int .i64 p.1, .int .i64 p.2.1, .int .i64 p.2.2.1, .bool p.2.2.2.1, .bool p.2.2.2.2.1, .int .i64 k, .int .i64 m, .string s, c] : List Value)[j]?)
    (i1 : In64 p'.1) (i2 : In64 p'.2.1) (i3 : In64 p'.2.2.1) (hv : TAt (Sb w B w1) w1 2 p'.2.2.2.2.2 (.int .i64 k') (.int .i64 m') (.string s') c') :
    BoxG g q v M σ w B (setL w1 B o es) p' k' m' s' c' := by
  obtain ⟨b1, b2, b3⟩ := h.box.put ho rfl h1 h2
  refine ⟨h.st.put h.hB b2, h.hB, b1, i1, i2, i3, (hv.keep fun b hb => b2.block b hb.2.1 hb.2.2).mono fun b hb => ⟨hb.1, by rw [b3]; exact hb.2.1, hb.2.2⟩⟩
theorem BoxG.cells (h : BoxG g q v M σ w B w1 p k m s c) : (w1.cell? ⟨B, 0, none⟩ = some (.int .i64 p.1) ∧ w1.cell? ⟨B, 1, none⟩ = some (.int .i64 p.2.1) ∧ w1.cell? ⟨B, 2, none⟩ = some (.int .i64 p.2.2.1) ∧ w1.cell? ⟨B, 3, none⟩ = some (.bool p.2.2.2.1) ∧ w1.cell? ⟨B, 4, none⟩ = some (.bool p.2.2.2.2.1) ∧
    w1.cell? ⟨B, 5, none⟩ = some (.int .i64 k) ∧ w1.cell? ⟨B, 6, none⟩ = some (.int .i64 m) ∧ w1.cell? ⟨B, 7, none⟩ = some (.string s) ∧ w1.cell? ⟨B, 8, none⟩ = some c) ∧ ∀ o, w1.frozen? ⟨B, o, none⟩ = false :=
  ⟨⟨h.box.2.2 0 (by decide), h.box.2.2 1 (by decide), h.box.2.2 2 (by decide), h.box.2.2 3 (by decide), h.box.2.2 4 (by decide), h.box.2.2 5 (by decide), h.box.2.2 6 (by decide), h.box.2.2 7 (by decide), h.box.2.2 8 (by decide)⟩, fun o => h.box.1.frozen o⟩
end

end Go.Proofs.YtcgbonlffcpofaaGreatDoor
/- spec's l02DrawSeg, as a function of the code: what it is. -/
namespace Go.Proofs.YtcgbonlffcpofaaGreatDoor
open Go.RowKit Go.Deep

def sz10 : Array Value := #[.int .i64 1, .int .i64 3, .int .i64 4, .int .i64 8, .int .i64 8, .int .i64 12, .int .i64 16, .int .i64 0, .int .i64 49, .int .i64 7]
def un4 : Array Value := #[.int .i64 8, .int .i64 8, .int .i64 1, .int .i64 16]
def bin4 : Array Value := #[.string ⟨#[]⟩, .string ⟨#[97, 98]⟩, .string ⟨#[120, 121, 122, 33]⟩, .string ⟨#[1, 2, 3, 4, 5, 6, 7, 8]⟩]
def un3 : Array Value := #[.int .i64 0, .int .i64 256, .int .i64 257]
def sz5 : Array Value := #[.int .i64 (-1), .int .i64 (-2), .int .i64 50, .int .i64 32000, .int .i64 32001]
def tZ : Tm 2 := ((0 : Int), (0 : Int), (⟨#[]⟩ : ByteArray), ([] : List (Tm 1)))
def tI (m : Int) : Tm 2 := ((1 : Int), m, (⟨#[]⟩ : ByteArray), ([] : List (Tm 1)))
def tB (s : ByteArray) : Tm 2 := ((9 : Int), (0 : Int), s, ([] : List (Tm 1)))
def withV (p : SgT 2) (t : Tm 2) : SgT 2 := (p.1, p.2.1, p.2.2.1, p.2.2.2.1, p.2.2.2.2.1, t)
def overN : Tm 2 → Tm 2 := fun (k, _, s, ks) => (k, (1000000000000001 : Int), s, ks)
def s1F (q : Src) (σ : Sig) : SgT 2 × Sig :=
  let a := pickF q 10 σ
  let b := pickF q 3 a.2
  let c := pickF q 3 b.2
  let d := pickF q 300 c.2
  ((1, intV sz10[a.1]?, 1, (b.1 : Int) == 0, (c.1 : Int) == 0, tI ((d.1 : Int) - 40)), d.2)
def s2F (q : Src) (s : SgT 2 × Sig) : SgT 2 × Sig :=
  let e := pickF q 8 s.2
  if e.1 = 0 then (withV s.1 (drawF q 1 e.2).1, (drawF q 1 e.2).2) else (s.1, e.2)
def s3F (q : Src) (s : SgT 2 × Sig) : SgT 2 × Sig :=
  let e := pickF q 3 s.2
  let a := pickF q 4 e.2
  let b := pickF q 4 a.2
  let c := pickF q 4 b.2
  let d := pickF q 3 c.2
  if e.1 = 0 then ((2, if d.1 = 0 then -1 else (a.1 : Int), intV un4[b.1]?, false, false, tB (strV bin4[c.1]?)), d.2) else (s.1, e.2)
def s4F (q : Src) (s : SgT 2 × Sig) : SgT 2 × Sig :=
  let e := pickF q 40 s.2
  let x := pickF q 4 e.2
  if e.1 = 0 then
    (if x.1 = 0 then ((s.1.1, s.1.2.1, intV un3[(pickF q 3 x.2).1]?, s.1.2.2.2), (pickF q 3 x.2).2)
    else if x.1 = 1 then ((s.1.1, intV sz5[(pickF q 5 x.2).1]?, s.1.2.2), (pickF q 5 x.2).2)
    else if x.1 = 2 then ((((pickF q 4 x.2).1 : Int), s.1.2), (pickF q 4 x.2).2)
    else (withV s.1 (overN s.1.2.2.2.2.2), x.2))
  else (s.1, e.2)
def segF (q : Src) (σ : Sig) : SgT 2 × Sig := s4F q (s3F q (s2F q (s1F q σ)))

section
variable {q : Src} {σ σ1 σ2 σ3 σ4 σ5 : Sig} {a b c d e x : Nat} {m : Int} {s : SgT 2 × Sig} {p : SgT 2} {t : Tm 2} {u : ByteArray}
theorem s1_of (h1 : pickF q 10 σ = (a, σ1)) (h2 : pickF q 3 σ1 = (b, σ2)) (h3 : pickF q 3 σ2 = (c, σ3)) (h4 : pickF q 300 σ3 = (d, σ4)) (hm : intV sz10[a]? = m) : s1F q σ = ((1, m, 1, (b : Int) == 0, (c : Int) == 0, tI ((d : Int) - 40)), σ4) := by
  simp only [s1F, h1, h2, h3, h4, hm]
theorem s2_no (hs : s = (p, σ)) (h1 : pickF q 8 σ = (e, σ1)) (he : e ≠ 0) : s2F q s = (p, σ1) := by
  subst hs; simp only [s2F, h1, if_neg he]
theorem s2_yes (hs : s = (p, σ)) (h1 : pickF q 8 σ = (e, σ1)) (he : e = 0) (h2 : drawF q 1 σ1 = (t, σ2)) : s2F q s = (withV p t, σ2) := by
  subst hs; simp only [s2F, h1, if_pos he, h2]
theorem s3_no (hs : s = (p, σ)) (h1 : pickF q 3 σ = (e, σ1)) (he : e ≠ 0) : s3F q s = (p, σ1) := by
  subst hs; simp only [s3F, h1, if_neg he]
theorem s3_yes (hs : s = (p, σ)) (h1 : pickF q 3 σ = (e, σ1)) (he : e = 0) (h2 : pickF q 4 σ1 = (a, σ2)) (h3 : pickF q 4 σ2 = (b, σ3)) (hm : intV un4[b]? = m) (h4 : pickF q 4 σ3 = (c, σ4)) (hu : strV bin4[c]? = u) (h5 : pickF q 3 σ4 = (d, σ5)) :
    s3F q s = ((2, if d = 0 then -1 else (a : Int), m, false, false, tB u), σ5) := by
  subst hs; simp only [s3F, h1, if_pos he, h2, h3, h4, h5, hm, hu]
theorem s4_no (hs : s = (p, σ)) (h1 : pickF q 40 σ = (e, σ1)) (he : e ≠ 0) : s4F q s = (p, σ1) := by
  subst hs; simp only [s4F, h1, if_neg he]
theorem s4_unit (hs : s = (p, σ)) (h1 : pickF q 40 σ = (e, σ1)) (he : e = 0) (h2 : pickF q 4 σ1 = (x, σ2)) (hx : x = 0) (h3 : pickF q 3 σ2 = (a, σ3)) (hm : intV un3[a]? = m) : s4F q s = ((p.1, p.2.1, m, p.2.2.2), σ3) := by
  subst hs; simp only [s4F, h1, if_pos he, h2, if_pos hx, h3, hm]
theorem s4_size (hs : s = (p, σ)) (h1 : pickF q 40 σ = (e, σ1)) (he : e = 0) (h2 : pickF q 4 σ1 = (x, σ2)) (hx : x = 1) (h3 : pickF q 5 σ2 = (a, σ3)) (hm : intV sz5[a]? = m) : s4F q s = ((p.1, m, p.2.2), σ3) := by
  subst hs; subst hx; simp only [s4F, h1, if_pos he, h2, h3, hm]; rfl
theorem s4_type (hs : s = (p, σ)) (h1 : pickF q 40 σ = (e, σ1)) (he : e = 0) (h2 : pickF q 4 σ1 = (x, σ2)) (hx : x = 2) (h3 : pickF q 4 σ2 = (a, σ3)) : s4F q s = (((a : Int), p.2), σ3) := by
  subst hs; subst hx; simp only [s4F, h1, if_pos he, h2, h3]; rfl
theorem s4_val (hs : s = (p, σ)) (h1 : pickF q 40 σ = (e, σ1)) (he : e = 0) (h2 : pickF q 4 σ1 = (x, σ2)) (hx : ¬ x ≤ 2) : s4F q s = (withV p (overN p.2.2.2.2.2), σ2) := by
  subst hs; simp only [s4F, h1, if_pos he, h2]
  rw [if_neg (by omega), if_neg (by omega), if_neg (by omega)]
end

theorem Kept.undrew {g : Nat} {W w' : World} (hk : Kept g W.drew w') : Kept g W w' := ⟨hk.os, hk.tape, hk.output, hk.size, hk.block⟩
theorem Kept.lit {g B a : Nat} {w w' : World} {u : Value} (hk : Kept g w w') (h : w.cell? ⟨B, a, none⟩ = some u) (hB : B ≠ g) : w'.cell? ⟨B, a, none⟩ = some u := (World.cell?_of_block (w := w) (hk.block B (World.block_lt_of_cell? _ _ h) hB)).trans h
section
variable {g r : Nat} {W w' : World} {arr : Array Value} {e : TypeId}
theorem lb1 (hg : g < W.heap.size) (hk : Kept g (W.alloc (.cells arr e)) w') (r : Nat) : w'.cell? ⟨W.heap.size, r, none⟩ = arr[r]? := lit_block hg hk r
theorem lb2 {o : Obj} (hg : g < W.heap.size) (hk : Kept g ((W.alloc (.cells arr e)).alloc o) w') (r : Nat) : w'.cell? ⟨W.heap.size, r, none⟩ = arr[r]? := lit_block hg (((Kept.refl g _).alloc o).trans hk) r
theorem lb3 {o : Obj} (hg : g < W.heap.size) (hk : Kept g ((W.alloc o).alloc (.cells arr e)) w') (r : Nat) : w'.cell? ⟨W.heap.size + 1, r, none⟩ = arr[r]? := by
  have := lit_block (w := W.alloc o) (by simp; omega) hk r
  rwa [World.size_alloc] at this
theorem bx1 (hg : g < W.heap.size) (hk : Kept g (W.alloc (.cells #[.int .i64 0, .int .i64 0, .int .i64 0, .bool false, .bool false, .int .i64 0, .int .i64 0, .string ⟨#[]⟩, .slice none 0 0] 34)) w') : Box9 W.heap.size w' [.int .i64 0, .int .i64 0, .int .i64 0, .bool false, .bool false, .int .i64 0, .int .i64 0, .string ⟨#[]⟩, .slice none 0 0] :=
  (Box9.new W [.int .i64 0, .int .i64 0, .int .i64 0, .bool false, .bool false, .int .i64 0, .int .i64 0, .string ⟨#[]⟩, .slice none 0 0] rfl _ rfl).keep (hk.block _ (by simp) (by omega))
theorem bx2 {o : Obj} (hg : g < W.heap.size) (hk : Kept g ((W.alloc (.cells #[.int .i64 0, .int .i64 0, .int .i64 0, .bool false, .bool false, .int .i64 0, .int .i64 0, .string ⟨#[]⟩, .slice none 0 0] 34)).alloc o) w') : Box9 W.heap.size w' [.int .i64 0, .int .i64 0, .int .i64 0, .bool false, .bool false, .int .i64 0, .int .i64 0, .string ⟨#[]⟩, .slice none 0 0] := bx1 hg (((Kept.refl g _).alloc o).trans hk)
theorem bx3 {o : Obj} (hg : g < W.heap.size) (hk : Kept g ((W.alloc o).alloc (.cells #[.int .i64 0, .int .i64 0, .int .i64 0, .bool false, .bool false, .int .i64 0, .int .i64 0, .string ⟨#[]⟩, .slice none 0 0] 34)) w') : Box9 (W.heap.size + 1) w' [.int .i64 0, .int .i64 0, .int .i64 0, .bool false, .bool false, .int .i64 0, .int .i64 0, .string ⟨#[]⟩, .slice none 0 0] := by
  have := bx1 (W := W.alloc o) (by simp; omega) hk
  rwa [World.size_alloc] at this
theorem box_open {B : Nat} {x0 x1 x2 x3 x4 x5 x6 x7 x8 : Value} (h : Box9 B W [x0, x1, x2, x3, x4, x5, x6, x7, x8]) : (W.cell? ⟨B, 0, none⟩ = some x0 ∧ W.cell? ⟨B, 1, none⟩ = some x1 ∧ W.cell? ⟨B, 2, none⟩ = some x2 ∧ W.cell? ⟨B, 3, none⟩ = some x3 ∧ W.cell? ⟨B, 4, none⟩ = some x4 ∧ W.cell? ⟨B, 5, none⟩ = some x5 ∧ W.cell? ⟨B, 6, none⟩ = some x6 ∧ W.cell? ⟨B, 7, none⟩ = some x7 ∧ W.cell? ⟨B, 8, none⟩ = some x8) ∧ ∀ o, W.frozen? ⟨B, o, none⟩ = false :=
  ⟨⟨h.2.2 0 (by decide), h.2.2 1 (by decide), h.2.2 2 (by decide), h.2.2 3 (by decide), h.2.2 4 (by decide), h.2.2 5 (by decide), h.2.2 6 (by decide), h.2.2 7 (by decide), h.2.2 8 (by decide)⟩, fun o => h.1.frozen o⟩
theorem box_past {B : Nat} {x0 x1 x2 x3 x4 x5 x6 x7 x8 : Value} (h : Box9 B W [x0, x1, x2, x3, x4, x5, x6, x7, x8]) : (∀ o, (W.alloc o).cell? ⟨B, 0, none⟩ = some x0) ∧ (∀ o, (W.alloc o).cell? ⟨B, 1, none⟩ = some x1) ∧ (∀ o, (W.alloc o).cell? ⟨B, 2, none⟩ = some x2) ∧ (∀ o, (W.alloc o).cell? ⟨B, 3, none⟩ = some x3) ∧ (∀ o, (W.alloc o).cell? ⟨B, 4, none⟩ = some x4) ∧ (∀ o, (W.alloc o).cell? ⟨B, 5, none⟩ = some x5) ∧
    (∀ o, (W.alloc o).cell? ⟨B, 6, none⟩ = some x6) ∧ (∀ o, (W.alloc o).cell? ⟨B, 7, none⟩ = some x7) ∧ (∀ o, (W.alloc o).cell? ⟨B, 8, none⟩ = some x8) ∧ ∀ o k, (W.alloc o).frozen? ⟨B, k, none⟩ = false := by
  have hk := fun o => h.keep (Below.heap_alloc W o _ h.lt)
  exact ⟨fun o => (box_open (hk o)).1.1, fun o => (box_open (hk o)).1.2.1, fun o => (box_open (hk o)).1.2.2.1, fun o => (box_open (hk o)).1.2.2.2.1, fun o => (box_open (hk o)).1.2.2.2.2.1, fun o => (box_open (hk o)).1.2.2.2.2.2.1, fun o => (box_open (hk o)).1.2.2.2.2.2.2.1, fun o => (box_open (hk o)).1.2.2.2.2.2.2.2.1, fun o => (box_open (hk o)).1.2.2.2.2.2.2.2.2, fun o => (box_open (hk o)).2⟩
end

theorem in64_by {n : Int} (h0 : -9000000000000000000 ≤ n) (h1 : n ≤ 9000000000000000000) : In64 n := ⟨by omega, by omega⟩
theorem leaf2 (S : Nat → Prop) (w : World) {k m : Int} {t : ByteArray} (hk : In64 k) (hm : In64 m) (ht : t.size ≤ 2 ^ 47) : TAt S w 2 ((k, m, t, ([] : List (Tm 1))) : Tm 2) (.int .i64 k) (.int .i64 m) (.string t) (.slice none 0 0) :=
  ⟨rfl, rfl, rfl, hk, hm, ht, none, 0, rfl, Nat.le_refl _, by simp, fun i hi => by cases hi⟩
theorem TAt.over {S : Nat → Prop} {w : World} : ∀ {t : Tm 2} {a b c d : Value}, TAt S w 2 t a b c d → TAt S w 2 (overN t) a (.int .i64 1000000000000001) c d
  | (_, _, _, _), _, _, _, _, ⟨h0, _, h2, h3, _, h5, h6⟩ => ⟨h0, rfl, h2, h3, by unfold In64; omega, h5, h6⟩
/-- What is put lies in one list: five lists of nine that differ from another one at some places alone. -/
theorem put_tail {x0 x1 x2 x3 x4 x5 x6 x7 x8 : Value} : ∀ j, j < [x5, x6, x7, x8].length → [x0, x1, x2, x3, x4, x5, x6, x7, x8][5 + j]? = [x5, x6, x7, x8][j]? := fun j hj => by
  have hj : j < 4 := hj
  rcases (show j = 0 ∨ j = 1 ∨ j = 2 ∨ j = 3 by omega) with rfl | rfl | rfl | rfl <;> rfl
theorem put_head (x0 x1 x2 x3 x4 : Value) {x5 x6 x7 x8 y5 y6 y7 y8 : Value} : ∀ j, j < 9 → j < 5 ∨ 5 + [x5, x6, x7, x8].length ≤ j → [x0, x1, x2, x3, x4, x5, x6, x7, x8][j]? = [x0, x1, x2, x3, x4, y5, y6, y7, y8][j]? := fun j hj h => by
  have h : j < 5 ∨ 9 ≤ j := h
  rcases (show j = 0 ∨ j = 1 ∨ j = 2 ∨ j = 3 ∨ j = 4 by omega) with rfl | rfl | rfl | rfl | rfl <;> rfl
theorem put_all {ds fs : List Value} (hf : fs.length = 9) : (∀ j, j < fs.length → fs[0 + j]? = fs[j]?) ∧ ∀ j, j < 9 → j < 0 ∨ 0 + fs.length ≤ j → fs[j]? = ds[j]? :=
  ⟨fun j _ => by rw [Nat.zero_add], fun j h1 h2 => by omega⟩
theorem put_0 {x0 x1 x2 x3 x4 x5 x6 x7 x8 y : Value} : (∀ j, j < [y].length → [y, x1, x2, x3, x4, x5, x6, x7, x8][0 + j]? = [y][j]?) ∧ ∀ j, j < 9 → j < 0 ∨ 0 + [y].length ≤ j → [y, x1, x2, x3, x4, x5, x6, x7, x8][j]? = [x0, x1, x2, x3, x4, x5, x6, x7, x8][j]? := by
  refine ⟨fun j hj => ?_, fun j hj h => ?_⟩
  · have hj : j < 1 := hj
    obtain rfl : j = 0 := by omega
    rfl
  · have h : j < 0 ∨ 1 ≤ j := h
    rcases (show j = 1 ∨ j = 2 ∨ j = 3 ∨ j = 4 ∨ j = 5 ∨ j = 6 ∨ j = 7 ∨ j = 8 by omega) with rfl | rfl | rfl | rfl | rfl | rfl | rfl | rfl <;> rfl
theorem put_1 {x0 x1 x2 x3 x4 x5 x6 x7 x8 y : Value} : (∀ j, j < [y].length → [x0, y, x2, x3, x4, x5, x6, x7, x8][1 + j]? = [y][j]?) ∧ ∀ j, j < 9 → j < 1 ∨ 1 + [y].length ≤ j → [x0, y, x2, x3, x4, x5, x6, x7, x8][j]? = [x0, x1, x2, x3, x4, x5, x6, x7, x8][j]? := by
  refine ⟨fun j hj => ?_, fun j hj h => ?_⟩
  · have hj : j < 1 := hj
    obtain rfl : j = 0 := by omega
    rfl
  · have h : j < 1 ∨ 2 ≤ j := h
    rcases (show j = 0 ∨ j = 2 ∨ j = 3 ∨ j = 4 ∨ j = 5 ∨ j = 6 ∨ j = 7 ∨ j = 8 by omega) with rfl | rfl | rfl | rfl | rfl | rfl | rfl | rfl <;> rfl
theorem put_2 {x0 x1 x2 x3 x4 x5 x6 x7 x8 y : Value} : (∀ j, j < [y].length → [x0, x1, y, x3, x4, x5, x6, x7, x8][2 + j]? = [y][j]?) ∧ ∀ j, j < 9 → j < 2 ∨ 2 + [y].length ≤ j → [x0, x1, y, x3, x4, x5, x6, x7, x8][j]? = [x0, x1, x2, x3, x4, x5, x6, x7, x8][j]? := by
  refine ⟨fun j hj => ?_, fun j hj h => ?_⟩
  · have hj : j < 1 := hj
    obtain rfl : j = 0 := by omega
    rfl
  · have h : j < 2 ∨ 3 ≤ j := h
    rcases (show j = 0 ∨ j = 1 ∨ j = 3 ∨ j = 4 ∨ j = 5 ∨ j = 6 ∨ j = 7 ∨ j = 8 by omega) with rfl | rfl | rfl | rfl | rfl | rfl | rfl | rfl <;> rfl
theorem put_6 {x0 x1 x2 x3 x4 x5 x6 x7 x8 y : Value} : (∀ j, j < [y].length → [x0, x1, x2, x3, x4, x5, y, x7, x8][6 + j]? = [y][j]?) ∧ ∀ j, j < 9 → j < 6 ∨ 6 + [y].length ≤ j → [x0, x1, x2, x3, x4, x5, y, x7, x8][j]? = [x0, x1, x2, x3, x4, x5, x6, x7, x8][j]? := by
  refine ⟨fun j hj => ?_, fun j hj h => ?_⟩
  · have hj : j < 1 := hj
    obtain rfl : j = 0 := by omega
    rfl
  · have h : j < 6 ∨ 7 ≤ j := h
    rcases (show j = 0 ∨ j = 1 ∨ j = 2 ∨ j = 3 ∨ j = 4 ∨ j = 5 ∨ j = 7 ∨ j = 8 by omega) with rfl | rfl | rfl | rfl | rfl | rfl | rfl | rfl <;> rfl

theorem put_0a {x1 x2 x3 x4 x5 x6 x7 x8 y : Value} : ∀ j, j < [y].length → [y, x1, x2, x3, x4, x5, x6, x7, x8][0 + j]? = [y][j]? := (put_0 (x0 := y)).1
theorem put_0b {x0 x1 x2 x3 x4 x5 x6 x7 x8 y : Value} : ∀ j, j < 9 → j < 0 ∨ 0 + [y].length ≤ j → [y, x1, x2, x3, x4, x5, x6, x7, x8][j]? = [x0, x1, x2, x3, x4, x5, x6, x7, x8][j]? := put_0.2
theorem put_1a {x0 x2 x3 x4 x5 x6 x7 x8 y : Value} : ∀ j, j < [y].length → [x0, y, x2, x3, x4, x5, x6, x7, x8][1 + j]? = [y][j]? := (put_1 (x1 := y)).1
theorem put_1b {x0 x1 x2 x3 x4 x5 x6 x7 x8 y : Value} : ∀ j, j < 9 → j < 1 ∨ 1 + [y].length ≤ j → [x0, y, x2, x3, x4, x5, x6, x7, x8][j]? = [x0, x1, x2, x3, x4, x5, x6, x7, x8][j]? := put_1.2
theorem put_2a {x0 x1 x3 x4 x5 x6 x7 x8 y : Value} : ∀ j, j < [y].length → [x0, x1, y, x3, x4, x5, x6, x7, x8][2 + j]? = [y][j]? := (put_2 (x2 := y)).1
theorem put_2b {x0 x1 x2 x3 x4 x5 x6 x7 x8 y : Value} : ∀ j, j < 9 → j < 2 ∨ 2 + [y].length ≤ j → [x0, x1, y, x3, x4, x5, x6, x7, x8][j]? = [x0, x1, x2, x3, x4, x5, x6, x7, x8][j]? := put_2.2
theorem put_6a {x0 x1 x2 x3 x4 x5 x7 x8 y : Value} : ∀ j, j < [y].length → [x0, x1, x2, x3, x4, x5, y, x7, x8][6 + j]? = [y][j]? := (put_6 (x6 := y)).1
theorem put_6b {x0 x1 x2 x3 x4 x5 x6 x7 x8 y : Value} : ∀ j, j < 9 → j < 6 ∨ 6 + [y].length ≤ j → [x0, x1, x2, x3, x4, x5, y, x7, x8][j]? = [x0, x1, x2, x3, x4, x5, x6, x7, x8][j]? := put_6.2

section
variable {g M B : Nat} {q : Src} {v : Value} {σ : Sig} {w W : World} {m : Int} {b1 b2 : Bool}
theorem in0 : In64 0 := in64_by (by decide) (by decide)
theorem in1 : In64 1 := in64_by (by decide) (by decide)
theorem box_made (hB : B = W.heap.size) (hs : StG g q v M σ w W) (hm : In64 m) :
    BoxG g q v M σ w B (W.alloc (.cells #[.int .i64 1, .int .i64 m, .int .i64 1, .bool b1, .bool b2, .int .i64 0, .int .i64 0, .string ⟨#[]⟩, .slice none 0 0] 34)) ((1, m, 1, b1, b2, tZ) : SgT 2) 0 0 ⟨#[]⟩ (.slice none 0 0) := by
  subst hB
  exact ⟨hs.alloc _, hs.room, Box9.new W [.int .i64 1, .int .i64 m, .int .i64 1, .bool b1, .bool b2, .int .i64 0, .int .i64 0, .string ⟨#[]⟩, .slice none 0 0] rfl _ rfl, in1, hm, in1, leaf2 _ _ (in64_by (by omega) (by omega)) (in64_by (by omega) (by omega)) (by decide)⟩
theorem box_early (hs : StG g q v M σ w W) (hb : Box9 B W [.int .i64 0, .int .i64 0, .int .i64 0, .bool false, .bool false, .int .i64 0, .int .i64 0, .string ⟨#[]⟩, .slice none 0 0]) (hB : w.heap.size + 1 ≤ B) (hm : In64 m) :
    BoxG g q v M σ w B (setL W B 0 [.int .i64 1, .int .i64 m, .int .i64 1, .bool b1, .bool b2, .int .i64 0, .int .i64 0, .string ⟨#[]⟩, .slice none 0 0]) ((1, m, 1, b1, b2, tZ) : SgT 2) 0 0 ⟨#[]⟩ (.slice none 0 0) := by
  have h : BoxG g q v M σ w B W ((0, 0, 0, false, false, tZ) : SgT 2) 0 0 ⟨#[]⟩ (.slice none 0 0) :=
    ⟨hs, hB, hb, in0, in0, in0, leaf2 _ _ (in64_by (by omega) (by omega)) (in64_by (by omega) (by omega)) (by decide)⟩
  exact h.put (p' := ((1, m, 1, b1, b2, tZ) : SgT 2)) (by simp) (put_all (ds := []) rfl).1 (put_all rfl).2 in1 hm in1 (leaf2 _ _ (in64_by (by omega) (by omega)) (in64_by (by omega) (by omega)) (by decide))
theorem Box9.past {ds : List Value} (h : Box9 B W ds) (o : Obj) : Box9 B (W.alloc o) ds := h.keep (Below.heap_alloc W o _ h.lt)
theorem BoxG.past {p : SgT 2} {k n : Int} {t : ByteArray} {c : Value} (h : BoxG g q v M σ w B W p k n t c) (o : Obj) : BoxG g q v M σ w B (W.alloc o) p k n t c := h.below ((Below.refl _ _).alloc (Nat.le_refl _) _)
end

def segCost : Nat := 300
def SegEndD (g : Nat) (q : Src) (v : Value) (N : Nat) (σ0 : Sig) (w : World) (e : Ending) (w' : World) : Prop :=
  ∃ (p : SgT 2) (k m : Int) (s : ByteArray) (a : Option Addr) (l c : Nat) (σ' : Sig), segF q σ0 = (p, σ') ∧ e = .returned (.agg #[.int .i64 p.1, .int .i64 p.2.1, .int .i64 p.2.2.1, .bool p.2.2.2.1, .bool p.2.2.2.2.1, .int .i64 k, .int .i64 m, .string s, .slice a l c]) ∧
    SgAt (From w.heap.size w') w' 2 p [.int .i64 p.1, .int .i64 p.2.1, .int .i64 p.2.2.1, .bool p.2.2.2.1, .bool p.2.2.2.2.1, .int .i64 k, .int .i64 m, .string s, .slice a l c] ∧ CurD g q v (N + segCost) σ' w' ∧ Kept g w w'

theorem seg_end {g M N B : Nat} {q : Src} {v : Value} {σ0 σ : Sig} {w w1 : World} {p : SgT 2} {k m : Int} {s : ByteArray} {a : Option Addr} {l c : Nat} (h : BoxG g q v M σ w B w1 p k m s (.slice a l c)) (hF : segF q σ0 = (p, σ)) (hM : M ≤ N + segCost) :
    SegEndD g q v N σ0 w (.returned (.agg #[.int .i64 p.1, .int .i64 p.2.1, .int .i64 p.2.2.1, .bool p.2.2.2.1, .bool p.2.2.2.2.1, .int .i64 k, .int .i64 m, .string s, .slice a l c]))
      (setL w1 w.heap.size 0 [.int .i64 p.1, .int .i64 p.2.1, .int .i64 p.2.2.1, .bool p.2.2.2.1, .bool p.2.2.2.2.1, .int .i64 k, .int .i64 m, .string s, .slice a l c]) := by
  obtain ⟨r1, r2, r3, r4, r5⟩ := setL_facts [.int .i64 p.1, .int .i64 p.2.1, .int .i64 p.2.2.1, .bool p.2.2.2.1, .bool p.2.2.2.2.1, .int .i64 k, .int .i64 m, .string s, .slice a l c] h.st.res (o := 0) (by simp)
  have hg := h.st.gl
  refine ⟨p, k, m, s, a, l, c, σ, hF, rfl, ⟨_, _, _, _, rfl, h.i1, h.i2, h.i3, (h.val.keep fun b hb => r4 b (by have := hb.1; omega)).mono fun b hb => ⟨by have := hb.1; omega, by rw [r5]; exact hb.2.1⟩⟩, ?_, ?_⟩
  · exact (h.st.cur.low fun b hb => r4 b (by omega)).mono hM
  · exact h.st.kept.both ⟨r3.os, r3.tape, r3.output, by rw [r5]; exact Nat.le_refl _, fun b _ hb => r4 b hb⟩ (Nat.le_refl _)

end Go.Proofs.YtcgbonlffcpofaaGreatDoor
