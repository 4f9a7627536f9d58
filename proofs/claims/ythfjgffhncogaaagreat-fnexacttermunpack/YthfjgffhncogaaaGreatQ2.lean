/- The walks of eqTerm and eqTermS where both are the same term, by induction on the depth. -/
import Derived.Test.YthfjgffhncogaaaGreatQ1
namespace Go.Proofs.YthfjgffhncogaaaGreat
open Go.RowKit

def EqSaid (n : Nat) : Prop := ∀ (t : Tm n) (c0 c1 c2 c3 d0 d1 d2 d3 : Value) (w : World), TAt (Under w.heap.size) w n t c0 c1 c2 c3 → TAt (Under w.heap.size) w n t d0 d1 d2 d3 →
  Calls Tryz.prog 22 #[.agg #[c0, c1, c2, c3], .agg #[d0, d1, d2, d3]] w fun e w' => e = .returned (.bool true) ∧ Below w.heap.size w w'

def EqSSaid (n : Nat) : Prop := ∀ (ks : List (Tm n)) (u v : Value) (w : World), SAt (Under w.heap.size) w (TAt (Under w.heap.size) w n) ks u → SAt (Under w.heap.size) w (TAt (Under w.heap.size) w n) ks v →
  Calls Tryz.prog 48 #[u, v] w fun e w' => e = .returned (.bool true) ∧ Below w.heap.size w w'

set_option maxHeartbeats 1000000 in
theorem eqS_of {n : Nat} (h : EqSaid n) : EqSSaid n := by
  intro ks u v w hu hv
  have hu0 := hu
  have hv0 := hv
  obtain ⟨a, cap, rfl, hlen, hcap, hel⟩ := hu
  obtain ⟨a', cap', rfl, hlen', hcap', hel'⟩ := hv
  have hl1 : ((ks.length : Int) != (ks.length : Int)) = false := by simp
  go_enter Tryz.func48, Tryz.ntmps48
  go_wp2_with fail
  go_loopw [5] (fun iv wr => ∃ k : Nat, k ≤ ks.length ∧ iv = .int .i64 k ∧ Below w.heap.size w wr) (fun iv _ => ks.length - (intOf iv).toNat)
  case atStart => exact ⟨0, by omega, rfl, Below.refl _ _⟩
  case round =>
    obtain ⟨k, hk, rfl, hb⟩ := hrel
    by_cases hlt : k < ks.length
    · obtain ⟨b, off, d0, d1, d2, d3, rfl, hS, e0, e1, e2, e3, hr⟩ := hel k hlt
      obtain ⟨b', off', d0', d1', d2', d3', rfl, hS', e0', e1', e2', e3', hr'⟩ := hel' k hlt
      have F0 : ∀ x : LaterW w.heap.size wr, x.wd.cell? ⟨b, off + k * 4, none⟩ = some d0 := fun x => ((bcell (hb.trans x.be)) b _ hS).trans e0
      have F1 : ∀ x : LaterW w.heap.size wr, x.wd.cell? ⟨b, off + k * 4 + 1, none⟩ = some d1 := fun x => ((bcell (hb.trans x.be)) b _ hS).trans e1
      have F2 : ∀ x : LaterW w.heap.size wr, x.wd.cell? ⟨b, off + k * 4 + 2, none⟩ = some d2 := fun x => ((bcell (hb.trans x.be)) b _ hS).trans e2
      have F3 : ∀ x : LaterW w.heap.size wr, x.wd.cell? ⟨b, off + k * 4 + 3, none⟩ = some d3 := fun x => ((bcell (hb.trans x.be)) b _ hS).trans e3
      have G0 : ∀ x : LaterW w.heap.size wr, x.wd.cell? ⟨b', off' + k * 4, none⟩ = some d0' := fun x => ((bcell (hb.trans x.be)) b' _ hS').trans e0'
      have G1 : ∀ x : LaterW w.heap.size wr, x.wd.cell? ⟨b', off' + k * 4 + 1, none⟩ = some d1' := fun x => ((bcell (hb.trans x.be)) b' _ hS').trans e1'
      have G2 : ∀ x : LaterW w.heap.size wr, x.wd.cell? ⟨b', off' + k * 4 + 2, none⟩ = some d2' := fun x => ((bcell (hb.trans x.be)) b' _ hS').trans e2'
      have G3 : ∀ x : LaterW w.heap.size wr, x.wd.cell? ⟨b', off' + k * 4 + 3, none⟩ = some d3' := fun x => ((bcell (hb.trans x.be)) b' _ hS').trans e3'
      clear e0 e1 e2 e3 e0' e1' e2' e3' hu0 hv0
      go_wp2_with fail
      haveI hne : Nonempty (LaterW w.heap.size wr) := ⟨⟨wr, Below.refl _ _⟩⟩
      refine wp_region_later w.heap.size (by kernel_rfl) (by kernel_rfl) ?_
      repeat (go_big_quiet_step ((go_at_call 22; rename_i x; refine Calls.later (v := .bool true) hb.size (h _ _ _ _ _ _ _ _ _ _ (hr.up (hb.trans x.be)) (hr'.up (hb.trans x.be))))))
      refine wpQuiet_nil ?_
      rintro _ ⟨⟨wq, hq⟩, rfl⟩
      go_wp2_with fail
      go_roundw
      case rel => exact ⟨k + 1, hlt, by go_num, hb.trans hq⟩
      case measure => simp [intOf]; omega
    · go_wp2_with fail
      go_ret
      exact ⟨rfl, hb⟩

theorem below_two (w : World) (o o' : Obj) : Below w.heap.size w ((w.alloc o).alloc o') :=
  ((Below.refl _ _).alloc (Nat.le_refl _) _).alloc (by simp) _

set_option maxHeartbeats 1000000 in
theorem eq_of {n : Nat} (h : EqSSaid n) : EqSaid (n + 1) := by
  rintro ⟨kd, m, s, ks⟩ c0 c1 c2 c3 d0 d1 d2 d3 w ⟨rfl, rfl, rfl, hk, hm, hs, hks⟩ ⟨rfl, rfl, rfl, _, _, _, hks'⟩
  go_enter Tryz.func22, Tryz.ntmps22
  go_wp2_with (go_at_call 48; refine (h _ _ _ _ (hks.up (below_two _ _ _)) (hks'.up (below_two _ _ _))).mono ?_; rintro e w' ⟨rfl, hb2⟩)
  go_ret
  exact ⟨rfl, (below_two _ _ _).trans (hb2.mono (by simp; omega))⟩

theorem eq_any : ∀ n, EqSaid n
  | 0 => fun t => t.elim
  | n + 1 => eq_of (eqS_of (eq_any n))

end Go.Proofs.YthfjgffhncogaaaGreat
/- The walks of toTerm and toTermS: a copy in new memory, by induction on the depth. -/
namespace Go.Proofs.YthfjgffhncogaaaGreat
open Go.RowKit

/-- Blocks that are there in w' and weren't in w. -/
abbrev Fresh (w w' : World) : Nat → Prop := fun b => w.heap.size ≤ b ∧ b < w'.heap.size

def ToSaid (n : Nat) : Prop := ∀ (t : Tm n) (c0 c1 c2 c3 : Value) (w : World), TAt (Under w.heap.size) w n t c0 c1 c2 c3 → tot n t ≤ 1048576 →
  Calls Tryz.prog 21 #[.agg #[c0, c1, c2, c3]] w fun e w' => ∃ d0 d1 d2 d3, e = .returned (.agg #[d0, d1, d2, d3]) ∧ TAt (Fresh w w') w' n t d0 d1 d2 d3 ∧ Below w.heap.size w w'

def ToSSaid (n : Nat) : Prop := ∀ (ks : List (Tm n)) (v : Value) (w : World), SAt (Under w.heap.size) w (TAt (Under w.heap.size) w n) ks v → ks.length + totS ks ≤ 1048576 →
  Calls Tryz.prog 47 #[v] w fun e w' => ∃ u, e = .returned u ∧ SAt (Fresh w w') w' (TAt (Fresh w w') w' n) ks u ∧ Below w.heap.size w w'

/-- The cells of a new slice of terms. -/
def zeros (n : Nat) : Array Value := madeCells #[.int .i64 0, .int .i64 0, .string ⟨#[]⟩, .slice none 0 0] n
theorem zeros_size (n : Nat) : (zeros n).size = n := size_madeCells _ _

theorem run_mk (n : Nat) (hn : n ≤ 1048576) (w : World) : (Instr.makeSlice 24 (.int .i64 n) (.int .i64 n)).run Tryz.prog w =
    .ok (.slice (some ⟨w.heap.size, 0, none⟩) n n) (w.alloc (.cells (zeros (n * 4)) 26)) := by
  have := run_make (P := Tryz.prog) w 24 26 (Tryz.prog.types[26]!) (.agg #[.int .i64 0, .int .i64 0, .string ⟨#[]⟩, .slice none 0 0]) (by kernel_rfl) (by kernel_rfl) (by kernel_rfl) .i64 .i64 n n (by omega) (Int.le_refl _)
    (by rw [show (Tryz.prog.types[26]!).bytes = 56 from by kernel_rfl]; omega) (by omega)
  rw [this, show (Tryz.prog.types[26]!).size = 4 from by kernel_rfl]
  rfl

/-- A row of N cells, block B, none frozen. -/
def Row (B : Nat) (e : TypeId) (N : Nat) (w : World) : Prop := ∃ arr, w.heap[B]? = some (.cells arr e (0, 0)) ∧ arr.size = N

theorem Row.cell {B N : Nat} {e : TypeId} {w : World} (h : Row B e N w) {o : Nat} (ho : o < N) : (∃ v, w.cell? ⟨B, o, none⟩ = some v) := by
  obtain ⟨arr, h1, h2⟩ := h
  exact ⟨arr[o]'(by omega), by simp [World.cell?, h1, h2, ho]⟩
theorem Row.lt {B N : Nat} {e : TypeId} {w : World} (h : Row B e N w) : B < w.heap.size := by
  obtain ⟨arr, h1, h2⟩ := h
  rcases Nat.lt_or_ge B w.heap.size with h | h
  · exact h
  · rw [Array.getElem?_eq_none h] at h1; cases h1
theorem Row.frozen {B N : Nat} {e : TypeId} {w : World} (h : Row B e N w) (o : Nat) : w.frozen? ⟨B, o, none⟩ = false := by
  obtain ⟨arr, h1, h2⟩ := h
  simp [World.frozen?, h1]
theorem Row.keep {B N : Nat} {e : TypeId} {w w' : World} (h : Row B e N w) (hb : w'.heap[B]? = w.heap[B]?) : Row B e N w' := by
  obtain ⟨arr, h1, h2⟩ := h
  exact ⟨arr, by rw [hb, h1], h2⟩
theorem Row.setHeap {B : Nat} {e : TypeId} {w : World} {arr : Array Value} (h1 : w.heap[B]? = some (.cells arr e (0, 0))) (o : Nat) (v : Value) :
    (w.setCell ⟨B, o, none⟩ v).heap[B]? = some (.cells (arr.setIfInBounds o v) e (0, 0)) := by
  simp only [World.setCell, Array.getElem?_modify, if_true, h1, Option.map_some, Option.isSome_none, Bool.false_eq_true, if_false]
theorem Row.set {B N : Nat} {e : TypeId} {w : World} (h : Row B e N w) (o : Nat) (v : Value) : Row B e N (w.setCell ⟨B, o, none⟩ v) := by
  obtain ⟨arr, h1, h2⟩ := h
  exact ⟨arr.setIfInBounds o v, Row.setHeap h1 o v, by simp [h2]⟩
theorem Row.set_get {B N : Nat} {e : TypeId} {w : World} (h : Row B e N w) {o : Nat} (ho : o < N) (v : Value) : (w.setCell ⟨B, o, none⟩ v).cell? ⟨B, o, none⟩ = some v := by
  obtain ⟨arr, h1, h2⟩ := h
  simp [World.cell?, Row.setHeap h1 o v, h2, ho]
theorem Row.set_ne {B N : Nat} {e : TypeId} {w : World} (h : Row B e N w) {o o' : Nat} (hne : o ≠ o') (v : Value) : (w.setCell ⟨B, o, none⟩ v).cell? ⟨B, o', none⟩ = w.cell? ⟨B, o', none⟩ := by
  obtain ⟨arr, h1, h2⟩ := h
  simp [World.cell?, Row.setHeap h1 o v, h1, hne]
theorem Row.new {e : TypeId} (w : World) (arr : Array Value) : Row w.heap.size e arr.size (w.alloc (.cells arr e)) := ⟨arr, by show (w.heap.push _)[_]? = _; simp, rfl⟩

theorem frozen_of_heap {w : World} {b : Nat} {arr : Array Value} {e : TypeId} (h : w.heap[b]? = some (.cells arr e (0, 0))) (o : Nat) : w.frozen? ⟨b, o, none⟩ = false := by simp [World.frozen?, h]

/-- Four cells stored, one behind the other. -/
def set4 (w : World) (B o : Nat) (d0 d1 d2 d3 : Value) : World :=
  (((w.setCell ⟨B, o, none⟩ d0).setCell ⟨B, o + 1, none⟩ d1).setCell ⟨B, o + 2, none⟩ d2).setCell ⟨B, o + 3, none⟩ d3

theorem set4_facts {B N : Nat} {e : TypeId} {w : World} (h : Row B e N w) {o : Nat} (ho : o + 3 < N) (d0 d1 d2 d3 : Value) :
    Row B e N (set4 w B o d0 d1 d2 d3) ∧ (set4 w B o d0 d1 d2 d3).cell? ⟨B, o, none⟩ = some d0 ∧ (set4 w B o d0 d1 d2 d3).cell? ⟨B, o + 1, none⟩ = some d1 ∧
    (set4 w B o d0 d1 d2 d3).cell? ⟨B, o + 2, none⟩ = some d2 ∧ (set4 w B o d0 d1 d2 d3).cell? ⟨B, o + 3, none⟩ = some d3 ∧
    (∀ o', o' < o → (set4 w B o d0 d1 d2 d3).cell? ⟨B, o', none⟩ = w.cell? ⟨B, o', none⟩) ∧ Below B w (set4 w B o d0 d1 d2 d3) ∧
    (∀ b, b ≠ B → (set4 w B o d0 d1 d2 d3).heap[b]? = w.heap[b]?) := by
  have r1 := h.set o d0
  have r2 := r1.set (o + 1) d1
  have r3 := r2.set (o + 2) d2
  have r4 := r3.set (o + 3) d3
  refine ⟨r4, ?_, ?_, ?_, ?_, fun o' ho' => ?_, ?_, fun b hb => ?_⟩ <;> unfold set4
  · rw [r3.set_ne (by omega), r2.set_ne (by omega), r1.set_ne (by omega), h.set_get (by omega)]
  · rw [r3.set_ne (by omega), r2.set_ne (by omega), r1.set_get (by omega)]
  · rw [r3.set_ne (by omega), r2.set_get (by omega)]
  · rw [r3.set_get (by omega)]
  · rw [r3.set_ne (by omega), r2.set_ne (by omega), r1.set_ne (by omega), h.set_ne (by omega)]
  · exact ((((Below.refl B w).setCell (p := ⟨B, _, none⟩) (Nat.le_refl B) _).setCell (p := ⟨B, _, none⟩) (Nat.le_refl B) _).setCell (p := ⟨B, _, none⟩) (Nat.le_refl B) _).setCell (p := ⟨B, _, none⟩) (Nat.le_refl B) _
  · rw [Below.heap_setCell _ _ _ _ hb, Below.heap_setCell _ _ _ _ hb, Below.heap_setCell _ _ _ _ hb, Below.heap_setCell _ _ _ _ hb]

set_option maxHeartbeats 1000000 in
theorem toS_of {n : Nat} (h : ToSaid n) : ToSSaid n := by
  intro ks v w hv htot
  obtain ⟨a, cap, rfl, hlen, hcap, hel⟩ := hv
  have hmk := run_mk ks.length (by omega)
  go_enter Tryz.func47, Tryz.ntmps47
  go_wp2_with fail
  clear hmk
  go_loopw [4] (fun iv wr => ∃ k : Nat, k ≤ ks.length ∧ iv = .int .i64 k ∧ Below w.heap.size w wr ∧ Row w.heap.size 26 (ks.length * 4) wr ∧
      ∀ j (hj : j < ks.length), j < k → ∃ d0 d1 d2 d3, wr.cell? ⟨w.heap.size, j * 4, none⟩ = some d0 ∧ wr.cell? ⟨w.heap.size, j * 4 + 1, none⟩ = some d1 ∧
        wr.cell? ⟨w.heap.size, j * 4 + 2, none⟩ = some d2 ∧ wr.cell? ⟨w.heap.size, j * 4 + 3, none⟩ = some d3 ∧ TAt (fun b => w.heap.size < b ∧ b < wr.heap.size) wr n ks[j] d0 d1 d2 d3) (fun iv _ => ks.length - (intOf iv).toNat)
  case atStart =>
    refine ⟨0, by omega, rfl, (Below.refl _ _).alloc (Nat.le_refl _) _, ?_, fun j _ hj => absurd hj (by omega)⟩
    have := Row.new (e := 26) w (zeros (ks.length * 4))
    rwa [zeros_size] at this
  case round =>
    obtain ⟨k, hk, rfl, hb, hrow, hall⟩ := hrel
    by_cases hlt : k < ks.length
    · obtain ⟨b, off, d0, d1, d2, d3, rfl, hS, e0, e1, e2, e3, hr⟩ := hel k hlt
      have hbc := bcell hb
      have f0 := (hbc b _ hS).trans e0
      have f1 := (hbc b _ hS).trans e1
      have f2 := (hbc b _ hS).trans e2
      have f3 := (hbc b _ hS).trans e3
      have ht : tot n ks[k] ≤ 1048576 := by
        have := totS_take ks k hlt
        have := totS_le ks (k + 1)
        omega
      clear hbc e0 e1 e2 e3
      go_wp2_with fail
      refine (h _ _ _ _ _ _ (hr.up hb) ht).mono ?_
      rintro e w1 ⟨g0, g1, g2, g3, rfl, hg, hb1⟩
      have hrow1 := hrow.keep (hb1.block _ hrow.lt)
      obtain ⟨v0, x0⟩ := hrow1.cell (o := k * 4) (by omega)
      obtain ⟨v1, x1⟩ := hrow1.cell (o := k * 4 + 1) (by omega)
      obtain ⟨v2, x2⟩ := hrow1.cell (o := k * 4 + 2) (by omega)
      obtain ⟨v3, x3⟩ := hrow1.cell (o := k * 4 + 3) (by omega)
      have z0 := hrow1.frozen (k * 4)
      have z1 := hrow1.frozen (k * 4 + 1)
      have z2 := hrow1.frozen (k * 4 + 2)
      have z3 := hrow1.frozen (k * 4 + 3)
      obtain ⟨gk, gm, gs, ga, gl, gc, rfl, rfl, rfl, rfl⟩ := hg.shape
      have HF : Hid _ := set4_facts hrow1 (o := k * 4) (by omega) (.int .i64 gk) (.int .i64 gm) (.string gs) (.slice ga gl gc)
      clear f0 f1 f2 f3
      go_wp2_with fail
      clear x0 x1 x2 x3 z0 z1 z2 z3
      obtain ⟨s1, s2, s3, s4, s5, s6, s7, s8⟩ := HF.out
      go_roundw
      case rel =>
        refine ⟨k + 1, hlt, by go_num, (hb.trans (hb1.mono hb.size)).trans s7, s1, fun j hj hjk => ?_⟩
        by_cases hjk2 : j = k
        · subst hjk2
          refine ⟨_, _, _, _, s2, s3, s4, s5, ?_⟩
          have hlt2 := hrow.lt
          exact (hg.keep fun b hb => s8 b (by omega)).mono fun b hb => ⟨by omega, Nat.lt_of_lt_of_le hb.2 s7.size⟩
        · obtain ⟨q0, q1, q2, q3, y0, y1, y2, y3, hq⟩ := hall j hj (by omega)
          have hkeep : ∀ b, (w.heap.size < b ∧ b < wr.heap.size) → (set4 w1 w.heap.size (k * 4) (.int .i64 gk) (.int .i64 gm) (.string gs) (.slice ga gl gc)).heap[b]? = wr.heap[b]? :=
            fun b hb => (s8 b (by omega)).trans (hb1.block b hb.2)
          have hc1 : ∀ o, w1.cell? ⟨w.heap.size, o, none⟩ = wr.cell? ⟨w.heap.size, o, none⟩ := fun o => World.cell?_of_block (w := wr) (hb1.block _ hrow.lt)
          refine ⟨q0, q1, q2, q3, ?_, ?_, ?_, ?_, (hq.keep hkeep).mono fun b hb => ⟨hb.1, Nat.lt_of_lt_of_le hb.2 (Nat.le_trans hb1.size s7.size)⟩⟩
          · exact ((s6 _ (by omega)).trans (hc1 _)).trans y0
          · exact ((s6 _ (by omega)).trans (hc1 _)).trans y1
          · exact ((s6 _ (by omega)).trans (hc1 _)).trans y2
          · exact ((s6 _ (by omega)).trans (hc1 _)).trans y3
      case measure => simp [intOf]; omega
    · have hkk : k = ks.length := by omega
      subst hkk
      have hlt2 := hrow.lt
      go_wp2_with fail
      go_ret
      refine ⟨_, rfl, ⟨_, _, rfl, Nat.le_refl _, by omega, fun i hi => ?_⟩, hb⟩
      obtain ⟨q0, q1, q2, q3, y0, y1, y2, y3, hq⟩ := hall i hi hi
      exact ⟨_, 0, q0, q1, q2, q3, rfl, ⟨Nat.le_refl _, hlt2⟩, by simpa using y0, by simpa using y1, by simpa using y2, by simpa using y3, hq.mono fun b hb => ⟨by omega, hb.2⟩⟩

set_option maxHeartbeats 1000000 in
theorem to_of {n : Nat} (h : ToSSaid n) : ToSaid (n + 1) := by
  rintro ⟨kd, m, s, ks⟩ c0 c1 c2 c3 w ⟨rfl, rfl, rfl, hk, hm, hs, hks⟩ ht
  have hdef : tot (n + 1) (kd, m, s, ks) = s.size + (ks.length + totS ks) := rfl
  rw [hdef] at ht
  clear hdef
  go_enter Tryz.func21, Tryz.ntmps21
  go_wp2_with fail
  have hb3 : Below w.heap.size w (((w.alloc (.cells #[.int .i64 kd, .int .i64 m, .string s, c3] 38)).alloc (.cells #[.int .i64 0, .int .i64 0, .string ⟨#[]⟩, .slice none 0 0] 26)).alloc (.cells #[.int .i64 kd, .int .i64 m, .string s, .slice none 0 0] 26)) :=
    (below_two _ _ _).alloc (by simp; omega) _
  refine (h _ _ _ (hks.up hb3) (by omega)).mono ?_
  rintro e w1 ⟨u, rfl, hu, hb1⟩
  have HU := hide hu
  obtain ⟨ua, uc, rfl, -, -, -⟩ := hu
  have hblk := hb1.block
  have hh1 : w1.heap[w.heap.size + 1]? = some (.cells #[.int .i64 0, .int .i64 0, .string ⟨#[]⟩, .slice none 0 0] 26) := by
    rw [hblk _ (by simp), Below.heap_alloc _ _ _ (by simp)]
    have := heap_new (w.alloc (.cells #[.int .i64 kd, .int .i64 m, .string s, c3] 38)) (.cells #[.int .i64 0, .int .i64 0, .string ⟨#[]⟩, .slice none 0 0] 26)
    rwa [World.size_alloc] at this
  have hh2 : w1.heap[w.heap.size + 1 + 1]? = some (.cells #[.int .i64 kd, .int .i64 m, .string s, .slice none 0 0] 26) := by
    rw [hblk _ (by simp)]
    have := heap_new ((w.alloc (.cells #[.int .i64 kd, .int .i64 m, .string s, c3] 38)).alloc (.cells #[.int .i64 0, .int .i64 0, .string ⟨#[]⟩, .slice none 0 0] 26)) (.cells #[.int .i64 kd, .int .i64 m, .string s, .slice none 0 0] 26)
    rwa [World.size_alloc, World.size_alloc] at this
  have h1 := cell_of_heap hh1
  have h2 := cell_of_heap hh2
  have f1 := frozen_of_heap hh1
  have f2 := frozen_of_heap hh2
  have hsz : w.heap.size + 1 + 1 + 1 ≤ w1.heap.size := by simpa using hb1.size
  have HB : Hid (Below w.heap.size w w1) := hb3.trans (hb1.mono (by simp; omega))
  clear hblk hh1 hh2
  go_wp2_with fail
  refine bodyPost_ret (v := .agg #[.int .i64 kd, .int .i64 m, .string s, .slice ua ks.length uc]) (by simp [results, Tryz.results21, go_sem, h1]) rfl ⟨_, _, _, _, rfl, ⟨rfl, rfl, rfl, hk, hm, hs, ?_⟩, ?_⟩
  · have hkeep : ∀ b, w.heap.size + 1 + 1 + 1 ≤ b → (((((w1.setCell ⟨w.heap.size + 1 + 1, 3, none⟩ (.slice ua ks.length uc)).setCell ⟨w.heap.size + 1, 0, none⟩ (.int .i64 kd)).setCell ⟨w.heap.size + 1, 1, none⟩ (.int .i64 m)).setCell
        ⟨w.heap.size + 1, 2, none⟩ (.string s)).setCell ⟨w.heap.size + 1, 3, none⟩ (.slice ua ks.length uc)).heap[b]? = w1.heap[b]? := fun b hb => by
      rw [Below.heap_setCell _ _ _ _ (by simp; omega), Below.heap_setCell _ _ _ _ (by simp; omega), Below.heap_setCell _ _ _ _ (by simp; omega), Below.heap_setCell _ _ _ _ (by simp; omega), Below.heap_setCell _ _ _ _ (by simp; omega)]
    have hf : ∀ b, Fresh (((w.alloc (.cells #[.int .i64 kd, .int .i64 m, .string s, c3] 38)).alloc (.cells #[.int .i64 0, .int .i64 0, .string ⟨#[]⟩, .slice none 0 0] 26)).alloc (.cells #[.int .i64 kd, .int .i64 m, .string s, .slice none 0 0] 26)) w1 b →
        w.heap.size + 1 + 1 + 1 ≤ b ∧ b < w1.heap.size := fun b hb => by simpa [Fresh] using hb
    have hk2 := fun b hb => hkeep b (hf b hb).1
    exact ((unhide HU).keep hk2 fun _ _ _ _ _ _ ht => ht.keep hk2).mono (fun b hb => ⟨by have := hf b hb; omega, by have := hf b hb; simpa using this.2⟩) fun _ _ _ _ _ _ ht => ht.mono fun b hb => ⟨by have := hf b hb; omega, by have := hf b hb; simpa using this.2⟩
  · exact (((((HB.out.setCell (p := ⟨_, _, none⟩) (by simp; omega) _).setCell (p := ⟨_, _, none⟩) (by simp) _).setCell (p := ⟨_, _, none⟩) (by simp) _).setCell (p := ⟨_, _, none⟩) (by simp) _).setCell (p := ⟨_, _, none⟩) (by simp) _)

theorem to_any : ∀ n, ToSaid n
  | 0 => fun t => t.elim
  | n + 1 => to_of (toS_of (to_any n))

end Go.Proofs.YthfjgffhncogaaaGreat
/- Letters, digits, names: the bytes' tests and the names' of both packages. -/
namespace Go.Proofs.YthfjgffhncogaaaGreat
open Go.RowKit

def lowB (b : Int) : Bool := decide (97 ≤ b) && decide (b ≤ 122)
def digB (b : Int) : Bool := decide (48 ≤ b) && decide (b ≤ 57)
def letB (b : Int) : Bool := lowB b || (decide (65 ≤ b) && decide (b ≤ 90)) || decide (b = 95)

theorem lowB_true {b : Int} : lowB b = true ↔ 97 ≤ b ∧ b ≤ 122 := by simp [lowB]
theorem digB_true {b : Int} : digB b = true ↔ 48 ≤ b ∧ b ≤ 57 := by simp [digB]
theorem letB_true {b : Int} : letB b = true ↔ (97 ≤ b ∧ b ≤ 122) ∨ (65 ≤ b ∧ b ≤ 90) ∨ b = 95 := by simp [letB, lowB, or_assoc]
theorem of_iff {b : Bool} {p : Prop} (h : b = true ↔ p) (hn : ¬ p) : b = false := by cases b <;> simp_all
theorem ret_bool {a b : Bool} (h : a = b) : Ending.returned (.bool a) = .returned (.bool b) := by rw [h]

set_option maxHeartbeats 400000 in
theorem lower_any (b : Int) (w : World) : Calls Tryz.prog 73 #[.int .u8 b] w fun e w' => e = .returned (.bool (lowB b)) ∧ w' = w := by
  by_cases h1 : 97 ≤ b
  · by_cases h2 : b ≤ 122
    all_goals
      go_enter Tryz.func73, Tryz.ntmps73
      go_wp2
      go_ret
      exact ⟨ret_bool (by simp only [lowB]; simp; omega), rfl⟩
  · go_enter Tryz.func73, Tryz.ntmps73
    go_wp2
    go_ret
    exact ⟨ret_bool (by simp only [lowB]; simp; omega), rfl⟩

set_option maxHeartbeats 400000 in
theorem digit_any (b : Int) (w : World) : Calls Tryz.prog 71 #[.int .u8 b] w fun e w' => e = .returned (.bool (digB b)) ∧ w' = w := by
  by_cases h1 : 48 ≤ b
  · by_cases h2 : b ≤ 57
    all_goals
      go_enter Tryz.func71, Tryz.ntmps71
      go_wp2
      go_ret
      exact ⟨ret_bool (by simp only [digB]; simp; omega), rfl⟩
  · go_enter Tryz.func71, Tryz.ntmps71
    go_wp2
    go_ret
    exact ⟨ret_bool (by simp only [digB]; simp; omega), rfl⟩

set_option maxHeartbeats 400000 in
theorem letter_any (b : Int) (w : World) : Calls Tryz.prog 74 #[.int .u8 b] w fun e w' => e = .returned (.bool (letB b)) ∧ w' = w := by
  by_cases h1 : lowB b = true
  · have h2 := lowB_true.1 h1
    go_enter Tryz.func74, Tryz.ntmps74
    go_wp2_with (go_at_call 73; refine (lower_any _ _).mono ?_; rintro e w' ⟨rfl, rfl⟩; rw [h1])
    go_ret
    exact ⟨ret_bool (letB_true.2 (by omega)).symm, rfl⟩
  · have h2 : lowB b = false := by simpa using h1
    by_cases h3 : 65 ≤ b
    · by_cases h4 : b ≤ 90
      · go_enter Tryz.func74, Tryz.ntmps74
        go_wp2_with (go_at_call 73; refine (lower_any _ _).mono ?_; rintro e w' ⟨rfl, rfl⟩; rw [h2])
        go_ret
        exact ⟨ret_bool (letB_true.2 (by omega)).symm, rfl⟩
      · go_enter Tryz.func74, Tryz.ntmps74
        go_wp2_with (go_at_call 73; refine (lower_any _ _).mono ?_; rintro e w' ⟨rfl, rfl⟩; rw [h2])
        go_ret
        exact ⟨ret_bool (by rw [Bool.eq_iff_iff]; simp [letB, h2]; omega), rfl⟩
    · go_enter Tryz.func74, Tryz.ntmps74
      go_wp2_with (go_at_call 73; refine (lower_any _ _).mono ?_; rintro e w' ⟨rfl, rfl⟩; rw [h2])
      go_ret
      exact ⟨ret_bool (by rw [Bool.eq_iff_iff]; simp [letB, h2]; omega), rfl⟩

/-- A byte that may stand in a name. -/
def nbB (b : UInt8) : Bool := letB b.toNat || digB b.toNat
/-- A name of chapter 1. -/
def nameB (s : ByteArray) : Bool := decide (0 < s.size) && decide (s.size ≤ 30) && s.data.toList.all nbB && lowB (s.data.toList.getD 0 0).toNat

theorem all_of {s : ByteArray} {p : UInt8 → Bool} : s.data.toList.all p = true ↔ ∀ k (h : k < s.size), p s[k] = true := by
  rw [List.all_eq_true]
  constructor
  · intro h k hk
    exact h _ (by have : s[k] = s.data.toList[k]'(by simpa using hk) := rfl; rw [this]; exact List.getElem_mem _)
  · intro h x hx
    obtain ⟨k, hk, rfl⟩ := List.getElem_of_mem hx
    exact h k (by simpa using hk)
theorem first_of {s : ByteArray} (h : 0 < s.size) : s.data.toList.getD 0 0 = s[0] := by
  have : 0 < s.data.toList.length := by simpa using h
  rw [List.getD_eq_getElem?_getD, List.getElem?_eq_getElem this]; rfl

set_option maxHeartbeats 1000000 in
theorem name_any (s : ByteArray) (w : World) (hs : s.size ≤ 2 ^ 47) : Calls Tryz.prog 94 #[.string s] w fun e w' => e = .returned (.bool (nameB s)) ∧ w' = w := by
  go_enter Tryz.func94, Tryz.ntmps94
  go_wp2_with fail
  go_loop [3] (fun i => ∃ k : Nat, k ≤ s.size ∧ i = .int .i64 k ∧ ∀ j (h : j < s.size), j < k → nbB s[j] = true) (fun i => s.size - (intOf i).toNat)
  case atStart => exact ⟨0, Nat.zero_le _, rfl, fun j _ h => absurd h (by omega)⟩
  case round =>
    obtain ⟨k, hk, rfl, hall⟩ := hrel
    by_cases hlt : k < s.size
    · have hnb : nbB s[k] = (letB s[k].toNat || digB s[k].toNat) := rfl
      by_cases h1 : letB s[k].toNat = true
      · rw [h1, Bool.true_or] at hnb
        have hnot : (!true) = false := rfl
        have HN := hide hnb
        clear hnb
        go_wp2_with (first | (go_at_call 74; refine (letter_any _ _).mono ?_; rintro e w' ⟨rfl, rfl⟩; rw [h1]) | (go_at_call 71; refine (digit_any _ _).mono ?_; rintro e w' ⟨rfl, rfl⟩))
        go_round
        case rel => exact ⟨k + 1, hlt, by go_num, fun j hj hjk => if h : j = k then by subst h; exact unhide HN else hall j hj (by omega)⟩
        case measure => simp [intOf]; omega
      · have h1' : letB s[k].toNat = false := by simpa using h1
        rw [h1', Bool.false_or] at hnb
        by_cases h2 : digB s[k].toNat = true
        · rw [h2] at hnb
          have HN := hide hnb
          clear hnb h1
          go_wp2_with (first | (go_at_call 74; refine (letter_any _ _).mono ?_; rintro e w' ⟨rfl, rfl⟩; rw [h1']) | (go_at_call 71; refine (digit_any _ _).mono ?_; rintro e w' ⟨rfl, rfl⟩; rw [h2]))
          go_round
          case rel => exact ⟨k + 1, hlt, by go_num, fun j hj hjk => if h : j = k then by subst h; exact unhide HN else hall j hj (by omega)⟩
          case measure => simp [intOf]; omega
        · have h2' : digB s[k].toNat = false := by simpa using h2
          rw [h2'] at hnb
          have HN := hide hnb
          clear hnb h1 h2
          go_wp2_with (first | (go_at_call 74; refine (letter_any _ _).mono ?_; rintro e w' ⟨rfl, rfl⟩; rw [h1']) | (go_at_call 71; refine (digit_any _ _).mono ?_; rintro e w' ⟨rfl, rfl⟩; rw [h2']))
          go_ret
          refine ⟨ret_bool ?_, rfl⟩
          have : s.data.toList.all nbB = false := by
            rw [← Bool.not_eq_true, all_of]; intro h; have := h k hlt; rw [unhide HN] at this; cases this
          rw [nameB, this]; simp
    · have hks : k = s.size := by omega
      subst hks
      have hall' : Hid (s.data.toList.all nbB = true) := all_of.2 fun j h => hall j h h
      by_cases h1 : 0 < s.size
      · by_cases h2 : s.size ≤ 30
        · go_wp2_with (go_at_call 73; refine (lower_any _ _).mono ?_; rintro e w' ⟨rfl, rfl⟩)
          go_ret
          refine ⟨ret_bool ?_, rfl⟩
          rw [nameB, unhide hall', first_of h1]; simp [h1, h2]
        · go_wp2_with fail
          go_ret
          refine ⟨ret_bool ?_, rfl⟩
          simp [nameB]; omega
      · go_wp2_with fail
        go_ret
        refine ⟨ret_bool ?_, rfl⟩
        simp [nameB]; omega

end Go.Proofs.YthfjgffhncogaaaGreat
