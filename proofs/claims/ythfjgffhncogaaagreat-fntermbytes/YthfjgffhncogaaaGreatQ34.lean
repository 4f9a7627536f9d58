/- impl's way outward: rows. -/
import Derived.Test.YthfjgffhncogaaaGreatQ31
import Derived.Test.YthfjgffhncogaaaGreatQ32
import Derived.Test.YthfjgffhncogaaaGreatMt1
import Derived.Test.YthfjgffhncogaaaGreatUn4
namespace Go.Proofs.YthfjgffhncogaaaGreat
open Go.RowKit Go.Deep

theorem OwnS.wide {w : World} : ∀ {n lo hi lo' hi' : Nat} {ks : List (Tm n)} {v : Value}, OwnS w n lo hi ks v → lo' ≤ lo → hi ≤ hi' → OwnS w n lo' hi' ks v
  | 0, _, _, _, _, _, _, h, _, _ => h
  | n + 1, lo, hi, lo', hi', ks, v, ⟨a, cap, hv, h⟩, h1, h2 => by
    refine ⟨a, cap, hv, ?_⟩
    rcases h with h | ⟨R, cs, bs, g1, g2, g3, g4, g5, g6, g7, g8⟩
    · exact .inl h
    · exact .inr ⟨R, cs, bs, g1, g2, by omega, g4, g5, by omega, g7, g8⟩

def OutEnd (n : Nat) (t : Tm (n + 1)) (w : World) (e : Ending) (w' : World) : Prop := Below w.heap.size w w' ∧
  ∃ d0 d1 d2 d3, e = .returned (.agg #[d0, d1, d2, d3]) ∧ TAt (Fresh w w') w' (n + 1) t d0 d1 d2 d3 ∧ OwnS w' n w.heap.size w'.heap.size (kidsOf t) d3
def OutSaid (n : Nat) : Prop := ∀ (t : Tm (n + 1)) (v : Value) (w : World), XAt (Under w.heap.size) w (n + 1) t v → Calls Tryz.prog 37 #[v] w fun e w' => OutEnd n t w e w'
def OrEnd (n : Nat) (ks : List (Tm n)) (w : World) (e : Ending) (w' : World) : Prop := Below w.heap.size w w' ∧
  ∃ v, e = .returned v ∧ SAt (Fresh w w') w' (TAt (Fresh w w') w' n) ks v ∧ OwnS w' n w.heap.size w'.heap.size ks v

def zeros4 : Array Value := #[.int .i64 0, .int .i64 0, .string ⟨#[]⟩, .slice none 0 0]
theorem run_mkt (n : Nat) (hn : n ≤ 100000) (w : World) : (Instr.makeSlice 24 (.int .i64 0) (.int .i64 n)).run Tryz.prog w =
    .ok (.slice (some ⟨w.heap.size, 0, none⟩) 0 n) (w.alloc (.cells (madeCells zeros4 (n * 4)) 26)) := by
  have := run_make (P := Tryz.prog) w 24 26 (Tryz.prog.types[26]!) (.agg zeros4) (by kernel_rfl) (by kernel_rfl) (by kernel_rfl) .i64 .i64 0 n (Int.le_refl _) (by omega)
    (by rw [show (Tryz.prog.types[26]!).bytes = 56 from by kernel_rfl]; omega) (by omega)
  rw [this, show (Tryz.prog.types[26]!).size = 4 from by kernel_rfl]
  simp [Value.cells, zeros4]
theorem owns_mkt (w : World) (N : Nat) (hN : N ≤ 100000) : (w.alloc (.cells (madeCells zeros4 (N * 4)) 26)).ownsRow w.heap.size 26 4 (.slice (some ⟨w.heap.size, 0, none⟩) 0 N) 0 [] :=
  ⟨rfl, .inr ⟨w.heap.size, N, madeCells zeros4 (N * 4), rfl, Nat.le_refl _, heap_new _ _, Nat.zero_le _, by unfold maxLen; omega, by rw [size_madeCells], by simp⟩⟩

set_option maxRecDepth 40000 in
set_option maxHeartbeats 1000000 in
theorem orow_nil {n : Nat} (a : Option Addr) (cap : Nat) (w : World) : Calls Tryz.prog 69 #[.slice a 0 cap] w fun e w' => OrEnd n ([] : List (Tm n)) w e w' := by
  go_enter Tryz.func69, Tryz.ntmps69
  go_wp2_with fail
  go_ret
  refine ⟨Below.refl _ _, _, rfl, ⟨none, 0, rfl, Nat.le_refl _, by simp, fun i hi => by simp at hi⟩, ?_⟩
  cases n with
  | zero => exact ⟨none, 0, rfl⟩
  | succ n => exact ⟨none, 0, rfl, .inl rfl⟩

/-- One boundary more. -/
def bsUp (bs : Nat → Nat) (i N : Nat) : Nat → Nat := fun p => if p ≤ i then bs p else N
theorem bsUp_le {bs : Nat → Nat} {i N p : Nat} (h : p ≤ i) : bsUp bs i N p = bs p := if_pos h
theorem bsUp_gt {bs : Nat → Nat} {i N p : Nat} (h : ¬ p ≤ i) : bsUp bs i N p = N := if_neg h

set_option maxRecDepth 40000 in
set_option maxHeartbeats 2000000 in
theorem orow_of {n : Nat} (h : OutSaid n) (ks : List (Tm (n + 1))) (a : Option Addr) (cap : Nat) (w : World) (hka : KAt (Under w.heap.size) w (XAt (Under w.heap.size) w (n + 1)) ks a) (hl : ks.length ≤ 100000) :
    Calls Tryz.prog 69 #[.slice a ks.length cap] w fun e w' => OrEnd (n + 1) ks w e w' := by
  by_cases hn : ks = []
  · subst hn
    exact orow_nil a cap w
  have hpos : 0 < ks.length := List.length_pos_iff.2 hn
  obtain ⟨i0, hi0, hz0, hz1, hz2⟩ := info_parts infoT
  have hmk := run_mkt ks.length hl w
  have hlz : ¬ ks.length = 0 := by omega
  have hzb : ((ks.length : Int) == 0) = false := by simp; exact hn
  obtain ⟨w0, hw0⟩ : ∃ w0, w0 = w.alloc (.cells (madeCells zeros4 (ks.length * 4)) 26) := ⟨_, rfl⟩
  have hown0 := owns_mkt w ks.length hl
  have hb0 : Below w.heap.size w w0 := by rw [hw0]; exact (Below.refl _ _).alloc (Nat.le_refl _) _
  have hs0 : w0.heap.size = w.heap.size + 1 := by rw [hw0]; simp
  rw [← hw0] at hmk hown0
  have HKA := hide hka
  have HO0 := hide hown0
  have HB0 := hide hb0
  clear hka hown0 hb0 hw0
  go_enter Tryz.func69, Tryz.ntmps69
  go_wp2_with fail
  try rw [hzb]
  go_loopw [3, 14] (fun rv iv wr => ∃ (i : Nat) (xs : List Value) (bs : Nat → Nat), i ≤ ks.length ∧ iv = .int .i64 i ∧ rv = .slice (some ⟨w.heap.size, 0, none⟩) i ks.length ∧ wr.ownsRow w.heap.size 26 4 (.slice (some ⟨w.heap.size, 0, none⟩) i ks.length) i xs ∧ xs.length = i * 4 ∧ Below w.heap.size w wr ∧
      w.heap.size < bs 0 ∧ (∀ p q, p ≤ q → bs p ≤ bs q) ∧ bs i ≤ wr.heap.size ∧ ∀ j (hj : j < ks.length), j < i → ∃ d0 d1 d2 d3, xs[j * 4]? = some d0 ∧ xs[j * 4 + 1]? = some d1 ∧ xs[j * 4 + 2]? = some d2 ∧ xs[j * 4 + 3]? = some d3 ∧
        TAt (fun b => w.heap.size < b ∧ b < wr.heap.size) wr (n + 1) ks[j] d0 d1 d2 d3 ∧ OwnS wr n (bs j) (bs (j + 1)) (kidsOf ks[j]) d3) (fun _ iv _ => ks.length - (intOf iv).toNat)
  case atStart => exact ⟨0, [], fun _ => w.heap.size + 1, Nat.zero_le _, rfl, rfl, unhide HO0, rfl, unhide HB0, by show w.heap.size < w.heap.size + 1; omega, fun _ _ _ => Nat.le_refl _, by show w.heap.size + 1 ≤ w0.heap.size; omega, fun j _ hj => by omega⟩
  case round =>
    obtain ⟨i, xs, bs, hi, rfl, rfl, ho, hxl, hb, hb1, hmono, hbi, hdone⟩ := hrel
    by_cases hlt : i < ks.length
    · obtain ⟨b, off, v, rfl, hS, e0, hv⟩ := unhide HKA i hlt
      obtain ⟨u, x, rfl⟩ := hv.iface
      have p0 := (bcell hb b (off + i) hS).trans e0
      have hcall := hide (h ks[i] _ wr ((hv.keep fun b hb' => hb.block b hb').mono fun b hb' => Nat.lt_of_lt_of_le hb' hb.size))
      have hwr : w.heap.size < wr.heap.size := by have := hmono 0 i (Nat.zero_le _); omega
      have HO := hide ho
      have HB := hide hb
      have HMO := hide hmono
      have HDN := hide hdone
      clear ho hb hmono hdone hv e0
      go_wp2_with fail
      refine (unhide hcall).mono ?_
      rintro e w1 ⟨hb1', d0, d1, d2, d3, rfl, hT, hOw⟩
      obtain ⟨tk, tm, ts, ta, tl, tc, rfl, rfl, rfl, rfl⟩ := hT.shape
      have hown1 := owns_keep (unhide HO) (hb1'.block _ hwr)
      have hs1 := hb1'.size
      have HB1 := hide ((unhide HB).trans (hb1'.mono (by omega)))
      have HBB := hide hb1'
      have HT := hide hT
      have HOW := hide hOw
      have hnews := hide (show ∀ j u, ([Value.int .i64 tk, .int .i64 tm, .string ts, .slice ta tl tc] : List Value)[j]? = some u → (w1.alloc (.cells #[.int .i64 tk, .int .i64 tm, .string ts, .slice ta tl tc] 26)).cell? ((⟨w1.heap.size, 0, none⟩ : Addr).add j) = some u from fun j u hu => by
        rw [Go.WideShapes.add_plain, cell_of_heap (heap_new _ _), Nat.zero_add, ← Array.getElem?_toList]; exact hu)
      have h1c := hide (cells_shape hT)
      have HOWN1 := hide (hown1.alloc (.cells #[.int .i64 tk, .int .i64 tm, .string ts, .slice ta tl tc] 26))
      clear hown1 hb1' hT hOw hcall p0
      go_wp2_with (at_builtin; refine wpList_append_fits _ rfl (.tmp 18) (.tmp 21) 24 rfl w.heap.size 26 i0 4 Tryz.underlying24 hi0 hz1 w.heap.size i ks.length xs rfl (unhide HOWN1) ⟨w1.heap.size, 0, none⟩ 1 1 [.int .i64 tk, .int .i64 tm, .string ts, .slice ta tl tc] rfl rfl (unhide hnews) (unhide h1c) hlt ?_; intro w2 hown2 hgr2)
      have hs2 : w1.heap.size + 1 ≤ w2.heap.size := by have := hgr2.size; simpa using this
      have hold : ∀ b, b < w1.heap.size → b ≠ w.heap.size → w2.heap[b]? = w1.heap[b]? := fun b hb hn =>
        (hgr2.block b (by simp; omega) (by intro e; injection e with e; omega)).trans (Below.heap_alloc _ _ _ hb)
      have hb2 : Below w.heap.size w w2 := by
        have h1 := unhide HB1
        exact ⟨hgr2.os.trans h1.os, hgr2.tape.trans h1.tape, hgr2.output.trans h1.output, by omega, fun b hb => (hold b (by have := h1.size; omega) (by omega)).trans (h1.block b hb)⟩
      have HO2 := hide hown2
      have HB2 := hide hb2
      have HOLD := hide hold
      clear hown2 hgr2 hold hb2
      go_roundw
      case rel =>
        have hold := unhide HOLD
        have hmono := unhide HMO
        have hbb := unhide HBB
        refine ⟨i + 1, _, bsUp bs i w2.heap.size, hlt, by go_num, rfl, unhide HO2, by simp [hxl]; omega, unhide HB2, by rw [bsUp_le (Nat.zero_le _)]; exact hb1, fun p q hpq => ?_, by rw [bsUp_gt (by omega)]; exact Nat.le_refl _, fun j hj hji => ?_⟩
        · by_cases hq : q ≤ i
          · rw [bsUp_le hq, bsUp_le (by omega)]; exact hmono p q hpq
          · rw [bsUp_gt hq]
            by_cases hp : p ≤ i
            · rw [bsUp_le hp]; have := hmono p i hp; omega
            · rw [bsUp_gt hp]; exact Nat.le_refl _
        · have hbs0 := hmono 0 j (Nat.zero_le _)
          by_cases hjj : j = i
          · subst hjj
            refine ⟨.int .i64 tk, .int .i64 tm, .string ts, .slice ta tl tc, ?_, ?_, ?_, ?_, ((unhide HT).keep fun b hb => hold b hb.2 (by have := hb.1; omega)).mono fun b hb => ⟨by have := hb.1; omega, by have := hb.2; omega⟩, ?_⟩
            · rw [List.getElem?_append_right (by omega), hxl]; simp
            · rw [List.getElem?_append_right (by omega), hxl, show j * 4 + 1 - j * 4 = 1 by omega]; rfl
            · rw [List.getElem?_append_right (by omega), hxl, show j * 4 + 2 - j * 4 = 2 by omega]; rfl
            · rw [List.getElem?_append_right (by omega), hxl, show j * 4 + 3 - j * 4 = 3 by omega]; rfl
            · rw [bsUp_le (Nat.le_refl _), bsUp_gt (by omega)]
              exact ((unhide HOW).keep fun b h1 h2 => hold b h2 (by omega)).wide hbi (by omega)
          · obtain ⟨d0, d1, d2, d3, r0, r1, r2, r3, hT, hO⟩ := unhide HDN j hj (by omega)
            have hj1 := hmono (j + 1) i (by omega)
            refine ⟨d0, d1, d2, d3, ?_, ?_, ?_, ?_, (hT.keep fun b hb => (hold b (by have := hb.2; omega) (by have := hb.1; omega)).trans (hbb.block b hb.2)).mono fun b hb => ⟨hb.1, by have := hb.2; omega⟩, ?_⟩
            · rw [List.getElem?_append_left (by omega)]; exact r0
            · rw [List.getElem?_append_left (by omega)]; exact r1
            · rw [List.getElem?_append_left (by omega)]; exact r2
            · rw [List.getElem?_append_left (by omega)]; exact r3
            · rw [bsUp_le (by omega), bsUp_le (by omega)]
              exact hO.keep fun b h1 h2 => (hold b (by omega) (by omega)).trans (hbb.block b (by omega))
      case measure => simp [intOf]; omega
    · have hkk : i = ks.length := by omega
      subst hkk
      have HO := hide ho
      have HB := hide hb
      have HMO := hide hmono
      have HDN := hide hdone
      clear ho hb hmono hdone
      go_wp2_with fail
      go_ret
      have ho := unhide HO
      have hmono := unhide HMO
      have hm0 := hmono 0 ks.length (Nat.zero_le _)
      refine ⟨unhide HB, _, rfl, ⟨_, ks.length, rfl, Nat.le_refl _, by omega, fun j hj => ?_⟩, _, ks.length, rfl, .inr ?_⟩
      · obtain ⟨d0, d1, d2, d3, r0, r1, r2, r3, hT, hO⟩ := unhide HDN j hj hj
        have hc : ∀ q, q < ks.length * 4 → wr.cell? ⟨w.heap.size, 0 + q, none⟩ = xs[q]? := fun q hq => by rw [Nat.zero_add]; exact ho.cellAt q (by omega)
        exact ⟨w.heap.size, 0, d0, d1, d2, d3, rfl, ⟨Nat.le_refl _, by omega⟩, (hc _ (by omega)).trans r0, by rw [Nat.add_assoc]; exact (hc _ (by omega)).trans r1, by rw [Nat.add_assoc]; exact (hc _ (by omega)).trans r2, by rw [Nat.add_assoc]; exact (hc _ (by omega)).trans r3, hT.mono fun b hb => ⟨by have := hb.1; omega, hb.2⟩⟩
      · rcases ho.2 with ⟨h1, _⟩ | ⟨g, cp, cur, hgv, _, hg, hnc, _, hcs, _⟩
        · cases h1
        · cases hgv
          refine ⟨w.heap.size, cur, bs, rfl, hg, Nat.le_refl _, hb1, hmono, hbi, by omega, fun j hj => ?_⟩
          obtain ⟨d0, d1, d2, d3, r0, r1, r2, r3, hT, hO⟩ := unhide HDN j hj hj
          exact ⟨d3, ((cell_of_heap hg _).symm.trans (ho.cellAt (j * 4 + 3) (by omega))).trans r3, hO⟩

end Go.Proofs.YthfjgffhncogaaaGreat
/- spec's taker: term, what its arms share; a byte's number. -/
namespace Go.Proofs.YthfjgffhncogaaaGreat
open Go.RowKit Go.Deep

/-- The result's four cells stored. -/
def fourIn (w : World) (B : Nat) (d0 d1 d2 d3 : Value) : World := (((w.setCell ⟨B, 0, none⟩ d0).setCell ⟨B, 1, none⟩ d1).setCell ⟨B, 2, none⟩ d2).setCell ⟨B, 3, none⟩ d3
theorem fourIn_kept (w : World) (B : Nat) (d0 d1 d2 d3 : Value) : Kept B w (fourIn w B d0 d1 d2 d3) := ((((Kept.refl B w).set _ _).set _ _).set _ _).set _ _
/-- Four cells of a result. -/
def Four (B : Nat) (w : World) : Prop := ∃ a b c d, w.heap[B]? = some (.cells #[a, b, c, d] 26 (0, 0))
theorem Four.lt {B : Nat} {w : World} (h : Four B w) : B < w.heap.size := by
  obtain ⟨_, _, _, _, h⟩ := h
  exact (Array.getElem?_eq_some_iff.1 h).1
theorem Four.keep {B : Nat} {w w' : World} (h : Four B w) (hb : w'.heap[B]? = w.heap[B]?) : Four B w' := by
  obtain ⟨a, b, s, c, h1⟩ := h
  exact ⟨a, b, s, c, hb.trans h1⟩
theorem Four.cells {B : Nat} {w : World} (h : Four B w) : ∃ y0 y1 y2 y3, w.cell? ⟨B, 0, none⟩ = some y0 ∧ w.cell? ⟨B, 1, none⟩ = some y1 ∧ w.cell? ⟨B, 2, none⟩ = some y2 ∧ w.cell? ⟨B, 3, none⟩ = some y3 ∧
    w.frozen? ⟨B, 0, none⟩ = false ∧ w.frozen? ⟨B, 1, none⟩ = false ∧ w.frozen? ⟨B, 2, none⟩ = false ∧ w.frozen? ⟨B, 3, none⟩ = false := by
  obtain ⟨a, b, s, c, h1⟩ := h
  exact ⟨_, _, _, _, cell_of_heap h1 0, cell_of_heap h1 1, cell_of_heap h1 2, cell_of_heap h1 3, frozen_of_heap h1 0, frozen_of_heap h1 1, frozen_of_heap h1 2, frozen_of_heap h1 3⟩

/-- Under way: what was there, the taker, the result's cells. -/
structure Sw (g c : Nat) (data : ByteArray) (w wr : World) (pos : Nat) (bad : Bool) : Prop where
  but : But g w wr
  tk : Tkr g c data pos bad wr
  res : Four w.heap.size wr
  gl : g < w.heap.size
  hp : pos ≤ data.size
theorem Sw.go {g c c' pos pos' : Nat} {data : ByteArray} {w w1 w2 : World} {bad bad' : Bool} (h : Sw g c data w w1 pos bad) (hb : But g w1 w2) (ht : Tkr g c' data pos' bad' w2) (hp : pos' ≤ data.size) : Sw g c' data w w2 pos' bad' :=
  ⟨h.but.trans hb, ht, h.res.keep (hb.block _ h.res.lt (by have := h.gl; omega)), h.gl, hp⟩
theorem Sw.below {g c pos : Nat} {data : ByteArray} {w w1 w2 : World} {bad : Bool} (h : Sw g c data w w1 pos bad) (hb : Below w1.heap.size w1 w2) : Sw g c data w w2 pos bad :=
  h.go (But.below hb) (h.tk.below hb) h.hp

theorem sat_none {α : Type} {S : Nat → Prop} {w : World} {R : α → Value → Value → Value → Value → Prop} {a : Option Addr} : SAt S w R [] (.slice a 0 0) := ⟨a, 0, rfl, by simp, by simp, fun i hi => by simp at hi⟩

/-- What was taken. -/
def Took (n : Nat) (data : ByteArray) (pos : Nat) (bad : Bool) (S : ByteArray) (pos' : Nat) (bad' : Bool) : Prop :=
  (bad' = false ∧ bad = false ∧ takeB n (suf data pos) = some (txtL S, suf data pos')) ∨ (bad' = true ∧ S = noText ∧ (bad = true ∨ takeB n (suf data pos) = none))

theorem sw_take {g c pos : Nat} {data : ByteArray} {w wr : World} {bad : Bool} (h : Sw g c data w wr pos bad) (n : Nat) (hd : data.size ≤ 2 ^ 47) (hn : n ≤ 2 ^ 47) :
    Calls Tryz.prog 87 #[.pointer (some ⟨g, 0, none⟩), .int .i64 n] wr fun e w' => ∃ S pos' bad', e = .returned (.string S) ∧ Sw g c data w w' pos' bad' ∧ S.size ≤ n ∧ Took n data pos bad S pos' bad' := by
  cases bad with
  | true =>
    refine (take_bad g c data pos n wr h.tk).mono ?_
    rintro e w' ⟨hb, rfl, ht⟩
    exact ⟨_, pos, true, rfl, h.go hb ht h.hp, (by show 0 ≤ n; omega), .inr ⟨rfl, rfl, .inl rfl⟩⟩
  | false =>
    refine (take_cut g c data pos n wr h.tk h.hp hd hn).mono ?_
    rintro e w' ⟨hb, ⟨hfit, rfl, ht⟩ | ⟨hfit, rfl, ht⟩⟩
    · have hx := txtL_nums ((suf data pos).take n) fun y hy => suf_byte data pos y (List.mem_of_mem_take hy)
      refine ⟨_, pos + n, false, rfl, h.go hb ht hfit, ?_, .inl ⟨rfl, rfl, ?_⟩⟩
      · rw [← txtL_length, hx, List.length_take]; omega
      · rw [hx, take_yes hfit]
    · exact ⟨_, pos, true, rfl, h.go hb ht h.hp, (by show 0 ≤ n; omega), .inr ⟨rfl, rfl, .inr (take_no h.hp hfit)⟩⟩

/-- The number of what was taken. -/
def Nook (n : Nat) (data : ByteArray) (pos : Nat) (bad : Bool) (q : Nat) (pos' : Nat) (bad' : Bool) : Prop :=
  (bad' = false ∧ bad = false ∧ takeN n (suf data pos) = some (q, suf data pos')) ∨ (bad' = true ∧ (bad = true ∨ takeN n (suf data pos) = none))
set_option maxRecDepth 40000 in
theorem took_num {n pos pos' : Nat} {data S : ByteArray} {bad bad' : Bool} (h : Took n data pos bad S pos' bad') (hS : S.size ≤ n) : ∃ q : Nat, numL (txtL S) = q ∧ q < 256 ^ n ∧ Nook n data pos bad q pos' bad' := by
  obtain ⟨h0, h1⟩ := numL_lt (txtL S) (txtL_byte S)
  obtain ⟨q, hq⟩ := Int.eq_ofNat_of_zero_le h0
  rw [txtL_length] at h1
  have h2 : q < 256 ^ S.size := by rw [hq] at h1; exact_mod_cast h1
  refine ⟨q, hq, Nat.lt_of_lt_of_le h2 (Nat.pow_le_pow_right (by omega) hS), ?_⟩
  rcases h with ⟨h3, h4, h5⟩ | ⟨h3, h4, h5 | h5⟩
  · refine .inl ⟨h3, h4, ?_⟩
    unfold takeN
    rw [h5]
    show some ((numL (txtL S)).toNat, _) = _
    rw [hq, Int.toNat_natCast]
  · exact .inr ⟨h3, .inl h5⟩
  · refine .inr ⟨h3, .inr ?_⟩
    unfold takeN
    rw [h5]

/-- Behind taking the kids. -/
def Kook (m k c : Nat) (data : ByteArray) (pos : Nat) (bad : Bool) (a : Option Addr) (l cap : Nat) (wr w' : World) (pos' : Nat) (bad' : Bool) (c' : Nat) : Prop :=
  (bad' = false ∧ bad = false ∧ ∃ ks : List (Tm (m + 1)), takeR (takeV m) k (suf data pos) c = some (ks, suf data pos', c') ∧ c + k ≤ c' ∧ c' ≤ 2000 ∧ l = k ∧ ks.length = k ∧ SAt (Fresh wr w') w' (TAt (Fresh wr w') w' (m + 1)) ks (.slice a l cap)) ∨
  (bad' = true ∧ (bad = true ∨ takeR (takeV m) k (suf data pos) c = none))
theorem sw_kids (m : Nat) (h : StSaid m) {g c pos : Nat} {data : ByteArray} {w wr : World} {bad : Bool} (hs : Sw g c data w wr pos bad) (k d : Nat) (ki di : Int) (hki : ki = k) (hdi : di = d) (hd : data.size ≤ 2 ^ 47) (hdm : d + m = 101) (hc : c ≤ 2000) (hk : k ≤ 200000) :
    Calls Tryz.prog 89 #[.pointer (some ⟨g, 0, none⟩), .int .i64 ki, .int .i64 di] wr fun e w' => ∃ a l cap pos' bad' c', e = .returned (.slice a l cap) ∧ Sw g c' data w w' pos' bad' ∧ Kook m k c data pos bad a l cap wr w' pos' bad' c' := by
  subst hki hdi
  cases bad with
  | true =>
    refine (skids_bad g c k data pos d wr hs.tk).mono ?_
    rintro e w' ⟨hb, a, l, cap, rfl, ht⟩
    exact ⟨a, l, cap, pos, true, c, rfl, hs.go hb ht hs.hp, .inr ⟨rfl, .inl rfl⟩⟩
  | false =>
    refine (skids_any m h g c k data pos d wr hs.tk hs.hp hd hdm hc hk).mono ?_
    rintro e w' ⟨hb, ⟨ks, c', pos', a, cap, e1, e2, e3, e4, e5, rfl, hS, ht⟩ | ⟨e1, c', pos', a, l, cap, e2, rfl, ht⟩⟩
    · exact ⟨a, k, cap, pos', false, c', rfl, hs.go hb ht e2, .inl ⟨rfl, rfl, ks, e1, e3, e4, rfl, e5, hS⟩⟩
    · exact ⟨a, l, cap, pos', true, c', rfl, hs.go hb ht e2, .inr ⟨rfl, .inr e1⟩⟩

/-- The end of an arm. -/
theorem sw_end {m g c c0 pos pos0 : Nat} {data : ByteArray} {w wr : World} {bad : Bool} (h : Sw g c data w wr pos bad) {k1 k2 : Int} {s : ByteArray} {a : Option Addr} {l cap : Nat}
    (h1 : bad = false → ∃ t, takeV m (suf data pos0) c0 = some (t, suf data pos, c) ∧ c0 < c ∧ c ≤ 2000 ∧ TAt (fun b => w.heap.size < b ∧ b < wr.heap.size) wr (m + 1) t (.int .i64 k1) (.int .i64 k2) (.string s) (.slice a l cap)) (h2 : bad = true → takeV m (suf data pos0) c0 = none) :
    StEnd m g c0 data pos0 w (.returned (.agg #[.int .i64 k1, .int .i64 k2, .string s, .slice a l cap])) (fourIn wr w.heap.size (.int .i64 k1) (.int .i64 k2) (.string s) (.slice a l cap)) := by
  have hp := fourIn_kept wr w.heap.size (.int .i64 k1) (.int .i64 k2) (.string s) (.slice a l cap)
  have hgl := h.gl
  have hrl := h.res.lt
  have ht : Tkr g c data pos bad (fourIn wr w.heap.size (.int .i64 k1) (.int .i64 k2) (.string s) (.slice a l cap)) := (hp.block g h.tk.lt (by omega)).trans h.tk
  refine ⟨⟨hp.os.trans h.but.os, hp.tape.trans h.but.tape, hp.output.trans h.but.output, Nat.le_trans h.but.size hp.size, fun b hb hn => (hp.block b (by have := h.but.size; omega) (by omega)).trans (h.but.block b hb hn)⟩, ?_⟩
  cases bad with
  | false =>
    obtain ⟨t, e1, e2, e3, hT⟩ := h1 rfl
    refine .inl ⟨t, c, pos, _, _, _, _, e1, h.hp, e2, e3, rfl, ?_, ht⟩
    exact (hT.keep fun b hb => hp.block b hb.2 (by have := hb.1; omega)).mono fun b hb => ⟨by have := hb.1; omega, Nat.lt_of_lt_of_le hb.2 hp.size⟩
  | true => exact .inr ⟨h2 rfl, c, pos, _, _, _, _, _, _, h.hp, rfl, ht⟩

/-- The first byte. -/
theorem first_byte {data : ByteArray} {pos tag : Nat} (hp : pos ≤ data.size) (h : takeN 1 (suf data pos) = some (tag, suf data (pos + 1))) :
    pos + 1 ≤ data.size ∧ tag < 256 ∧ ∃ (S : ByteArray) (hz : 0 < S.size), strOfNums ((suf data pos).take 1) = S ∧ (S[0]'hz).toNat = tag := by
  have hfit : pos + 1 ≤ data.size := by
    rcases Nat.lt_or_ge data.size (pos + 1) with h1 | h1
    · unfold takeN at h
      rw [take_no hp (by omega)] at h
      cases h
    · exact h1
  have hx := txtL_nums ((suf data pos).take 1) fun y hy => suf_byte data pos y (List.mem_of_mem_take hy)
  have hl : ((suf data pos).take 1).length = 1 := by rw [List.length_take, suf_length]; omega
  obtain ⟨x, hx1⟩ := List.length_eq_one_iff.1 hl
  have hz : 0 < (strOfNums ((suf data pos).take 1)).size := by rw [← txtL_length, hx, hl]; omega
  have hb : B8 x := suf_byte data pos x (List.mem_of_mem_take (by rw [hx1]; simp))
  have hn : tag = x.toNat := by
    unfold takeN at h
    rw [take_yes hfit, hx1] at h
    have : (numL [x]).toNat = tag := by injection h with h; injection h
    rw [← this]
    simp [numL]
  have hel : (((strOfNums ((suf data pos).take 1))[0]'hz).toNat : Int) = x := by
    have h1 := txtL_take (strOfNums ((suf data pos).take 1)) 0 hz
    rw [hx] at h1
    generalize ((strOfNums ((suf data pos).take 1))[0]'hz).toNat = v at h1 ⊢
    rw [hx1] at h1
    simp at h1
    exact h1.symm
  have hb1 := hb.1
  have hb2 := hb.2
  exact ⟨hfit, by omega, _, hz, rfl, by omega⟩

section
variable (m g c : Nat) (data : ByteArray) (pos d : Nat) (w : World)

set_option maxRecDepth 40000 in
set_option maxHeartbeats 1000000 in
theorem st97 (hu : Tkr g c data pos false w) (hp : pos ≤ data.size) (hd : data.size ≤ 2 ^ 47) (hdm : d + (m + 1) = 101) (hc : c + 1 ≤ 2000) (htag : takeN 1 (suf data pos) = some (97, suf data (pos + 1))) :
    Calls Tryz.prog 51 #[.pointer (some ⟨g, 0, none⟩), .int .i64 d] w fun e w' => StEnd (m + 1) g c data pos w e w' := by
  have HV := hide (takeV_tag (m := m) hc htag)
  obtain ⟨hfit, _, S, hz, hS, hel⟩ := first_byte hp htag
  have hgl := hu.lt
  obtain ⟨w0, hw0⟩ : ∃ w0, w0 = w.alloc (.cells #[.int .i64 0, .int .i64 0, .string ⟨#[]⟩, .slice none 0 0] 26) := ⟨_, rfl⟩
  have hb0 : Below w.heap.size w w0 := by rw [hw0]; exact (Below.refl w.heap.size w).alloc (Nat.le_refl _) _
  have hr0 : Four w.heap.size w0 := by rw [hw0]; exact ⟨_, _, _, _, heap_new w _⟩
  have hu0 := hu.below hb0
  have HW0 := hide hw0
  have a3 := hu0.cells.2.2.2.1
  have af := frozen_of_heap hu0 3
  have hu1 := hu0.setCount (c + 1)
  have hb1 := ((But.refl g w).below' hb0).set 3 (.int .i64 ((c + 1 : Nat) : Int))
  have hr1 : Four w.heap.size (w0.setCell ⟨g, 3, none⟩ (.int .i64 ((c + 1 : Nat) : Int))) := hr0.keep (Below.heap_setCell _ _ _ _ (by show w.heap.size ≠ g; omega))
  have HS1 := hide (show Sw g (c + 1) data w _ pos false from ⟨hb1, hu1, hr1, hgl, hp⟩)
  have b3 := hu1.cells.2.2.2.1
  rw [show ((c + 1 : Nat) : Int) = (c : Int) + 1 by omega] at b3 HS1
  have hc2 : ¬ (2000 : Int) < (c : Int) + 1 := by omega
  have hd2 : ¬ (100 : Int) < (d : Int) := by omega
  clear hu hu0 hu1 hb1 hr1 hw0 hb0 hr0
  go_enter Tryz.func51, Tryz.ntmps51
  go_upto_region 1 with fail
  rw [← unhide HW0]
  go_wp2_with fail
  obtain ⟨w1, hw1⟩ : ∃ w1, w1 = w0.setCell ⟨g, 3, none⟩ (.int .i64 ((c : Int) + 1)) := ⟨_, rfl⟩
  rw [← hw1] at HS1 ⊢
  clear hw1 a3 af b3 HW0
  have hs1 := unhide HS1
  refine (take_cut g (c + 1) data pos 1 w1 hs1.tk hp hd (by omega)).mono ?_
  rintro e w2 ⟨hb2, ⟨_, rfl, ht2⟩ | ⟨hno, _, _⟩⟩
  rotate_left
  · exact absurd hfit hno
  rw [hS]
  have h2 := ht2.cells.2.2.1
  have HS2 := hide (hs1.go hb2 ht2 hfit)
  clear hb2 ht2 hs1 HS1 htag
  go_wp2_with fail
  refine (sw_take (unhide HS2) 1 hd (by omega)).mono ?_
  rintro e w3 ⟨S3, p3, bad3, rfl, hs3, z3, k3⟩
  obtain ⟨q3, hq3, l3, n3⟩ := took_num k3 z3
  have HS3 := hide hs3
  have HN3 := hide n3
  have HL3 := hide l3
  clear hs3 k3 n3 l3
  go_wp2_with fail
  refine (snumber_any S3 w3 (by omega)).mono ?_
  rintro e _ ⟨rfl, rfl⟩
  rw [hq3]
  clear hq3
  go_wp2_with fail
  refine (mk_int _ _).mono ?_
  rintro e w4 ⟨rfl, hb4⟩
  have hs4 := (unhide HS3).below hb4
  obtain ⟨y0, y1, y2, y3, f0, f1, f2, f3, g0, g1, g2, g3⟩ := hs4.res.cells
  have HS4 := hide hs4
  clear hs4 hb4
  go_wp2_with fail
  exact bodyPost_ret (v := .agg #[.int .i64 1, .int .i64 q3, .string ⟨#[]⟩, .slice none 0 0]) (by simp [results, Tryz.results51, go_sem, f0, f1, f2, f3]) rfl (sw_end (unhide HS4) (by
    intro hbad
    obtain ⟨_, _, e3⟩ | ⟨e3, _⟩ := unhide HN3
    · refine ⟨leafT (m + 1) 1 q3 noText, ?_, Nat.lt_succ_self c, hc, rfl, rfl, rfl, ⟨by omega, by omega⟩, ⟨by omega, by have : q3 < 256 ^ 1 := unhide HL3; omega⟩, by decide, sat_none⟩
      rw [unhide HV]
      simp [takeT, e3]
    · rw [hbad] at e3; cases e3) (by
    intro hbad
    obtain ⟨e3, _⟩ | ⟨_, e3 | e3⟩ := unhide HN3
    · rw [hbad] at e3; cases e3
    · cases e3
    · rw [unhide HV]
      simp [takeT, e3]))

end
end Go.Proofs.YthfjgffhncogaaaGreat
