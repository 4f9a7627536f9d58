/- impl's way inward: the counter (passed), the worlds in which all but the counter's block is kept. -/
import Derived.Test.YtcgbonlffcpofaaGreatDoorQ14
import Derived.Deep.DeepCutAuto
import Derived.Deep.RegionLaw
namespace Go.Proofs.YtcgbonlffcpofaaGreatDoor
open Go.RowKit

/-- All blocks that were there are as they were, but block g. -/
structure But (g : Nat) (w w' : World) : Prop where
  os : w'.os = w.os
  tape : w'.tape = w.tape
  output : w'.output = w.output
  size : w.heap.size ≤ w'.heap.size
  block : ∀ k, k < w.heap.size → k ≠ g → w'.heap[k]? = w.heap[k]?

theorem But.refl (g : Nat) (w : World) : But g w w := ⟨rfl, rfl, rfl, Nat.le_refl _, fun _ _ _ => rfl⟩
theorem But.trans {g : Nat} {a b c : World} (h : But g a b) (k : But g b c) : But g a c :=
  ⟨k.os.trans h.os, k.tape.trans h.tape, k.output.trans h.output, Nat.le_trans h.size k.size, fun i hi hg => (k.block i (Nat.lt_of_lt_of_le hi h.size) hg).trans (h.block i hi hg)⟩
theorem But.below {g : Nat} {w w' : World} (h : Below w.heap.size w w') : But g w w' := ⟨h.os, h.tape, h.output, h.size, fun k hk _ => h.block k hk⟩
theorem But.alloc {g : Nat} {a w : World} (h : But g a w) (o : Obj) : But g a (w.alloc o) := h.trans (But.below ((Below.refl _ _).alloc (Nat.le_refl _) _))
theorem But.set {g : Nat} {a w : World} (h : But g a w) (o : Nat) (v : Value) : But g a (w.setCell ⟨g, o, none⟩ v) :=
  h.trans ⟨rfl, rfl, rfl, by simp, fun k _ hg => Below.heap_setCell _ _ _ _ hg⟩
theorem But.grown {g R : Nat} {a w w' : World} (h : But g a w) (hg : w.grownBy w' (some R)) (hR : a.heap.size ≤ R) : But g a w' :=
  ⟨hg.os.trans h.os, hg.tape.trans h.tape, hg.output.trans h.output, Nat.le_trans h.size hg.size, fun k hk hn => (hg.block k (Nat.lt_of_lt_of_le hk h.size) (by intro e; injection e with e; omega)).trans (h.block k hk hn)⟩
/-- Where block g is new, all that was there is as it was. -/
theorem But.toBelow {g : Nat} {w w' : World} (h : But g w w') {B : Nat} (hB : B ≤ g) (hs : B ≤ w.heap.size) : Below B w w' := ⟨h.os, h.tape, h.output, h.size, fun k hk => h.block k (by omega) (by omega)⟩

/-- Block g is the counter, at c. -/
def Ctr (g c : Nat) (w : World) : Prop := w.heap[g]? = some (.cells #[.int .i64 c] 99 (0, 0))
theorem Ctr.lt {g c : Nat} {w : World} (h : Ctr g c w) : g < w.heap.size := by
  rcases Nat.lt_or_ge g w.heap.size with h1 | h1
  · exact h1
  · rw [Ctr, Array.getElem?_eq_none h1] at h; cases h
theorem Ctr.cell {g c : Nat} {w : World} (h : Ctr g c w) : w.cell? ⟨g, 0, none⟩ = some (.int .i64 c) := cell_of_heap h 0
theorem Ctr.frozen {g c : Nat} {w : World} (h : Ctr g c w) : w.frozen? ⟨g, 0, none⟩ = false := frozen_of_heap h 0
theorem Ctr.set {g c : Nat} {w : World} (h : Ctr g c w) (c' : Nat) : Ctr g c' (w.setCell ⟨g, 0, none⟩ (.int .i64 c')) := by
  have := Row.setHeap h 0 (.int .i64 c')
  exact this
theorem Ctr.keep {g c : Nat} {w w' : World} (h : Ctr g c w) (hb : w'.heap[g]? = w.heap[g]?) : Ctr g c w' := hb.trans h
theorem Ctr.below {g c : Nat} {w w' : World} (h : Ctr g c w) (hb : Below w.heap.size w w') : Ctr g c w' := h.keep (hb.block g h.lt)

set_option maxHeartbeats 1000000 in
theorem passed_any (g c d : Nat) (w : World) (hc : Ctr g c w) (h1 : c ≤ 2000) (h2 : d ≤ 200) :
    Calls Tryz.prog 69 #[.pointer (some ⟨g, 0, none⟩), .int .i64 d] w
      fun e w' => e = .returned (.bool (decide (2000 < c + 1) || decide (100 < d))) ∧ w' = w.setCell ⟨g, 0, none⟩ (.int .i64 (c + 1 : Nat)) := by
  have hcell := hc.cell
  have hfr := hc.frozen
  have hcell2 := (hc.set (c + 1)).cell
  have hcast : ((c + 1 : Nat) : Int) = (c : Int) + 1 := by omega
  rw [hcast] at hcell2 ⊢
  by_cases h3 : 2000 < c + 1
  · have h3' : (2000 : Int) < (c : Int) + 1 := by omega
    go_enter Tryz.func69, Tryz.ntmps69
    go_wp2_with fail
    go_ret
    exact ⟨ret_bool (by simp; omega), rfl⟩
  · have h3' : ¬ (2000 : Int) < (c : Int) + 1 := by omega
    by_cases h4 : 100 < d
    all_goals
      go_enter Tryz.func69, Tryz.ntmps69
      go_wp2_with fail
      go_ret
      exact ⟨ret_bool (by rw [Bool.eq_iff_iff]; simp; omega), rfl⟩

theorem owns_keep {w w' : World} {base : Nat} {e : TypeId} {size R k cap : Nat} {xs : List Value} (h : w.ownsRow base e size (.slice (some ⟨R, 0, none⟩) k cap) k xs) (hb : w'.heap[R]? = w.heap[R]?) :
    w'.ownsRow base e size (.slice (some ⟨R, 0, none⟩) k cap) k xs := by
  obtain ⟨h1, h2⟩ := h
  refine ⟨h1, ?_⟩
  rcases h2 with ⟨h2, _⟩ | ⟨g, cap', cur, hv, hg, hh, r⟩
  · simp at h2
  · have : g = R := by simp at hv; exact hv.1.symm
    subst this
    exact Or.inr ⟨g, cap', cur, hv, hg, hb.trans hh, r⟩
theorem owns_lt {w : World} {base : Nat} {e : TypeId} {size R k cap : Nat} {xs : List Value} (h : w.ownsRow base e size (.slice (some ⟨R, 0, none⟩) k cap) k xs) : R < w.heap.size := by
  obtain ⟨h1, h2⟩ := h
  rcases h2 with ⟨h2, _⟩ | ⟨g, cap', cur, hv, hg, hh, r⟩
  · simp at h2
  · have : g = R := by simp at hv; exact hv.1.symm
    subst this
    rcases Nat.lt_or_ge g w.heap.size with h | h
    · exact h
    · rw [Array.getElem?_eq_none h] at hh; cases hh
theorem owns_cell {w : World} {base : Nat} {e : TypeId} {R k cap : Nat} {xs : List Value} (h : w.ownsRow base e 1 (.slice (some ⟨R, 0, none⟩) k cap) k xs) {j : Nat} (hj : j < xs.length) : w.cell? ⟨R, j, none⟩ = some xs[j] := by
  obtain ⟨h1, h2⟩ := h
  rcases h2 with ⟨h2, _⟩ | ⟨g, cap', cur, hv, hg, hh, hn, _, hcs, htk⟩
  · simp at h2
  · have hR : g = R := by simp at hv; exact hv.1.symm
    subst hR
    rw [cell_of_heap hh]
    have h3 : cur.toList[j]? = xs[j]? := by
      rw [← htk, List.getElem?_take_of_lt (by omega)]
    rw [← Array.getElem?_toList, h3, List.getElem?_eq_getElem hj]

end Go.Proofs.YtcgbonlffcpofaaGreatDoor
/- impl's way inward: rows of kids (goIn.row), given the way inward of one. -/
namespace Go.Proofs.YtcgbonlffcpofaaGreatDoor
open Go.RowKit

/-- What the walk inward panics with. -/
def faultV : Value := .iface 93 (.agg #[.int .i64 1, .int .i64 0])
def faultE : Ending := .panicked [{ v := faultV, recovered := false }]

/-- From count c on, at depth d, the term is taken. -/
def valOK (n : Nat) (t : Tm n) (c d : Nat) : Prop := rightB n t = true ∧ c + siz n t ≤ 2000 ∧ d + dep n t ≤ 101
def rowOK {n : Nat} (ks : List (Tm n)) (c d : Nat) : Prop := (∀ t ∈ ks, rightB n t = true) ∧ c + sizS ks ≤ 2000 ∧ d + depS ks ≤ 101

/-- The blocks of the input: there, and not the counter's. -/
abbrev Inp (w : World) (g : Nat) : Nat → Prop := fun b => b < w.heap.size ∧ b ≠ g

theorem TAt.but {w w' : World} {g : Nat} (hb : But g w w') {n : Nat} {t : Tm n} {a b c d : Value} (h : TAt (Inp w g) w n t a b c d) : TAt (Inp w' g) w' n t a b c d :=
  (h.keep fun b hs => hb.block b hs.1 hs.2).mono fun _ hs => ⟨Nat.lt_of_lt_of_le hs.1 hb.size, hs.2⟩
theorem SAt.but {w w' : World} {g : Nat} (hb : But g w w') {n : Nat} {ks : List (Tm n)} {v : Value} (h : SAt (Inp w g) w (TAt (Inp w g) w n) ks v) : SAt (Inp w' g) w' (TAt (Inp w' g) w' n) ks v :=
  (h.keep (R' := TAt (Inp w g) w' n) (fun b hs => hb.block b hs.1 hs.2) fun _ _ _ _ _ _ ht => ht.keep fun b hs => hb.block b hs.1 hs.2).mono (fun _ hs => ⟨Nat.lt_of_lt_of_le hs.1 hb.size, hs.2⟩)
    fun _ _ _ _ _ _ ht => ht.mono fun _ hs => ⟨Nat.lt_of_lt_of_le hs.1 hb.size, hs.2⟩

def ValEnd (n : Nat) (t : Tm n) (g c d : Nat) (w : World) (e : Ending) (w' : World) : Prop :=
  But g w w' ∧ ((valOK n t c d ∧ ∃ v, e = .returned v ∧ VAt (Fresh w w') w' n t v ∧ Ctr g (c + siz n t) w') ∨ (¬ valOK n t c d ∧ e = faultE))
def ValSaid (n : Nat) : Prop := ∀ (t : Tm n) (c0 c1 c2 c3 : Value) (g c d : Nat) (w : World), Ctr g c w → TAt (Inp w g) w n t c0 c1 c2 c3 → c ≤ 2000 → 1 ≤ d → d ≤ 101 →
  Calls Tryz.prog 68 #[.pointer (some ⟨g, 0, none⟩), .agg #[c0, c1, c2, c3], .int .i64 d] w fun e w' => ValEnd n t g c d w e w'

def RowEnd {n : Nat} (ks : List (Tm n)) (g c d : Nat) (w : World) (e : Ending) (w' : World) : Prop :=
  But g w w' ∧ ((rowOK ks c d ∧ ∃ R cap, e = .returned (.slice (some ⟨R, 0, none⟩) ks.length cap) ∧ w.heap.size ≤ R ∧ ks.length ≤ cap ∧ cap ≤ 2000 ∧ KAt (Fresh w w') w' (VAt (Fresh w w') w' n) ks (some ⟨R, 0, none⟩) ∧ Ctr g (c + sizS ks) w') ∨
    (¬ rowOK ks c d ∧ e = faultE))
def RowSaid (n : Nat) : Prop := ∀ (ks : List (Tm n)) (v : Value) (g c d : Nat) (w : World), Ctr g c w → SAt (Inp w g) w (TAt (Inp w g) w n) ks v → c ≤ 2000 → 1 ≤ d → d ≤ 101 →
  Calls Tryz.prog 71 #[.pointer (some ⟨g, 0, none⟩), v, .int .i64 d] w fun e w' => RowEnd ks g c d w e w'

theorem sizS_len {n : Nat} (ks : List (Tm n)) (k : Nat) (h : k ≤ ks.length) : k ≤ sizS (ks.take k) := by
  induction k with
  | zero => exact Nat.zero_le _
  | succ k ih => rw [sizS_take ks k h]; have := ih (by omega); have := siz_pos ks[k]; omega

theorem valOK_of_rowOK {n : Nat} {ks : List (Tm n)} {c d : Nat} (h : rowOK ks c d) (k : Nat) (hk : k < ks.length) : valOK n ks[k] (c + sizS (ks.take k)) d := by
  obtain ⟨h1, h2, h3⟩ := h
  have e1 := sizS_take ks k hk
  have e2 := sizS_le ks (k + 1)
  have e3 := depS_take ks k hk
  have e4 := depS_le ks (k + 1)
  exact ⟨h1 _ (List.getElem_mem hk), by omega, by omega⟩
theorem rowOK_step {n : Nat} {ks : List (Tm n)} {c d : Nat} (k : Nat) (hk : k < ks.length) (h : rowOK (ks.take k) c d) (hv : valOK n ks[k] (c + sizS (ks.take k)) d) : rowOK (ks.take (k + 1)) c d := by
  obtain ⟨h1, h2, h3⟩ := h
  obtain ⟨v1, v2, v3⟩ := hv
  refine ⟨fun t ht => ?_, by rw [sizS_take ks k hk]; omega, by rw [depS_take ks k hk]; omega⟩
  rw [List.take_succ_eq_append_getElem hk, List.mem_append] at ht
  rcases ht with ht | ht
  · exact h1 t ht
  · rw [List.mem_singleton] at ht; rw [ht]; exact v1

theorem run_mkv (n : Nat) (hn : n ≤ 2000) (w : World) : (Instr.makeSlice 107 (.int .i64 0) (.int .i64 n)).run Tryz.prog w =
    .ok (.slice (some ⟨w.heap.size, 0, none⟩) 0 n) (w.alloc (.cells (madeCells #[.nilIface] n) 101)) := by
  have := run_make (P := Tryz.prog) w 107 101 (Tryz.prog.types[101]!) .nilIface (by kernel_rfl) (by kernel_rfl) (by kernel_rfl) .i64 .i64 0 n (Int.le_refl _) (by omega)
    (by rw [show (Tryz.prog.types[101]!).bytes = 16 from by kernel_rfl]; omega) (by omega)
  rw [this, show (Tryz.prog.types[101]!).size = 1 from by kernel_rfl]
  simp [Value.cells]

theorem infoV : (Tryz.prog.info? 101).map (fun i => (i.zero, i.size, i.bytes)) = some (some .nilIface, 1, 16) := by kernel_rfl

theorem owns_made (w : World) (N : Nat) (hN : N ≤ 2000) : (w.alloc (.cells (madeCells #[.nilIface] N) 101)).ownsRow w.heap.size 101 1 (.slice (some ⟨w.heap.size, 0, none⟩) 0 N) 0 [] :=
  ⟨rfl, .inr ⟨w.heap.size, N, madeCells #[.nilIface] N, rfl, Nat.le_refl _, heap_new _ _, Nat.zero_le _, by unfold maxLen; omega, by rw [size_madeCells]; omega, by simp⟩⟩

set_option maxRecDepth 20000 in
set_option maxHeartbeats 4000000 in
theorem row_of {n : Nat} (h : ValSaid n) : RowSaid n := by
  intro ks v g c d w hc hv hc1 hd1 hd2
  have hv0 := hide hv
  obtain ⟨a, cap, rfl, hlen, hcap, hel⟩ := hv
  have hcell := hc.cell
  have hgl := hc.lt
  obtain ⟨N, hN1, hN2, hN⟩ : ∃ N : Nat, N ≤ ks.length ∧ N ≤ 2000 - c ∧ ∀ k, k ≤ ks.length → k ≤ 2000 - c → k ≤ N := ⟨min ks.length (2000 - c), by omega, by omega, fun k h1 h2 => by omega⟩
  have HNM := hide hN
  obtain ⟨i0, hi0, hz0, hz1, hz2⟩ := info_parts infoV
  go_enter Tryz.func71, Tryz.ntmps71
  go_upto_region 1 with fail
  go_cut [7] (fun r wc => r = .slice (some ⟨w.heap.size, 0, none⟩) 0 N ∧ wc = w.alloc (.cells (madeCells #[.nilIface] N) 101))
  case first =>
    by_cases hmin : ks.length ≤ 2000 - c
    · have hNe : N = ks.length := by have := hN _ (Nat.le_refl _) hmin; omega
      subst hNe
      have hmk := run_mkv ks.length (by omega)
      have hle : (ks.length : Int) ≤ 2000 - (c : Int) := by omega
      clear hN hmin hel
      go_wp2_with fail
      go_meet
      case rel => exact ⟨rfl, rfl⟩
    · have hNe : N = 2000 - c := by have := hN (2000 - c) (by omega) (Nat.le_refl _); omega
      subst hNe
      have hmk := run_mkv (2000 - c) (by omega)
      rw [show ((2000 - c : Nat) : Int) = 2000 - (c : Int) from by omega] at hmk
      have hle : ¬ (ks.length : Int) ≤ 2000 - (c : Int) := by omega
      have hle2 : (2000 : Int) - (c : Int) ≤ (ks.length : Int) := by omega
      clear hN hmin hel
      go_wp2_with fail
      go_meet
      case rel => exact ⟨rfl, rfl⟩
  case rest =>
    obtain ⟨rfl, rfl⟩ := hcut
    clear hN hcell
    go_wp2_with fail
    go_loopw [7, 22] (fun rv iv wr => ∃ (k : Nat) (vs : List Value), k ≤ ks.length ∧ vs.length = k ∧ iv = .int .i64 k ∧ rv = .slice (some ⟨w.heap.size, 0, none⟩) k N ∧
        wr.ownsRow w.heap.size 101 1 (.slice (some ⟨w.heap.size, 0, none⟩) k N) k vs ∧ rowOK (ks.take k) c d ∧ Ctr g (c + sizS (ks.take k)) wr ∧ But g w wr ∧
        ∀ j (hj : j < ks.length) (hj' : j < vs.length), VAt (fun b => w.heap.size < b ∧ b < wr.heap.size) wr n ks[j] vs[j]) (fun _ iv _ => ks.length - (intOf iv).toNat)
    case atStart =>
      exact ⟨0, [], Nat.zero_le _, rfl, rfl, rfl, owns_made w N (by omega), ⟨fun t ht => by simp at ht, by simp [sizS]; omega, by simp [depS]; omega⟩, by simpa [sizS] using hc.below ((Below.refl _ _).alloc (Nat.le_refl _) _), (But.refl g w).alloc _, fun j _ hj' => by simp at hj'⟩
    case round =>
      obtain ⟨k, vs, hk, hvs, rfl, rfl, hown, hok, hct, hbt, hvat⟩ := hrel
      by_cases hlt : k < ks.length
      · obtain ⟨b, off, d0, d1, d2, d3, rfl, hS, e0, e1, e2, e3, ht⟩ := hel k hlt
        have hS' : b < w.heap.size ∧ b ≠ g := hS
        have hbl := hbt.block b hS'.1 hS'.2
        have f0 : wr.cell? ⟨b, off + k * 4, none⟩ = some d0 := (World.cell?_of_block (w := w) hbl).trans e0
        have f1 : wr.cell? ⟨b, off + k * 4 + 1, none⟩ = some d1 := (World.cell?_of_block (w := w) hbl).trans e1
        have f2 : wr.cell? ⟨b, off + k * 4 + 2, none⟩ = some d2 := (World.cell?_of_block (w := w) hbl).trans e2
        have f3 : wr.cell? ⟨b, off + k * 4 + 3, none⟩ = some d3 := (World.cell?_of_block (w := w) hbl).trans e3
        obtain ⟨_, _, _, _, _, _, rfl, rfl, rfl, rfl⟩ := ht.shape
        have hcc := hide (fun x : Obj => h ks[k] _ _ _ _ g (c + sizS (ks.take k)) d (wr.alloc x) (hct.below ((Below.refl _ _).alloc (Nat.le_refl _) x)) (ht.but (hbt.alloc x)) hok.2.1 hd1 hd2)
        have HOK := hide hok
        have HCT := hide hct
        have HVA := hide hvat
        have HOW := hide hown
        have hwl := owns_lt hown
        clear hbl e0 e1 e2 e3 hok hct hvat hown
        go_wp2_with fail
        refine ((unhide hcc) _).mono ?_
        rintro e w1 ⟨hb1, ⟨hvok, v, rfl, hv1, hct1⟩ | ⟨hno, rfl⟩⟩
        · obtain ⟨vu, vx, rfl⟩ := hv1.shape
          have hownB : w1.ownsRow w.heap.size 101 1 (.slice (some ⟨w.heap.size, 0, none⟩) k N) k vs :=
            owns_keep (unhide HOW) ((hb1.block _ (by simp; omega) (by omega)).trans (Below.heap_alloc _ _ _ hwl))
          have hkN : k + 1 ≤ N := unhide HNM _ hlt (by
            have q1 := sizS_len ks (k + 1) hlt
            have q2 := sizS_take ks k hlt
            have q3 := hvok.2.1
            omega)
          have HV := hide hvok
          have HV1 := hide hv1
          have HC1 := hide hct1
          clear hvok hv1 hct1
          go_wp2_with (at_builtin; refine wpList_append_fits _ rfl (.tmp 26) (.tmp 31) 107 rfl w.heap.size 101 i0 1 Tryz.underlying107 hi0 hz1 w.heap.size k N vs rfl (hownB.alloc _) ⟨w1.heap.size, 0, none⟩ 1 1 [.iface vu vx] rfl rfl (cell_one_new _ _ _) (by intro u hu; simp at hu; subst hu; rfl) hkN ?_; intro w2 hown2 hgr2)
          have hbt2 : But g w w2 := (((hbt.alloc _).trans hb1).alloc _).grown hgr2 (Nat.le_refl _)
          have hsz1 : wr.heap.size + 1 ≤ w1.heap.size := by have := hb1.size; simpa using this
          have hsz2 : w1.heap.size + 1 ≤ w2.heap.size := by have := hgr2.size; simpa using this
          have hold : ∀ b, b < w1.heap.size → b ≠ w.heap.size → w2.heap[b]? = w1.heap[b]? := fun b hb hn =>
            (hgr2.block b (by simp; omega) (by intro e; injection e with e; omega)).trans (Below.heap_alloc _ _ _ hb)
          go_roundw
          case rel =>
            refine ⟨k + 1, vs ++ [.iface vu vx], hlt, by simp [hvs], by go_num, rfl, hown2, rowOK_step k hlt (unhide HOK) (unhide HV), ?_, hbt2, fun j hj hj' => ?_⟩
            · have hq := unhide HC1
              rw [Nat.add_assoc, ← sizS_take ks k hlt] at hq
              exact hq.keep (hold g hq.lt (by omega))
            · by_cases hjk : j < k
              · rw [List.getElem_append_left (by omega)]
                refine ((unhide HVA) j hj (by omega)).keep (fun b hb => ?_) |>.mono fun b hb => ⟨hb.1, by omega⟩
                exact ((hold b (by omega) (by omega)).trans (hb1.block b (by simp; omega) (by omega))).trans (Below.heap_alloc _ _ _ hb.2)
              · have hje : j = k := by simp [hvs] at hj'; omega
                subst hje
                rw [List.getElem_append_right (by omega)]
                simp only [hvs, Nat.sub_self, List.getElem_cons_zero]
                refine ((unhide HV1).keep fun b hb => ?_) |>.mono fun b hb => ?_
                · have h1 : wr.heap.size + 1 ≤ b := by have := hb.1; simpa using this
                  exact hold b hb.2 (by omega)
                · have h1 : wr.heap.size + 1 ≤ b := by have := hb.1; simpa using this
                  have h2 := hb.2
                  exact ⟨by omega, by omega⟩
          case measure => simp [intOf]; omega
        · exact ⟨rfl, (hbt.alloc _).trans hb1, .inr ⟨fun hr => hno (valOK_of_rowOK hr k hlt), rfl⟩⟩
      · have hkk : k = ks.length := by omega
        subst hkk
        rw [List.take_length] at hok hct
        have HOK := hide hok
        have HCT := hide hct
        have HVA := hide hvat
        have HOW := hide hown
        have hwl := owns_lt hown
        have hNl : ks.length ≤ N := by
          have q1 := sizS_len ks ks.length (Nat.le_refl _)
          rw [List.take_length] at q1
          have q3 := hok.2.1
          exact unhide HNM _ (Nat.le_refl _) (by omega)
        clear hok hct hvat hown
        go_wp2_with fail
        go_ret
        refine ⟨hbt, .inl ⟨unhide HOK, w.heap.size, N, rfl, Nat.le_refl _, hNl, by omega, fun j hj => ?_, unhide HCT⟩⟩
        exact ⟨_, 0, vs[j]'(by omega), rfl, ⟨Nat.le_refl _, hwl⟩, by simpa using owns_cell (unhide HOW) (by omega), ((unhide HVA) j hj (by omega)).mono fun b hb => ⟨by omega, hb.2⟩⟩

end Go.Proofs.YtcgbonlffcpofaaGreatDoor
/- impl's way inward: pairsOf, a copy of a row of values as pairs. -/
namespace Go.Proofs.YtcgbonlffcpofaaGreatDoor
open Go.RowKit

theorem run_mkp (n : Nat) (hn : n ≤ 2000) (w : World) : (Instr.makeSlice 114 (.int .i64 0) (.int .i64 n)).run Tryz.prog w =
    .ok (.slice (some ⟨w.heap.size, 0, none⟩) 0 n) (w.alloc (.cells (madeCells #[.nilIface, .nilIface] (n * 2)) 122)) := by
  have := run_make (P := Tryz.prog) w 114 122 (Tryz.prog.types[122]!) (.agg #[.nilIface, .nilIface]) (by kernel_rfl) (by kernel_rfl) (by kernel_rfl) .i64 .i64 0 n (Int.le_refl _) (by omega)
    (by rw [show (Tryz.prog.types[122]!).bytes = 32 from by kernel_rfl]; omega) (by omega)
  rw [this, show (Tryz.prog.types[122]!).size = 2 from by kernel_rfl]
  simp [Value.cells]
theorem infoP : (Tryz.prog.info? 122).map (fun i => (i.zero, i.size, i.bytes)) = some (some (.agg #[.nilIface, .nilIface]), 2, 32) := by kernel_rfl

set_option maxRecDepth 40000 in
set_option maxHeartbeats 4000000 in
theorem pairsOf_any (vs : List Value) (L p R0 cap : Nat) (w : World) (hvs : vs.length = L) (hL : L = 2 * p) (hp : p ≤ 1000) (hcap : L ≤ cap) (hR0 : 0 < L → R0 < w.heap.size)
    (hcell : ∀ j (hj : j < vs.length), w.cell? ⟨R0, j, none⟩ = some vs[j]) (hface : ∀ v ∈ vs, ∃ u x, v = .iface u x) :
    Calls Tryz.prog 74 #[.slice (some ⟨R0, 0, none⟩) L cap] w fun e w' => e = .returned (.slice (some ⟨w.heap.size, 0, none⟩) p p) ∧ w.heap.size < w'.heap.size ∧
      (∀ j (hj : j < vs.length), w'.cell? ⟨w.heap.size, j, none⟩ = some vs[j]) ∧ Below w.heap.size w w' := by
  obtain ⟨i0, hi0, hz0, hz1, hz2⟩ := info_parts infoP
  have hq : ((p : Nat) : Int) = (L : Int) / 2 := by omega
  have hmk := run_mkp p (by omega)
  rw [hq] at hmk
  have hLn : L ≤ 2000 := by omega
  have HL := hide hL
  have HR0 := hide hR0
  have HVS := hide hvs
  clear hq hL hvs hR0
  go_enter Tryz.func74, Tryz.ntmps74
  go_wp2_with fail
  clear hmk
  go_loopw [3, 4] (fun rv iv wr => ∃ q y : Nat, Hid (y = 2 * q) ∧ y ≤ L ∧ iv = .int .i64 y ∧ rv = .slice (some ⟨w.heap.size, 0, none⟩) q p ∧ Below w.heap.size w wr ∧ Row w.heap.size 122 (p * 2) wr ∧
      ∀ j (hj : j < vs.length), j < y → wr.cell? ⟨w.heap.size, j, none⟩ = some vs[j]) (fun _ iv _ => L - (intOf iv).toNat)
  case atStart =>
    refine ⟨0, 0, hide rfl, by omega, rfl, rfl, (Below.refl _ _).alloc (Nat.le_refl _) _, ?_, fun j _ hj => absurd hj (by omega)⟩
    have := Row.new (e := 122) w (madeCells #[.nilIface, .nilIface] (p * 2))
    rwa [size_madeCells] at this
  case round =>
    obtain ⟨q, y, HY, hyL, rfl, rfl, hb, hrow, hall⟩ := hrel
    by_cases hlt : y < L
    · have h1 : y + 1 < L := by have := unhide HY; have := unhide HL; omega
      have g1 : y < vs.length := by have := unhide HVS; omega
      have g2 : y + 1 < vs.length := by have := unhide HVS; omega
      have f1 : wr.cell? ⟨R0, y, none⟩ = some vs[y] := (World.cell?_of_block (w := w) (hb.block _ (unhide HR0 (by omega)))).trans (hcell y g1)
      have f2 : wr.cell? ⟨R0, y + 1, none⟩ = some vs[y + 1] := (World.cell?_of_block (w := w) (hb.block _ (unhide HR0 (by omega)))).trans (hcell (y + 1) g2)
      obtain ⟨u1, x1, e1⟩ := hface _ (List.getElem_mem g1)
      obtain ⟨u2, x2, e2⟩ := hface _ (List.getElem_mem g2)
      have E1 := hide e1
      have E2 := hide e2
      rw [e1] at f1
      rw [e2] at f2
      clear e1 e2
      have hrm : q + 1 ≤ p := by have := unhide HY; have := unhide HL; omega
      obtain ⟨z0, r0⟩ := hrow.cell (o := q * 2) (by omega)
      obtain ⟨z1, r1⟩ := hrow.cell (o := q * 2 + 1) (by omega)
      have r2 := hrow.frozen (q * 2)
      have r3 := hrow.frozen (q * 2 + 1)
      have HALL := hide hall
      have HC := hide hcell
      have HF := hide hface
      have hwl := hrow.lt
      clear hall hcell hface
      go_wp2_with fail
      have w0 : IntKind.i64.wrap ((y : Int) + 1) = (y : Int) + 1 := by simp [IntKind.wrap, IntKind.bits, IntKind.signed]; omega
      have w1 : (0 : Int) ≤ (y : Int) + 1 := by omega
      have w2 : (y : Int) + 1 < (L : Int) := by omega
      have w3 : ((y : Int) + 1).toNat = y + 1 := by omega
      go_region
      go_wp2_with fail
      go_roundw
      case rel =>
        have hS := Row.set (hrow.set (q * 2) (.iface u1 x1)) (q * 2 + 1) (.iface u2 x2)
        have hx := hrow.set (q * 2) (.iface u1 x1)
        refine ⟨q + 1, y + 2, hide (by have := unhide HY; omega), by omega, by go_num, rfl, ?_, ?_, fun j hj hjy => ?_⟩
        · exact (((hb.setCell (p := ⟨w.heap.size, q * 2, none⟩) (Nat.le_refl w.heap.size) _).setCell (p := ⟨w.heap.size, q * 2 + 1, none⟩) (Nat.le_refl w.heap.size) _).alloc (by simp; omega) _).drew
        · exact hS.keep (Below.heap_alloc _ _ _ hS.lt)
        · have hy2 := unhide HY
          refine (World.cell?_of_block (Below.heap_alloc _ _ _ hS.lt)).trans ?_
          by_cases hj1 : j < y
          · rw [hx.set_ne (by omega), hrow.set_ne (by omega)]; exact (unhide HALL) j hj hj1
          · by_cases hj2 : j = y
            · subst hj2
              rw [hx.set_ne (by omega), unhide E1]
              have hg := hrow.set_get (o := q * 2) (by omega) (.iface u1 x1)
              have he : q * 2 = j := by omega
              rwa [he] at hg ⊢
            · have hj3 : j = y + 1 := by omega
              subst hj3
              rw [unhide E2]
              have hg := hx.set_get (o := q * 2 + 1) (by omega) (.iface u2 x2)
              have he : q * 2 = y := by omega
              rwa [he] at hg ⊢
      case measure => simp [intOf]; omega
    · have hye : y = L := by omega
      subst hye
      have HALL := hide hall
      have HC := hide hcell
      have HF := hide hface
      have hwl := hrow.lt
      have hqp : q = p := by have := unhide HY; have := unhide HL; omega
      subst hqp
      clear hall hcell hface
      go_wp2_with fail
      go_ret
      exact ⟨rfl, hwl, fun j hj => (unhide HALL) j hj (by have := unhide HVS; omega), hb⟩

end Go.Proofs.YtcgbonlffcpofaaGreatDoor
/- impl's way inward: goIn.rising, the pairs of a map whose keys must rise. -/
namespace Go.Proofs.YtcgbonlffcpofaaGreatDoor
open Go.RowKit

/-- From count c on, at depth d, a map's row is taken. -/
def riseOK {n : Nat} (ks : List (Tm n)) (c d : Nat) : Prop := rowOK ks c d ∧ risesB (cmpT n n) ks = true
def RiseEnd {n : Nat} (ks : List (Tm n)) (g c d : Nat) (w : World) (e : Ending) (w' : World) : Prop :=
  But g w w' ∧ ((riseOK ks c d ∧ ∃ R, e = .returned (.slice (some ⟨R, 0, none⟩) (ks.length / 2) (ks.length / 2)) ∧ w.heap.size ≤ R ∧ KAt (Fresh w w') w' (VAt (Fresh w w') w' n) ks (some ⟨R, 0, none⟩) ∧ Ctr g (c + sizS ks) w') ∨
    (¬ riseOK ks c d ∧ e = faultE))

theorem KAt.list {α : Type} {S : Nat → Prop} {w : World} {R : α → Value → Prop} {ks : List α} {r : Nat} (h : KAt S w R ks (some ⟨r, 0, none⟩)) :
    ∃ vs : List Value, vs.length = ks.length ∧ ∀ j (hj : j < ks.length) (hj' : j < vs.length), S r ∧ w.cell? ⟨r, j, none⟩ = some vs[j] ∧ R ks[j] vs[j] := by
  have hx : ∀ j : Fin ks.length, ∃ v, S r ∧ w.cell? ⟨r, j.1, none⟩ = some v ∧ R (ks[j.1]'j.2) v := fun ⟨j, hj⟩ => by
    obtain ⟨b, off, v, e, hS, hc, hR⟩ := h j hj
    cases e
    exact ⟨v, hS, by simpa using hc, hR⟩
  refine ⟨List.ofFn fun j => (hx j).choose, by simp, fun j hj hj' => ?_⟩
  have := (hx ⟨j, hj⟩).choose_spec
  simpa using this

set_option maxRecDepth 40000 in
set_option maxHeartbeats 4000000 in
theorem rising_of {n : Nat} (h : RowSaid n) (ks : List (Tm n)) (v : Value) (p g c d : Nat) (w : World) (hp : ks.length = 2 * p) (hc : Ctr g c w) (hv : SAt (Inp w g) w (TAt (Inp w g) w n) ks v) (hc1 : c ≤ 2000) (hd1 : 1 ≤ d) (hd2 : d ≤ 101) :
    Calls Tryz.prog 72 #[.pointer (some ⟨g, 0, none⟩), v, .int .i64 d] w fun e w' => RiseEnd ks g c d w e w' := by
  have hcc := hide (h ks v g c d w hc hv hc1 hd1 hd2)
  have hgl := hc.lt
  obtain ⟨a, cap, rfl, hlen, hcap, hel⟩ := hv
  clear hel
  have HP := hide hp
  clear hp
  go_enter Tryz.func72, Tryz.ntmps72
  go_wp2_with fail
  refine (unhide hcc).mono ?_
  rintro e w1 ⟨hb1, ⟨hok, R, cap1, rfl, hR, hcap1, hcap2, hK, hct⟩ | ⟨hno, rfl⟩⟩
  · obtain ⟨vs, hvs, hel⟩ := hK.list
    have hp1 : p ≤ 1000 := by
      have q1 := sizS_len ks ks.length (Nat.le_refl _)
      rw [List.take_length] at q1
      have := hok.2.1; have := unhide HP; omega
    have hpo := hide (pairsOf_any vs ks.length p R cap1 w1 hvs (unhide HP) hp1 hcap1 (fun hl => (hel 0 hl (by omega)).1.2) (fun j hj => (hel j (by omega) hj).2.1)
      (fun v hv => by
        obtain ⟨j, hj, rfl⟩ := List.getElem_of_mem hv
        exact (hel j (by omega) hj).2.2.shape))
    have HOK := hide hok
    have HEL := hide hel
    have HVS := hide hvs
    have HCT := hide hct
    clear hok hel hvs hK hcc hct
    go_wp2_with fail
    refine (unhide hpo).mono ?_
    rintro e w2 ⟨rfl, hsz2, hcell2, hb2⟩
    have hbw : But g w w2 := hb1.trans (But.below hb2)
    have hK2 : ∀ j (hj : j < ks.length) (hj' : j < vs.length), w2.cell? ⟨w1.heap.size, j, none⟩ = some vs[j] ∧ VAt (Fresh w w2) w2 n ks[j] vs[j] := fun j hj hj' => by
      have hx := ((unhide HEL) j hj hj').2.2
      exact ⟨hcell2 j hj', (hx.keep fun b hb => hb2.block b hb.2).mono fun b hb => ⟨hb.1, Nat.lt_of_lt_of_le hb.2 hb2.size⟩⟩
    have HK2 := hide hK2
    have hct2 := hide ((unhide HCT).below hb2)
    have h1s := hb1.size
    clear hcell2 hK2 HEL hpo
    go_wp2_with fail
    go_loopw [8] (fun iv wr => ∃ y : Nat, (y + 1 ≤ p ∨ y = 0) ∧ iv = .int .i64 ((y : Int) + 1) ∧ Below w2.heap.size w2 wr ∧ Hid (∀ i (h : 2 * i + 2 < ks.length), i < y → cmpT n n ks[2 * i] ks[2 * i + 2] < 0)) (fun iv _ => p - (intOf iv).toNat)
    case atStart =>
      exact ⟨0, .inr rfl, rfl, Below.refl _ _, hide fun i _ h => absurd h (by omega)⟩
    case round =>
      obtain ⟨y, hy, rfl, hbr, HR⟩ := hrel
      by_cases hlt : y + 1 < p
      · have hI1 : 2 * y < ks.length := by have := unhide HP; omega
        have hI2 : 2 * y + 2 < ks.length := by have := unhide HP; omega
        obtain ⟨c1, v1⟩ := (unhide HK2) (2 * y) hI1 (by have := unhide HVS; omega)
        obtain ⟨c2, v2⟩ := (unhide HK2) (2 * y + 2) hI2 (by have := unhide HVS; omega)
        obtain ⟨u1, x1, e1⟩ := v1.shape
        obtain ⟨u2, x2, e2⟩ := v2.shape
        rw [e1] at c1 v1
        rw [e2] at c2 v2
        have r1 := (unhide HOK).1 _ (List.getElem_mem (l := ks) (n := 2 * y) hI1)
        have r2 := (unhide HOK).1 _ (List.getElem_mem (l := ks) (n := 2 * y + 2) hI2)
        have F1 : ∀ x : LaterW w2.heap.size wr, x.wd.cell? ⟨w1.heap.size, y * 2, none⟩ = some (.iface u1 x1) := fun x => by
          rw [World.cell?_of_block ((hbr.trans x.be).block _ hsz2), Nat.mul_comm]; exact c1
        have F2 : ∀ x : LaterW w2.heap.size wr, x.wd.cell? ⟨w1.heap.size, (y + 1) * 2, none⟩ = some (.iface u2 x2) := fun x => by
          rw [World.cell?_of_block ((hbr.trans x.be).block _ hsz2), show (y + 1) * 2 = 2 * y + 2 from by omega]; exact c2
        have O : ∀ x : LaterW w2.heap.size wr, Calls Tryz.prog 75 #[.iface u1 x1, .iface u2 x2] x.wd fun e w' => e = .returned (.int .i64 (cmpT n n ks[2 * y] ks[2 * y + 2])) ∧ Below x.wd.heap.size x.wd w' := fun x =>
          ord_any n n _ _ _ _ x.wd (VAt.up ((hbr.trans x.be).mono (Nat.le_refl _)) (v1.mono fun b hb => hb.2)) (VAt.up ((hbr.trans x.be).mono (Nat.le_refl _)) (v2.mono fun b hb => hb.2)) r1 r2
        have w0 : IntKind.i64.wrap ((y : Int) + 1 - 1) = (y : Int) := by simp [IntKind.wrap, IntKind.bits, IntKind.signed]; omega
        have hO := hide O
        clear c1 c2 v1 v2 e1 e2 O
        obtain ⟨z, hz⟩ : ∃ z, z = cmpT n n ks[2 * y] ks[2 * y + 2] := ⟨_, rfl⟩
        rw [← hz] at hO
        have HZ := hide hz
        clear hz r1 r2
        go_wp2_with fail
        haveI hne : Nonempty (LaterW w2.heap.size wr) := ⟨⟨wr, Below.refl _ _⟩⟩
        refine wp_region_later w2.heap.size (by kernel_rfl) (by kernel_rfl) ?_
        repeat (go_big_quiet_step ((go_at_call 75; rename_i x; refine Calls.later (v := .int .i64 z) hbr.size ((unhide hO) x))))
        refine wpQuiet_nil ?_
        rintro _ ⟨⟨wq, hq⟩, rfl⟩
        clear F1 F2 hne
        by_cases hz : 0 ≤ z
        · go_wp2_with fail
          exact ⟨rfl, hbw.trans (But.below ((hbr.trans hq).mono (Nat.le_refl _))), .inr ⟨fun hr => by
            have h1 := risesB_true.1 hr.2 y hI2
            have := unhide HZ
            omega, rfl⟩⟩
        · go_wp2_with fail
          go_roundw
          case rel =>
            refine ⟨y + 1, by omega, by go_num, hbr.trans hq, hide fun i hi hiy => ?_⟩
            by_cases hiy2 : i < y
            · exact (unhide HR) i hi hiy2
            · have hie : i = y := by omega
              subst hie
              have := unhide HZ
              omega
          case measure => simp [intOf]; omega
      · go_wp2_with fail
        go_ret
        have hpe := unhide HP
        have hq : p = ks.length / 2 := by omega
        refine ⟨hbw.trans (But.below hbr), .inl ⟨⟨unhide HOK, risesB_true.2 fun i hi => (unhide HR) i hi (by omega)⟩, w1.heap.size, by rw [← hq]; rfl, h1s, fun i hi => ?_, ?_⟩⟩
        · have hj' : i < vs.length := by have := unhide HVS; omega
          obtain ⟨e1, e2⟩ := (unhide HK2) i hi hj'
          exact ⟨w1.heap.size, 0, vs[i], rfl, ⟨h1s, Nat.lt_of_lt_of_le hsz2 hbr.size⟩, by rw [World.cell?_of_block (hbr.block _ (by omega)), Nat.zero_add]; exact e1,
            (e2.keep fun b hb => hbr.block b hb.2).mono fun b hb => ⟨hb.1, Nat.lt_of_lt_of_le hb.2 hbr.size⟩⟩
        · exact (unhide hct2).below hbr
  · exact ⟨rfl, hb1, .inr ⟨fun hr => hno hr.1, rfl⟩⟩

end Go.Proofs.YtcgbonlffcpofaaGreatDoor
