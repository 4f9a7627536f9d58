/- impl's way inward: rows of kids (goIn.row), given the way inward of one. -/
import Derived.Test.YtffgdchemjmbmaaGreatQ4
import Derived.Deep.DeepCutAuto
import Derived.Deep.AppendLies
import Derived.Deep.RegionLaw
import Derived.Deep.QuietTactic
import Derived.BigQuiet
import Derived.Test.YtffgdchemjmbmaaGreatQ1
import Derived.Deep.OwnRows
import Derived.Deep.RegionWith
import Derived.Lib.AppendZeros
namespace Go.Proofs.YtffgdchemjmbmaaGreat
open Go.RowKit

/-- What the walk inward panics with. -/
def faultV : Value := .iface 55 (.agg #[.int .i64 1, .int .i64 0])
def faultE : Ending := .panicked [{ v := faultV, recovered := false }]

/-- From count c on, at depth d, the term is taken. -/
def valOK (n : Nat) (t : Tm n) (c d : Nat) : Prop := rightB n t = true ∧ c + siz n t ≤ 2000 ∧ d + dep n t ≤ 101
def rowOK {n : Nat} (ks : List (Tm n)) (c d : Nat) : Prop := (∀ t ∈ ks, rightB n t = true) ∧ c + sizS ks ≤ 2000 ∧ d + depS ks ≤ 101

/-- The blocks of the input: there, and not the counter's. -/
abbrev Inp (w : World) (g : Nat) : Nat → Prop := fun b => b < w.heap.size ∧ b ≠ g

theorem TAt.but {w w' : World} {g : Nat} (hb : But g w w') {n : Nat} {t : Tm n} {a b c d : Value} (h : TAt (Inp w g) w n t a b c d) : TAt (Inp w' g) w' n t a b c d :=
  (h.keep fun b hs => hb.block b hs.1 hs.2).mono fun _ hs => ⟨Nat.lt_of_lt_of_le hs.1 hb.size, hs.2⟩
theorem SAt.but {w w' : World} {g : Nat} (hb : But g w w') {n : Nat} {ks : List (Tm n)} {v : Value} (h : SAt (Inp w g) w (TAt (Inp w g) w n) ks v) : SAt (Inp w' g) w' (TAt (Inp w' g) w' n) ks v :=
  (h.keep (R' := TAt (Inp w g) w' n) (fun b hs => hb.block b hs.1 hs.2) fun _ _ _ _ _ _ ht => ht.keep fun b hs => hb.block b hs.1 hs.2).mono (fun _ hs => ⟨Nat.lt_of_lt_of_le hs.1 hb.size, hs.2⟩)
    fun _ _ _ _ _ _ ht => ht.mono fun _ hs => ⟨Nat.lt_of_lt_of_le hs.1 hb.size, hs.2⟩

def ValEnd (n : Nat) (t : Tm n) (g c d : Nat) (w : World) (e : Ending) (w' : World) : Prop :=
  But g w w' ∧ ((valOK n t c d ∧ ∃ v, e = .returned v ∧ VAt (Fresh w w') w' n t v ∧ Ctr g (c + siz n t) w') ∨ (¬ valOK n t c d ∧ e = faultE))
def ValSaid (n : Nat) : Prop := ∀ (t : Tm n) (c0 c1 c2 c3 : Value) (g c d : Nat) (w : World), Ctr g c w → TAt (Inp w g) w n t c0 c1 c2 c3 → c ≤ 2000 → 1 ≤ d → d ≤ 101 →
  Calls Tryz.prog 31 #[.pointer (some ⟨g, 0, none⟩), .agg #[c0, c1, c2, c3], .int .i64 d] w fun e w' => ValEnd n t g c d w e w'

def RowEnd {n : Nat} (ks : List (Tm n)) (g c d : Nat) (w : World) (e : Ending) (w' : World) : Prop :=
  But g w w' ∧ ((rowOK ks c d ∧ ∃ R cap, e = .returned (.slice (some ⟨R, 0, none⟩) ks.length cap) ∧ w.heap.size ≤ R ∧ ks.length ≤ cap ∧ cap ≤ 2000 ∧ KAt (Fresh w w') w' (VAt (Fresh w w') w' n) ks (some ⟨R, 0, none⟩) ∧ Ctr g (c + sizS ks) w') ∨
    (¬ rowOK ks c d ∧ e = faultE))
def RowSaid (n : Nat) : Prop := ∀ (ks : List (Tm n)) (v : Value) (g c d : Nat) (w : World), Ctr g c w → SAt (Inp w g) w (TAt (Inp w g) w n) ks v → c ≤ 2000 → 1 ≤ d → d ≤ 101 →
  Calls Tryz.prog 42 #[.pointer (some ⟨g, 0, none⟩), v, .int .i64 d] w fun e w' => RowEnd ks g c d w e w'

theorem sizS_len {n : Nat} (ks : List (Tm n)) (k : Nat) (h : k ≤ ks.length) : k ≤ sizS (ks.take k) := by
  induction k with
  | zero => exact Nat.zero_le _
  | succ k ih => rw [sizS_take ks k h]; have := ih (by omega); have := siz_pos ks[k]; omega

theorem valOK_of_rowOK {n : Nat} {ks : List (Tm n)} {c d : Nat} (h : rowOK ks c d) (k : Nat) (hk : k < ks.length) : valOK n ks[k] (c + sizS (ks.take k)) d := by
  obtain ⟨h1, h2, h3⟩ := h
  have e1 := sizS_take ks k hk
  have e2 := sizS_le ks (k + 1)
  have e3 := depS_take ks k hk
  have e4 := depS_le ks (k + 1)
  exact ⟨h1 _ (List.getElem_mem hk), by omega, by omega⟩
theorem rowOK_step {n : Nat} {ks : List (Tm n)} {c d : Nat} (k : Nat) (hk : k < ks.length) (h : rowOK (ks.take k) c d) (hv : valOK n ks[k] (c + sizS (ks.take k)) d) : rowOK (ks.take (k + 1)) c d := by
  obtain ⟨h1, h2, h3⟩ := h
  obtain ⟨v1, v2, v3⟩ := hv
  refine ⟨fun t ht => ?_, by rw [sizS_take ks k hk]; omega, by rw [depS_take ks k hk]; omega⟩
  rw [List.take_succ_eq_append_getElem hk, List.mem_append] at ht
  rcases ht with ht | ht
  · exact h1 t ht
  · rw [List.mem_singleton] at ht; rw [ht]; exact v1

theorem run_mkv (n : Nat) (hn : n ≤ 2000) (w : World) : (Instr.makeSlice 67 (.int .i64 0) (.int .i64 n)).run Tryz.prog w =
    .ok (.slice (some ⟨w.heap.size, 0, none⟩) 0 n) (w.alloc (.cells (madeCells #[.nilIface] n) 45)) := by
  have := run_make (P := Tryz.prog) w 67 45 (Tryz.prog.types[45]!) .nilIface (by kernel_rfl) (by kernel_rfl) (by kernel_rfl) .i64 .i64 0 n (Int.le_refl _) (by omega)
    (by rw [show (Tryz.prog.types[45]!).bytes = 16 from by kernel_rfl]; omega) (by omega)
  rw [this, show (Tryz.prog.types[45]!).size = 1 from by kernel_rfl]
  simp [Value.cells]

theorem infoV : (Tryz.prog.info? 45).map (fun i => (i.zero, i.size, i.bytes)) = some (some .nilIface, 1, 16) := by kernel_rfl

theorem owns_made (w : World) (N : Nat) (hN : N ≤ 2000) : (w.alloc (.cells (madeCells #[.nilIface] N) 45)).ownsRow w.heap.size 45 1 (.slice (some ⟨w.heap.size, 0, none⟩) 0 N) 0 [] :=
  ⟨rfl, .inr ⟨w.heap.size, N, madeCells #[.nilIface] N, rfl, Nat.le_refl _, heap_new _ _, Nat.zero_le _, by unfold maxLen; omega, by rw [size_madeCells]; omega, by simp⟩⟩

set_option maxRecDepth 20000 in
set_option maxHeartbeats 4000000 in
theorem row_of {n : Nat} (h : ValSaid n) : RowSaid n := by
  intro ks v g c d w hc hv hc1 hd1 hd2
  have hv0 := hide hv
  obtain ⟨a, cap, rfl, hlen, hcap, hel⟩ := hv
  have hcell := hc.cell
  have hgl := hc.lt
  obtain ⟨N, hN1, hN2, hN⟩ : ∃ N : Nat, N ≤ ks.length ∧ N ≤ 2000 - c ∧ ∀ k, k ≤ ks.length → k ≤ 2000 - c → k ≤ N := ⟨min ks.length (2000 - c), by omega, by omega, fun k h1 h2 => by omega⟩
  have HNM := hide hN
  obtain ⟨i0, hi0, hz0, hz1, hz2⟩ := info_parts infoV
  go_enter Tryz.func42, Tryz.ntmps42
  go_upto_region 1 with fail
  go_cut [7] (fun r wc => r = .slice (some ⟨w.heap.size, 0, none⟩) 0 N ∧ wc = w.alloc (.cells (madeCells #[.nilIface] N) 45))
  case first =>
    by_cases hmin : ks.length ≤ 2000 - c
    · have hNe : N = ks.length := by have := hN _ (Nat.le_refl _) hmin; omega
      subst hNe
      have hmk := run_mkv ks.length (by omega)
      have hle : (ks.length : Int) ≤ 2000 - (c : Int) := by omega
      clear hN hmin hel
      go_wp2_with fail
      go_meet
      case rel => exact ⟨rfl, rfl⟩
    · have hNe : N = 2000 - c := by have := hN (2000 - c) (by omega) (Nat.le_refl _); omega
      subst hNe
      have hmk := run_mkv (2000 - c) (by omega)
      rw [show ((2000 - c : Nat) : Int) = 2000 - (c : Int) from by omega] at hmk
      have hle : ¬ (ks.length : Int) ≤ 2000 - (c : Int) := by omega
      have hle2 : (2000 : Int) - (c : Int) ≤ (ks.length : Int) := by omega
      clear hN hmin hel
      go_wp2_with fail
      go_meet
      case rel => exact ⟨rfl, rfl⟩
  case rest =>
    obtain ⟨rfl, rfl⟩ := hcut
    clear hN hcell
    go_wp2_with fail
    go_loopw [7, 22] (fun rv iv wr => ∃ (k : Nat) (vs : List Value), k ≤ ks.length ∧ vs.length = k ∧ iv = .int .i64 k ∧ rv = .slice (some ⟨w.heap.size, 0, none⟩) k N ∧
        wr.ownsRow w.heap.size 45 1 (.slice (some ⟨w.heap.size, 0, none⟩) k N) k vs ∧ rowOK (ks.take k) c d ∧ Ctr g (c + sizS (ks.take k)) wr ∧ But g w wr ∧
        ∀ j (hj : j < ks.length) (hj' : j < vs.length), VAt (fun b => w.heap.size < b ∧ b < wr.heap.size) wr n ks[j] vs[j]) (fun _ iv _ => ks.length - (intOf iv).toNat)
    case atStart =>
      exact ⟨0, [], Nat.zero_le _, rfl, rfl, rfl, owns_made w N (by omega), ⟨fun t ht => by simp at ht, by simp [sizS]; omega, by simp [depS]; omega⟩, by simpa [sizS] using hc.below ((Below.refl _ _).alloc (Nat.le_refl _) _), (But.refl g w).alloc _, fun j _ hj' => by simp at hj'⟩
    case round =>
      obtain ⟨k, vs, hk, hvs, rfl, rfl, hown, hok, hct, hbt, hvat⟩ := hrel
      by_cases hlt : k < ks.length
      · obtain ⟨b, off, d0, d1, d2, d3, rfl, hS, e0, e1, e2, e3, ht⟩ := hel k hlt
        have hS' : b < w.heap.size ∧ b ≠ g := hS
        have hbl := hbt.block b hS'.1 hS'.2
        have f0 : wr.cell? ⟨b, off + k * 4, none⟩ = some d0 := (World.cell?_of_block (w := w) hbl).trans e0
        have f1 : wr.cell? ⟨b, off + k * 4 + 1, none⟩ = some d1 := (World.cell?_of_block (w := w) hbl).trans e1
        have f2 : wr.cell? ⟨b, off + k * 4 + 2, none⟩ = some d2 := (World.cell?_of_block (w := w) hbl).trans e2
        have f3 : wr.cell? ⟨b, off + k * 4 + 3, none⟩ = some d3 := (World.cell?_of_block (w := w) hbl).trans e3
        obtain ⟨_, _, _, _, _, _, rfl, rfl, rfl, rfl⟩ := ht.shape
        have hcc := hide (fun x : Obj => h ks[k] _ _ _ _ g (c + sizS (ks.take k)) d (wr.alloc x) (hct.below ((Below.refl _ _).alloc (Nat.le_refl _) x)) (ht.but (hbt.alloc x)) hok.2.1 hd1 hd2)
        have HOK := hide hok
        have HCT := hide hct
        have HVA := hide hvat
        have HOW := hide hown
        have hwl := owns_lt hown
        clear hbl e0 e1 e2 e3 hok hct hvat hown
        go_wp2_with fail
        refine ((unhide hcc) _).mono ?_
        rintro e w1 ⟨hb1, ⟨hvok, v, rfl, hv1, hct1⟩ | ⟨hno, rfl⟩⟩
        · obtain ⟨vu, vx, rfl⟩ := hv1.shape
          have hownB : w1.ownsRow w.heap.size 45 1 (.slice (some ⟨w.heap.size, 0, none⟩) k N) k vs :=
            owns_keep (unhide HOW) ((hb1.block _ (by simp; omega) (by omega)).trans (Below.heap_alloc _ _ _ hwl))
          have hkN : k + 1 ≤ N := unhide HNM _ hlt (by
            have q1 := sizS_len ks (k + 1) hlt
            have q2 := sizS_take ks k hlt
            have q3 := hvok.2.1
            omega)
          have HV := hide hvok
          have HV1 := hide hv1
          have HC1 := hide hct1
          clear hvok hv1 hct1
          go_wp2_with (at_builtin; refine wpList_append_fits _ rfl (.tmp 26) (.tmp 31) 67 rfl w.heap.size 45 i0 1 Tryz.underlying67 hi0 hz1 w.heap.size k N vs rfl (hownB.alloc _) ⟨w1.heap.size, 0, none⟩ 1 1 [.iface vu vx] rfl rfl (cell_one_new _ _ _) (by intro u hu; simp at hu; subst hu; rfl) hkN ?_; intro w2 hown2 hgr2)
          have hbt2 : But g w w2 := (((hbt.alloc _).trans hb1).alloc _).grown hgr2 (Nat.le_refl _)
          have hsz1 : wr.heap.size + 1 ≤ w1.heap.size := by have := hb1.size; simpa using this
          have hsz2 : w1.heap.size + 1 ≤ w2.heap.size := by have := hgr2.size; simpa using this
          have hold : ∀ b, b < w1.heap.size → b ≠ w.heap.size → w2.heap[b]? = w1.heap[b]? := fun b hb hn =>
            (hgr2.block b (by simp; omega) (by intro e; injection e with e; omega)).trans (Below.heap_alloc _ _ _ hb)
          go_roundw
          case rel =>
            refine ⟨k + 1, vs ++ [.iface vu vx], hlt, by simp [hvs], by go_num, rfl, hown2, rowOK_step k hlt (unhide HOK) (unhide HV), ?_, hbt2, fun j hj hj' => ?_⟩
            · have hq := unhide HC1
              rw [Nat.add_assoc, ← sizS_take ks k hlt] at hq
              exact hq.keep (hold g hq.lt (by omega))
            · by_cases hjk : j < k
              · rw [List.getElem_append_left (by omega)]
                refine ((unhide HVA) j hj (by omega)).keep (fun b hb => ?_) |>.mono fun b hb => ⟨hb.1, by omega⟩
                exact ((hold b (by omega) (by omega)).trans (hb1.block b (by simp; omega) (by omega))).trans (Below.heap_alloc _ _ _ hb.2)
              · have hje : j = k := by simp [hvs] at hj'; omega
                subst hje
                rw [List.getElem_append_right (by omega)]
                simp only [hvs, Nat.sub_self, List.getElem_cons_zero]
                refine ((unhide HV1).keep fun b hb => ?_) |>.mono fun b hb => ?_
                · have h1 : wr.heap.size + 1 ≤ b := by have := hb.1; simpa using this
                  exact hold b hb.2 (by omega)
                · have h1 : wr.heap.size + 1 ≤ b := by have := hb.1; simpa using this
                  have h2 := hb.2
                  exact ⟨by omega, by omega⟩
          case measure => simp [intOf]; omega
        · exact ⟨rfl, (hbt.alloc _).trans hb1, .inr ⟨fun hr => hno (valOK_of_rowOK hr k hlt), rfl⟩⟩
      · have hkk : k = ks.length := by omega
        subst hkk
        rw [List.take_length] at hok hct
        have HOK := hide hok
        have HCT := hide hct
        have HVA := hide hvat
        have HOW := hide hown
        have hwl := owns_lt hown
        have hNl : ks.length ≤ N := by
          have q1 := sizS_len ks ks.length (Nat.le_refl _)
          rw [List.take_length] at q1
          have q3 := hok.2.1
          exact unhide HNM _ (Nat.le_refl _) (by omega)
        clear hok hct hvat hown
        go_wp2_with fail
        go_ret
        refine ⟨hbt, .inl ⟨unhide HOK, w.heap.size, N, rfl, Nat.le_refl _, hNl, by omega, fun j hj => ?_, unhide HCT⟩⟩
        exact ⟨_, 0, vs[j]'(by omega), rfl, ⟨Nat.le_refl _, hwl⟩, by simpa using owns_cell (unhide HOW) (by omega), ((unhide HVA) j hj (by omega)).mono fun b hb => ⟨by omega, hb.2⟩⟩

end Go.Proofs.YtffgdchemjmbmaaGreat
/- impl's pack of maps: flat, pack. -/
namespace Go.Proofs.YtffgdchemjmbmaaGreat
open Go.RowKit Go.Deep

theorem VAt.iface {S : Nat → Prop} {w : World} : ∀ {n : Nat} {t : Tm n} {v : Value}, VAt S w n t v → ∃ u x, v = .iface u x
  | 0, t, _, _ => t.elim
  | _ + 1, (_, _, _, _), _, h => by
    obtain ⟨u, x, _, h, _⟩ := h.dyn
    exact ⟨u, x, h⟩

/-- A row's cells, as a list. -/
theorem KAt.cellsOf {α : Type} {S : Nat → Prop} {w : World} {R : α → Value → Prop} : ∀ {ks : List α} {a : Option Addr}, KAt S w R ks a →
    ∃ vs : List Value, vs.length = ks.length ∧ ∀ i (h : i < ks.length) (h' : i < vs.length), ∃ b off, a = some ⟨b, off, none⟩ ∧ S b ∧ w.cell? ⟨b, off + i, none⟩ = some vs[i] ∧ R ks[i] vs[i] := by
  intro ks a h
  refine ⟨(List.finRange ks.length).map fun i => (h i.1 i.2).choose_spec.choose_spec.choose, by simp, fun i hi hi' => ?_⟩
  obtain ⟨h1, h2, h3, h4⟩ := (h i hi).choose_spec.choose_spec.choose_spec
  refine ⟨_, _, h1, h2, ?_, ?_⟩
  · simpa using h3
  · simpa using h4

theorem take_two {α : Type} (l : List α) (i : Nat) (h : 2 * i + 1 < l.length) : l.take (2 * (i + 1)) = l.take (2 * i) ++ [l[2 * i], l[2 * i + 1]] := by
  rw [show 2 * (i + 1) = 2 * i + 1 + 1 by omega, List.take_succ_eq_append_getElem h, List.take_succ_eq_append_getElem (show 2 * i < l.length by omega), List.append_assoc]
  rfl

end Go.Proofs.YtffgdchemjmbmaaGreat
/- impl's way inward: pairsOf, a copy of a row of values as pairs. -/
namespace Go.Proofs.YtffgdchemjmbmaaGreat
open Go.RowKit

theorem run_mkp (n : Nat) (hn : n ≤ 2000) (w : World) : (Instr.makeSlice 74 (.int .i64 0) (.int .i64 n)).run Tryz.prog w =
    .ok (.slice (some ⟨w.heap.size, 0, none⟩) 0 n) (w.alloc (.cells (madeCells #[.nilIface, .nilIface] (n * 2)) 91)) := by
  have := run_make (P := Tryz.prog) w 74 91 (Tryz.prog.types[91]!) (.agg #[.nilIface, .nilIface]) (by kernel_rfl) (by kernel_rfl) (by kernel_rfl) .i64 .i64 0 n (Int.le_refl _) (by omega)
    (by rw [show (Tryz.prog.types[91]!).bytes = 32 from by kernel_rfl]; omega) (by omega)
  rw [this, show (Tryz.prog.types[91]!).size = 2 from by kernel_rfl]
  simp [Value.cells]
theorem infoP : (Tryz.prog.info? 91).map (fun i => (i.zero, i.size, i.bytes)) = some (some (.agg #[.nilIface, .nilIface]), 2, 32) := by kernel_rfl

set_option maxRecDepth 40000 in
set_option maxHeartbeats 4000000 in
theorem pairsOf_any (vs : List Value) (L p R0 cap : Nat) (w : World) (hvs : vs.length = L) (hL : L = 2 * p) (hp : p ≤ 1000) (hcap : L ≤ cap) (hR0 : 0 < L → R0 < w.heap.size)
    (hcell : ∀ j (hj : j < vs.length), w.cell? ⟨R0, j, none⟩ = some vs[j]) (hface : ∀ v ∈ vs, ∃ u x, v = .iface u x) :
    Calls Tryz.prog 48 #[.slice (some ⟨R0, 0, none⟩) L cap] w fun e w' => e = .returned (.slice (some ⟨w.heap.size, 0, none⟩) p p) ∧ w.heap.size < w'.heap.size ∧
      (∀ j (hj : j < vs.length), w'.cell? ⟨w.heap.size, j, none⟩ = some vs[j]) ∧ Below w.heap.size w w' := by
  obtain ⟨i0, hi0, hz0, hz1, hz2⟩ := info_parts infoP
  have hq : ((p : Nat) : Int) = (L : Int) / 2 := by omega
  have hmk := run_mkp p (by omega)
  rw [hq] at hmk
  have hLn : L ≤ 2000 := by omega
  have HL := hide hL
  have HR0 := hide hR0
  have HVS := hide hvs
  clear hq hL hvs hR0
  go_enter Tryz.func48, Tryz.ntmps48
  go_wp2_with fail
  clear hmk
  go_loopw [3, 4] (fun rv iv wr => ∃ q y : Nat, Hid (y = 2 * q) ∧ y ≤ L ∧ iv = .int .i64 y ∧ rv = .slice (some ⟨w.heap.size, 0, none⟩) q p ∧ Below w.heap.size w wr ∧ Row w.heap.size 91 (p * 2) wr ∧
      ∀ j (hj : j < vs.length), j < y → wr.cell? ⟨w.heap.size, j, none⟩ = some vs[j]) (fun _ iv _ => L - (intOf iv).toNat)
  case atStart =>
    refine ⟨0, 0, hide rfl, by omega, rfl, rfl, (Below.refl _ _).alloc (Nat.le_refl _) _, ?_, fun j _ hj => absurd hj (by omega)⟩
    have := Row.new (e := 91) w (madeCells #[.nilIface, .nilIface] (p * 2))
    rwa [size_madeCells] at this
  case round =>
    obtain ⟨q, y, HY, hyL, rfl, rfl, hb, hrow, hall⟩ := hrel
    by_cases hlt : y < L
    · have h1 : y + 1 < L := by have := unhide HY; have := unhide HL; omega
      have g1 : y < vs.length := by have := unhide HVS; omega
      have g2 : y + 1 < vs.length := by have := unhide HVS; omega
      have f1 : wr.cell? ⟨R0, y, none⟩ = some vs[y] := (World.cell?_of_block (w := w) (hb.block _ (unhide HR0 (by omega)))).trans (hcell y g1)
      have f2 : wr.cell? ⟨R0, y + 1, none⟩ = some vs[y + 1] := (World.cell?_of_block (w := w) (hb.block _ (unhide HR0 (by omega)))).trans (hcell (y + 1) g2)
      obtain ⟨u1, x1, e1⟩ := hface _ (List.getElem_mem g1)
      obtain ⟨u2, x2, e2⟩ := hface _ (List.getElem_mem g2)
      have E1 := hide e1
      have E2 := hide e2
      rw [e1] at f1
      rw [e2] at f2
      clear e1 e2
      have hrm : q + 1 ≤ p := by have := unhide HY; have := unhide HL; omega
      obtain ⟨z0, r0⟩ := hrow.cell (o := q * 2) (by omega)
      obtain ⟨z1, r1⟩ := hrow.cell (o := q * 2 + 1) (by omega)
      have r2 := hrow.frozen (q * 2)
      have r3 := hrow.frozen (q * 2 + 1)
      have HALL := hide hall
      have HC := hide hcell
      have HF := hide hface
      have hwl := hrow.lt
      clear hall hcell hface
      go_wp2_with fail
      have w0 : IntKind.i64.wrap ((y : Int) + 1) = (y : Int) + 1 := by simp [IntKind.wrap, IntKind.bits, IntKind.signed]; omega
      have w1 : (0 : Int) ≤ (y : Int) + 1 := by omega
      have w2 : (y : Int) + 1 < (L : Int) := by omega
      have w3 : ((y : Int) + 1).toNat = y + 1 := by omega
      go_region
      go_wp2_with fail
      go_roundw
      case rel =>
        have hS := Row.set (hrow.set (q * 2) (.iface u1 x1)) (q * 2 + 1) (.iface u2 x2)
        have hx := hrow.set (q * 2) (.iface u1 x1)
        refine ⟨q + 1, y + 2, hide (by have := unhide HY; omega), by omega, by go_num, rfl, ?_, ?_, fun j hj hjy => ?_⟩
        · exact (((hb.setCell (p := ⟨w.heap.size, q * 2, none⟩) (Nat.le_refl w.heap.size) _).setCell (p := ⟨w.heap.size, q * 2 + 1, none⟩) (Nat.le_refl w.heap.size) _).alloc (by simp; omega) _).drew
        · exact hS.keep (Below.heap_alloc _ _ _ hS.lt)
        · have hy2 := unhide HY
          refine (World.cell?_of_block (Below.heap_alloc _ _ _ hS.lt)).trans ?_
          by_cases hj1 : j < y
          · rw [hx.set_ne (by omega), hrow.set_ne (by omega)]; exact (unhide HALL) j hj hj1
          · by_cases hj2 : j = y
            · subst hj2
              rw [hx.set_ne (by omega), unhide E1]
              have hg := hrow.set_get (o := q * 2) (by omega) (.iface u1 x1)
              have he : q * 2 = j := by omega
              rwa [he] at hg ⊢
            · have hj3 : j = y + 1 := by omega
              subst hj3
              rw [unhide E2]
              have hg := hx.set_get (o := q * 2 + 1) (by omega) (.iface u2 x2)
              have he : q * 2 = y := by omega
              rwa [he] at hg ⊢
      case measure => simp [intOf]; omega
    · have hye : y = L := by omega
      subst hye
      have HALL := hide hall
      have HC := hide hcell
      have HF := hide hface
      have hwl := hrow.lt
      have hqp : q = p := by have := unhide HY; have := unhide HL; omega
      subst hqp
      clear hall hcell hface
      go_wp2_with fail
      go_ret
      exact ⟨rfl, hwl, fun j hj => (unhide HALL) j hj (by have := unhide HVS; omega), hb⟩

end Go.Proofs.YtffgdchemjmbmaaGreat
/- impl's way inward: goIn.rising, the pairs of a map whose keys must rise. -/
namespace Go.Proofs.YtffgdchemjmbmaaGreat
open Go.RowKit

/-- From count c on, at depth d, a map's row is taken. -/
def riseOK {n : Nat} (ks : List (Tm n)) (c d : Nat) : Prop := rowOK ks c d ∧ risesB (cmpT n n) ks = true
def RiseEnd {n : Nat} (ks : List (Tm n)) (g c d : Nat) (w : World) (e : Ending) (w' : World) : Prop :=
  But g w w' ∧ ((riseOK ks c d ∧ ∃ R, e = .returned (.slice (some ⟨R, 0, none⟩) (ks.length / 2) (ks.length / 2)) ∧ w.heap.size ≤ R ∧ KAt (Fresh w w') w' (VAt (Fresh w w') w' n) ks (some ⟨R, 0, none⟩) ∧ Ctr g (c + sizS ks) w') ∨
    (¬ riseOK ks c d ∧ e = faultE))

theorem KAt.list {α : Type} {S : Nat → Prop} {w : World} {R : α → Value → Prop} {ks : List α} {r : Nat} (h : KAt S w R ks (some ⟨r, 0, none⟩)) :
    ∃ vs : List Value, vs.length = ks.length ∧ ∀ j (hj : j < ks.length) (hj' : j < vs.length), S r ∧ w.cell? ⟨r, j, none⟩ = some vs[j] ∧ R ks[j] vs[j] := by
  have hx : ∀ j : Fin ks.length, ∃ v, S r ∧ w.cell? ⟨r, j.1, none⟩ = some v ∧ R (ks[j.1]'j.2) v := fun ⟨j, hj⟩ => by
    obtain ⟨b, off, v, e, hS, hc, hR⟩ := h j hj
    cases e
    exact ⟨v, hS, by simpa using hc, hR⟩
  refine ⟨List.ofFn fun j => (hx j).choose, by simp, fun j hj hj' => ?_⟩
  have := (hx ⟨j, hj⟩).choose_spec
  simpa using this

set_option maxRecDepth 40000 in
set_option maxHeartbeats 4000000 in
theorem rising_of {n : Nat} (h : RowSaid n) (ks : List (Tm n)) (v : Value) (p g c d : Nat) (w : World) (hp : ks.length = 2 * p) (hc : Ctr g c w) (hv : SAt (Inp w g) w (TAt (Inp w g) w n) ks v) (hc1 : c ≤ 2000) (hd1 : 1 ≤ d) (hd2 : d ≤ 101) :
    Calls Tryz.prog 43 #[.pointer (some ⟨g, 0, none⟩), v, .int .i64 d] w fun e w' => RiseEnd ks g c d w e w' := by
  have hcc := hide (h ks v g c d w hc hv hc1 hd1 hd2)
  have hgl := hc.lt
  obtain ⟨a, cap, rfl, hlen, hcap, hel⟩ := hv
  clear hel
  have HP := hide hp
  clear hp
  go_enter Tryz.func43, Tryz.ntmps43
  go_wp2_with fail
  refine (unhide hcc).mono ?_
  rintro e w1 ⟨hb1, ⟨hok, R, cap1, rfl, hR, hcap1, hcap2, hK, hct⟩ | ⟨hno, rfl⟩⟩
  · obtain ⟨vs, hvs, hel⟩ := hK.list
    have hp1 : p ≤ 1000 := by
      have q1 := sizS_len ks ks.length (Nat.le_refl _)
      rw [List.take_length] at q1
      have := hok.2.1; have := unhide HP; omega
    have hpo := hide (pairsOf_any vs ks.length p R cap1 w1 hvs (unhide HP) hp1 hcap1 (fun hl => (hel 0 hl (by omega)).1.2) (fun j hj => (hel j (by omega) hj).2.1)
      (fun v hv => by
        obtain ⟨j, hj, rfl⟩ := List.getElem_of_mem hv
        exact (hel j (by omega) hj).2.2.shape))
    have HOK := hide hok
    have HEL := hide hel
    have HVS := hide hvs
    have HCT := hide hct
    clear hok hel hvs hK hcc hct
    go_wp2_with fail
    refine (unhide hpo).mono ?_
    rintro e w2 ⟨rfl, hsz2, hcell2, hb2⟩
    have hbw : But g w w2 := hb1.trans (But.below hb2)
    have hK2 : ∀ j (hj : j < ks.length) (hj' : j < vs.length), w2.cell? ⟨w1.heap.size, j, none⟩ = some vs[j] ∧ VAt (Fresh w w2) w2 n ks[j] vs[j] := fun j hj hj' => by
      have hx := ((unhide HEL) j hj hj').2.2
      exact ⟨hcell2 j hj', (hx.keep fun b hb => hb2.block b hb.2).mono fun b hb => ⟨hb.1, Nat.lt_of_lt_of_le hb.2 hb2.size⟩⟩
    have HK2 := hide hK2
    have hct2 := hide ((unhide HCT).below hb2)
    have h1s := hb1.size
    clear hcell2 hK2 HEL hpo
    go_wp2_with fail
    go_loopw [8] (fun iv wr => ∃ y : Nat, (y + 1 ≤ p ∨ y = 0) ∧ iv = .int .i64 ((y : Int) + 1) ∧ Below w2.heap.size w2 wr ∧ Hid (∀ i (h : 2 * i + 2 < ks.length), i < y → cmpT n n ks[2 * i] ks[2 * i + 2] < 0)) (fun iv _ => p - (intOf iv).toNat)
    case atStart =>
      exact ⟨0, .inr rfl, rfl, Below.refl _ _, hide fun i _ h => absurd h (by omega)⟩
    case round =>
      obtain ⟨y, hy, rfl, hbr, HR⟩ := hrel
      by_cases hlt : y + 1 < p
      · have hI1 : 2 * y < ks.length := by have := unhide HP; omega
        have hI2 : 2 * y + 2 < ks.length := by have := unhide HP; omega
        obtain ⟨c1, v1⟩ := (unhide HK2) (2 * y) hI1 (by have := unhide HVS; omega)
        obtain ⟨c2, v2⟩ := (unhide HK2) (2 * y + 2) hI2 (by have := unhide HVS; omega)
        obtain ⟨u1, x1, e1⟩ := v1.shape
        obtain ⟨u2, x2, e2⟩ := v2.shape
        rw [e1] at c1 v1
        rw [e2] at c2 v2
        have r1 := (unhide HOK).1 _ (List.getElem_mem (l := ks) (n := 2 * y) hI1)
        have r2 := (unhide HOK).1 _ (List.getElem_mem (l := ks) (n := 2 * y + 2) hI2)
        have F1 : ∀ x : LaterW w2.heap.size wr, x.wd.cell? ⟨w1.heap.size, y * 2, none⟩ = some (.iface u1 x1) := fun x => by
          rw [World.cell?_of_block ((hbr.trans x.be).block _ hsz2), Nat.mul_comm]; exact c1
        have F2 : ∀ x : LaterW w2.heap.size wr, x.wd.cell? ⟨w1.heap.size, (y + 1) * 2, none⟩ = some (.iface u2 x2) := fun x => by
          rw [World.cell?_of_block ((hbr.trans x.be).block _ hsz2), show (y + 1) * 2 = 2 * y + 2 from by omega]; exact c2
        have O : ∀ x : LaterW w2.heap.size wr, Calls Tryz.prog 49 #[.iface u1 x1, .iface u2 x2] x.wd fun e w' => e = .returned (.int .i64 (cmpT n n ks[2 * y] ks[2 * y + 2])) ∧ Below x.wd.heap.size x.wd w' := fun x =>
          ord_any n n _ _ _ _ x.wd (VAt.up ((hbr.trans x.be).mono (Nat.le_refl _)) (v1.mono fun b hb => hb.2)) (VAt.up ((hbr.trans x.be).mono (Nat.le_refl _)) (v2.mono fun b hb => hb.2)) r1 r2
        have w0 : IntKind.i64.wrap ((y : Int) + 1 - 1) = (y : Int) := by simp [IntKind.wrap, IntKind.bits, IntKind.signed]; omega
        have hO := hide O
        clear c1 c2 v1 v2 e1 e2 O
        obtain ⟨z, hz⟩ : ∃ z, z = cmpT n n ks[2 * y] ks[2 * y + 2] := ⟨_, rfl⟩
        rw [← hz] at hO
        have HZ := hide hz
        clear hz r1 r2
        go_wp2_with fail
        haveI hne : Nonempty (LaterW w2.heap.size wr) := ⟨⟨wr, Below.refl _ _⟩⟩
        refine wp_region_later w2.heap.size (by kernel_rfl) (by kernel_rfl) ?_
        repeat (go_big_quiet_step ((go_at_call 49; rename_i x; refine Calls.later (v := .int .i64 z) hbr.size ((unhide hO) x))))
        refine wpQuiet_nil ?_
        rintro _ ⟨⟨wq, hq⟩, rfl⟩
        clear F1 F2 hne
        by_cases hz : 0 ≤ z
        · go_wp2_with fail
          exact ⟨rfl, hbw.trans (But.below ((hbr.trans hq).mono (Nat.le_refl _))), .inr ⟨fun hr => by
            have h1 := risesB_true.1 hr.2 y hI2
            have := unhide HZ
            omega, rfl⟩⟩
        · go_wp2_with fail
          go_roundw
          case rel =>
            refine ⟨y + 1, by omega, by go_num, hbr.trans hq, hide fun i hi hiy => ?_⟩
            by_cases hiy2 : i < y
            · exact (unhide HR) i hi hiy2
            · have hie : i = y := by omega
              subst hie
              have := unhide HZ
              omega
          case measure => simp [intOf]; omega
      · go_wp2_with fail
        go_ret
        have hpe := unhide HP
        have hq : p = ks.length / 2 := by omega
        refine ⟨hbw.trans (But.below hbr), .inl ⟨⟨unhide HOK, risesB_true.2 fun i hi => (unhide HR) i hi (by omega)⟩, w1.heap.size, by rw [← hq]; rfl, h1s, fun i hi => ?_, ?_⟩⟩
        · have hj' : i < vs.length := by have := unhide HVS; omega
          obtain ⟨e1, e2⟩ := (unhide HK2) i hi hj'
          exact ⟨w1.heap.size, 0, vs[i], rfl, ⟨h1s, Nat.lt_of_lt_of_le hsz2 hbr.size⟩, by rw [World.cell?_of_block (hbr.block _ (by omega)), Nat.zero_add]; exact e1,
            (e2.keep fun b hb => hbr.block b hb.2).mono fun b hb => ⟨hb.1, Nat.lt_of_lt_of_le hb.2 hbr.size⟩⟩
        · exact (unhide hct2).below hbr
  · exact ⟨rfl, hb1, .inr ⟨fun hr => hno hr.1, rfl⟩⟩

end Go.Proofs.YtffgdchemjmbmaaGreat
/- impl's way inward: goIn.value, and all of it. -/
namespace Go.Proofs.YtffgdchemjmbmaaGreat
open Go.RowKit

theorem fit_kinds {k m : Int} {s : ByteArray} {l : Nat} (h : fitB k m s l = true) : k = 1 ∨ k = 2 ∨ k = 3 ∨ k = 4 ∨ k = 5 ∨ k = 6 ∨ k = 7 ∨ k = 8 ∨ k = 9 := by
  refine Decidable.byContradiction fun hn => ?_
  have := fit_else (i := m) (s := s) (l := l) (k := k) (by omega) (by omega) (by omega) (by omega) (by omega) (by omega) (by omega) (by omega) (by omega)
  rw [this] at h; cases h

theorem box_block (w : World) (g : Nat) (v : Value) (arr : Array Value) (e : TypeId) (hg : g < w.heap.size) :
    ((w.alloc (.cells arr e)).setCell ⟨g, 0, none⟩ v).heap[w.heap.size]? = some (.cells arr e (0, 0)) :=
  (Below.heap_setCell _ _ _ _ (by show w.heap.size ≠ g; omega)).trans (heap_new _ _)

theorem valOK_fit {n : Nat} {k m : Int} {s : ByteArray} {ks : List (Tm n)} {c d : Nat} (h : valOK (n + 1) (k, m, s, ks) c d) : c + 1 ≤ 2000 ∧ d ≤ 100 ∧ fitB k m s ks.length = true := by
  obtain ⟨h1, h2, h3⟩ := h
  have h2' : c + (1 + (ks.map (siz n)).sum) ≤ 2000 := h2
  have h3' : d + (1 + (ks.map (dep n)).foldl max 0) ≤ 101 := h3
  have h1' : (fitB k m s ks.length && ks.all (rightB n) && (if k = 7 then risesB (cmpT n n) ks else true)) = true := h1
  rw [Bool.and_eq_true, Bool.and_eq_true] at h1'
  exact ⟨by omega, by omega, h1'.1.1⟩
theorem valOK_row {n : Nat} {k m : Int} {s : ByteArray} {ks : List (Tm n)} {c d : Nat} (hf : fitB k m s ks.length = true) : valOK (n + 1) (k, m, s, ks) c d ↔ (rowOK ks (c + 1) (d + 1) ∧ (k = 7 → risesB (cmpT n n) ks = true)) := by
  have e1 : rightB (n + 1) (k, m, s, ks) = (fitB k m s ks.length && ks.all (rightB n) && (if k = 7 then risesB (cmpT n n) ks else true)) := rfl
  have e2 : siz (n + 1) (k, m, s, ks) = 1 + sizS ks := rfl
  have e3 : dep (n + 1) (k, m, s, ks) = 1 + depS ks := rfl
  unfold valOK rowOK
  rw [e1, e2, e3, hf, Bool.true_and, Bool.and_eq_true, List.all_eq_true]
  constructor
  · rintro ⟨⟨h1, h2⟩, h3, h4⟩
    refine ⟨⟨h1, by omega, by omega⟩, fun hk => ?_⟩
    rwa [if_pos hk] at h2
  · rintro ⟨⟨h1, h3, h4⟩, h2⟩
    refine ⟨⟨h1, ?_⟩, by omega, by omega⟩
    split
    · next hk => exact h2 hk
    · rfl

theorem rowOK_nil {n : Nat} {ks : List (Tm n)} (hl : ks.length = 0) {c d : Nat} (hc : c ≤ 2000) (hd : d ≤ 101) : rowOK ks c d := by
  have : ks = [] := List.eq_nil_of_length_eq_zero hl
  subst this
  exact ⟨fun t ht => absurd ht (by simp), by simp [sizS]; omega, by simp [depS]; omega⟩
theorem leaf_end {n : Nat} {k m : Int} {s : ByteArray} {ks : List (Tm n)} {g c d : Nat} {w w' : World} {v : Value} (hf : fitB k m s ks.length = true) (hl : ks.length = 0) (hk : k ≠ 7) (hp : c + 1 ≤ 2000 ∧ d ≤ 100)
    (hb : But g w w') (hct : Ctr g (c + 1) w') (hm : In64 m) (hs : s.size ≤ 2 ^ 47)
    (hv : (k = 1 ∧ v = .iface 65 (.int .i64 m)) ∨ (k = 2 ∧ v = .iface 59 (.string s)) ∨ (k = 3 ∧ v = .iface 66 (.int .i64 m)) ∨
     (k = 5 ∧ v = .iface 71 (.int .i64 m)) ∨ (k = 9 ∧ v = .iface 77 (.string s))) : ValEnd (n + 1) (k, m, s, ks) g c d w (.returned v) w' := by
  refine ⟨hb, .inl ⟨(valOK_row hf).2 ⟨rowOK_nil hl hp.1 (by omega), fun h => absurd h hk⟩, v, rfl, ⟨hm, hs, ?_⟩, ?_⟩⟩
  · rcases hv with h | h | h | h | h
    · exact .inl h
    · exact .inr (.inl h)
    · exact .inr (.inr (.inl h))
    · exact .inr (.inr (.inr (.inl h)))
    · exact .inr (.inr (.inr (.inr (.inl h))))
  · have : ks = [] := List.eq_nil_of_length_eq_zero hl
    subst this
    exact hct
theorem kids_end {n : Nat} {k m : Int} {s : ByteArray} {ks : List (Tm n)} {g c d : Nat} {w w2 w' : World} {v : Value} (hf : fitB k m s ks.length = true) (hok : rowOK ks (c + 1) (d + 1)) (hr : k = 7 → risesB (cmpT n n) ks = true)
    (hb : But g w w2) (hb' : But g w2 w') {R cap : Nat} (hK : KAt (Fresh w2 w') w' (VAt (Fresh w2 w') w' n) ks (some ⟨R, 0, none⟩)) (hcap : ks.length / 2 ≤ cap) (hcap2 : cap ≤ 2 ^ 47) (hct : Ctr g (c + 1 + sizS ks) w') (hm : In64 m) (hs : s.size ≤ 2 ^ 47)
    (hv : (k = 4 ∧ v = .iface 69 (.agg #[.int .i64 m, .slice (some ⟨R, 0, none⟩) ks.length cap])) ∨ (k = 6 ∧ v = .iface 72 (.slice (some ⟨R, 0, none⟩) ks.length cap)) ∨
        (k = 8 ∧ v = .iface 76 (.slice (some ⟨R, 0, none⟩) ks.length cap)) ∨ (k = 7 ∧ v = .iface 74 (.slice (some ⟨R, 0, none⟩) (ks.length / 2) cap))) :
    ValEnd (n + 1) (k, m, s, ks) g c d w (.returned v) w' := by
  refine ⟨hb.trans hb', .inl ⟨(valOK_row hf).2 ⟨hok, hr⟩, v, rfl, ⟨hm, hs, .inr (.inr (.inr (.inr (.inr ⟨some ⟨R, 0, none⟩, cap, ?_, hcap, hcap2, hv⟩))))⟩, ?_⟩⟩
  · exact hK.mono (fun b hb1 => ⟨Nat.le_trans hb.size hb1.1, hb1.2⟩) fun _ _ _ h => h.mono fun b hb1 => ⟨Nat.le_trans hb.size hb1.1, hb1.2⟩
  · have : siz (n + 1) (k, m, s, ks) = 1 + sizS ks := rfl
    rw [this, ← Nat.add_assoc]; exact hct
theorem kids_fault {n : Nat} {k m : Int} {s : ByteArray} {ks : List (Tm n)} {g c d : Nat} {w w2 w' : World} (hf : fitB k m s ks.length = true) (hb : But g w w2) (hb' : But g w2 w')
    (hno : ¬ (rowOK ks (c + 1) (d + 1) ∧ (k = 7 → risesB (cmpT n n) ks = true))) : ValEnd (n + 1) (k, m, s, ks) g c d w faultE w' :=
  ⟨hb.trans hb', .inr ⟨fun hv => hno ((valOK_row hf).1 hv), rfl⟩⟩
theorem fit_leaf {k m : Int} {s : ByteArray} {l : Nat} (h : fitB k m s l = true) (hk : k = 1 ∨ k = 2 ∨ k = 3 ∨ k = 5 ∨ k = 9) : l = 0 := by
  rcases hk with rfl | rfl | rfl | rfl | rfl <;> simp [fitB] at h <;> omega
theorem fit_even {m : Int} {s : ByteArray} {l : Nat} (h : fitB 7 m s l = true) : ∃ p, l = 2 * p := by
  simp [fitB] at h
  exact ⟨l / 2, by omega⟩

set_option maxRecDepth 40000 in
set_option maxHeartbeats 4000000 in
theorem val_of {n : Nat} (h : RowSaid n) : ValSaid (n + 1) := by
  rintro ⟨k, m, s, ks⟩ c0 c1 c2 c3 g c d w hc ⟨rfl, rfl, rfl, hk64, hm, hs, hS⟩ hc1 hd1 hd2
  have HS := hide hS
  obtain ⟨a, cap, rfl, hlen, hcap, hel⟩ := hS
  have hgl := hc.lt
  have HP := hide (fun x : Obj => passed_any g c d (w.alloc x) (hc.below ((Below.refl _ _).alloc (Nat.le_refl _) x)) hc1 (by omega))
  have HC := hide hc
  clear hel hc
  by_cases hpass : c + 1 ≤ 2000 ∧ d ≤ 100
  case neg =>
    have hb : (decide (2000 < c + 1) || decide (100 < d)) = true := by simp; omega
    go_enter Tryz.func31, Tryz.ntmps31
    go_wp2_with (go_at_call 40; refine ((unhide HP) _).mono ?_; rintro e w' ⟨rfl, rfl⟩; rw [hb])
    exact ⟨rfl, ((But.refl g w).set _ _).alloc _, .inr ⟨fun hv => hpass ⟨(valOK_fit hv).1, (valOK_fit hv).2.1⟩, rfl⟩⟩
  case pos =>
    have hb : (decide (2000 < c + 1) || decide (100 < d)) = false := by simp; omega
    by_cases hfit : fitB k m s ks.length = true
    case neg =>
      have hfit' : fitB k m s ks.length = false := by simpa using hfit
      go_enter Tryz.func31, Tryz.ntmps31
      go_wp2_with fail
      refine ((unhide HP) _).mono ?_
      rintro e w1 ⟨rfl, hw1⟩
      have HB : w1.heap[w.heap.size]? = some _ := hw1 ▸ box_block w g _ _ _ hgl
      have hbw : But g w w1 := hw1 ▸ ((But.refl g w).alloc _).set _ _
      have f0 := cell_of_heap HB 0
      have f1 := cell_of_heap HB 1
      have f2 := cell_of_heap HB 2
      have f3 := cell_of_heap HB 3
      simp at f0 f1 f2 f3
      clear hw1 HB
      rw [hb]
      go_wp2_with fail
      refine (fieldsFit_any k m s a ks.length cap w1 hs hlen hcap).mono ?_
      rintro e w2 ⟨rfl, hb2⟩
      rw [hfit']
      go_wp2_with fail
      exact ⟨rfl, hbw.trans (But.below hb2), .inr ⟨fun hv => hfit (valOK_fit hv).2.2, rfl⟩⟩
    case pos =>
      have hk := fit_kinds hfit
      go_enter Tryz.func31, Tryz.ntmps31
      go_wp2_with fail
      refine ((unhide HP) _).mono ?_
      rintro e w1 ⟨rfl, hw1⟩
      have HB : w1.heap[w.heap.size]? = some _ := hw1 ▸ box_block w g _ _ _ hgl
      have hbw : But g w w1 := hw1 ▸ ((But.refl g w).alloc _).set _ _
      have f0 := cell_of_heap HB 0
      have f1 := cell_of_heap HB 1
      have f2 := cell_of_heap HB 2
      have f3 := cell_of_heap HB 3
      simp at f0 f1 f2 f3
      have hlt : w.heap.size < w1.heap.size := by rw [hw1]; simp
      have HCT := hide (hw1 ▸ ((unhide HC).below ((Below.refl _ _).alloc (Nat.le_refl _) _)).set (c + 1) : Ctr g (c + 1) w1)
      clear hw1 HB
      rw [hb]
      go_wp2_with fail
      refine (fieldsFit_any k m s a ks.length cap w1 hs hlen hcap).mono ?_
      rintro e w2 ⟨rfl, hb2⟩
      rw [hfit]
      have F0 := (World.cell?_of_block (hb2.block _ hlt) : w2.cell? ⟨w.heap.size, 0, none⟩ = _).trans f0
      have F1 := (World.cell?_of_block (hb2.block _ hlt) : w2.cell? ⟨w.heap.size, 1, none⟩ = _).trans f1
      have F2 := (World.cell?_of_block (hb2.block _ hlt) : w2.cell? ⟨w.heap.size, 2, none⟩ = _).trans f2
      have F3 := (World.cell?_of_block (hb2.block _ hlt) : w2.cell? ⟨w.heap.size, 3, none⟩ = _).trans f3
      clear f0 f1 f2 f3
      have hbw2 := hbw.trans (But.below hb2)
      have HCT2 := hide ((unhide HCT).below hb2)
      have HF := hide hfit
      clear hfit hb
      have hW := hide ((unhide HS).but hbw2)
      have hcast : ((d + 1 : Nat) : Int) = (d : Int) + 1 := by omega
      have hrow := h ks _ g (c + 1) (d + 1) w2 (unhide HCT2) (unhide hW) hpass.1 (by omega) (by omega)
      rw [hcast] at hrow
      have HROW := hide hrow
      clear hrow
      rcases hk with rfl | rfl | rfl | rfl | rfl | rfl | rfl | rfl | rfl
      · have hl := fit_leaf (unhide HF) (by simp)
        go_wp2_with fail
        go_ret
        exact leaf_end (unhide HF) hl (by decide) hpass hbw2 (unhide HCT2) hm hs (by simp)
      · have hl := fit_leaf (unhide HF) (by simp)
        go_wp2_with fail
        go_ret
        exact leaf_end (unhide HF) hl (by decide) hpass hbw2 (unhide HCT2) hm hs (by simp)
      · have hl := fit_leaf (unhide HF) (by simp)
        go_wp2_with fail
        go_ret
        exact leaf_end (unhide HF) hl (by decide) hpass hbw2 (unhide HCT2) hm hs (by simp)
      · go_wp2_with fail
        have hbd : But g w w2.drew := ⟨hbw2.os, hbw2.tape, hbw2.output, hbw2.size, hbw2.block⟩
        have hctd : Ctr g (c + 1) w2.drew := unhide HCT2
        have hrd := h ks _ g (c + 1) (d + 1) w2.drew hctd ((unhide HS).but hbd) hpass.1 (by omega) (by omega)
        rw [hcast] at hrd
        have HRD := hide hrd
        have hsz : w.heap.size < w2.heap.size := Nat.lt_of_lt_of_le hlt hb2.size
        have hgB : w.heap.size ≠ g := by omega
        have w0 : IntKind.i64.wrap ((d : Int) + 1) = (d : Int) + 1 := by simp [IntKind.wrap, IntKind.bits, IntKind.signed]; omega
        clear hrd hctd
        go_region_with (go_at_call 42; refine (unhide HRD).mono ?_; rintro e w3 ⟨hb3, ⟨hok, R, cap3, rfl, hR, hcap3, hcap4, hK, hct3⟩ | ⟨hno, rfl⟩⟩; rotate_left; exact ⟨rfl, kids_fault (unhide HF) hbd hb3 fun h => hno h.1⟩; have HOK := hide hok; have HK := hide hK; have HCT3 := hide hct3; have G1 := (World.cell?_of_block (hb3.block _ hsz hgB) : w3.cell? ⟨w.heap.size, 1, none⟩ = _).trans F1; clear hok hK hct3)
        all_goals
          go_wp2_with fail
          go_ret
          exact kids_end (cap := cap3) (unhide HF) (unhide HOK) (fun h => absurd h (by decide)) hbd hb3 (unhide HK) (by omega) (by omega) (unhide HCT3) hm hs (.inl ⟨rfl, rfl⟩)
      · have hl := fit_leaf (unhide HF) (by simp)
        go_wp2_with fail
        go_ret
        exact leaf_end (unhide HF) hl (by decide) hpass hbw2 (unhide HCT2) hm hs (by simp)
      · go_wp2_with fail
        refine (unhide HROW).mono ?_
        rintro e w3 ⟨hb3, ⟨hok, R, cap3, rfl, hR, hcap3, hcap4, hK, hct3⟩ | ⟨hno, rfl⟩⟩
        · have HOK := hide hok
          have HK := hide hK
          have HCT3 := hide hct3
          clear hok hK hct3
          go_wp2_with fail
          go_ret
          exact kids_end (cap := cap3) (unhide HF) (unhide HOK) (fun h => absurd h (by decide)) hbw2 hb3 (unhide HK) (by omega) (by omega) (unhide HCT3) hm hs (by simp)
        · exact ⟨rfl, kids_fault (unhide HF) hbw2 hb3 fun h => hno h.1⟩
      · obtain ⟨p, hp⟩ := fit_even (unhide HF)
        have hrise := rising_of h ks _ p g (c + 1) (d + 1) w2 hp (unhide HCT2) (unhide hW) hpass.1 (by omega) (by omega)
        rw [hcast] at hrise
        have HRISE := hide hrise
        clear hrise hp
        go_wp2_with fail
        refine (unhide HRISE).mono ?_
        rintro e w3 ⟨hb3, ⟨hok, R, rfl, hR, hK, hct3⟩ | ⟨hno, rfl⟩⟩
        · have HOK := hide hok
          have HK := hide hK
          have HCT3 := hide hct3
          clear hok hK hct3
          go_wp2_with fail
          go_ret
          exact kids_end (unhide HF) (unhide HOK).1 (fun _ => (unhide HOK).2) hbw2 hb3 (unhide HK) (Nat.le_refl _) (by omega) (unhide HCT3) hm hs (by simp)
        · exact ⟨rfl, kids_fault (unhide HF) hbw2 hb3 fun h => hno ⟨h.1, h.2 rfl⟩⟩
      · go_wp2_with fail
        refine (unhide HROW).mono ?_
        rintro e w3 ⟨hb3, ⟨hok, R, cap3, rfl, hR, hcap3, hcap4, hK, hct3⟩ | ⟨hno, rfl⟩⟩
        · have HOK := hide hok
          have HK := hide hK
          have HCT3 := hide hct3
          clear hok hK hct3
          go_wp2_with fail
          go_ret
          exact kids_end (cap := cap3) (unhide HF) (unhide HOK) (fun h => absurd h (by decide)) hbw2 hb3 (unhide HK) (by omega) (by omega) (unhide HCT3) hm hs (by simp)
        · exact ⟨rfl, kids_fault (unhide HF) hbw2 hb3 fun h => hno h.1⟩
      · have hl := fit_leaf (unhide HF) (by simp)
        go_wp2_with fail
        go_ret
        exact leaf_end (unhide HF) hl (by decide) hpass hbw2 (unhide HCT2) hm hs (by simp)

theorem val_any : ∀ n, ValSaid n
  | 0 => fun t => t.elim
  | n + 1 => val_of (row_of (val_any n))

end Go.Proofs.YtffgdchemjmbmaaGreat
/- impl's pack of every value, by induction on the depth. -/
namespace Go.Proofs.YtffgdchemjmbmaaGreat
open Go.RowKit Go.Deep

theorem siz_kid {n : Nat} {k m : Int} {s : ByteArray} {ks : List (Tm n)} (h : siz (n + 1) (k, m, s, ks) ≤ 2000) : ks.length ≤ 2000 ∧ ∀ t ∈ ks, siz n t ≤ 2000 := by
  have h' : 1 + sizS ks ≤ 2000 := h
  have hl := sizS_len ks ks.length (Nat.le_refl _)
  rw [List.take_length] at hl
  refine ⟨by omega, fun t ht => ?_⟩
  obtain ⟨i, hi, rfl⟩ := List.getElem_of_mem ht
  have h1 := sizS_take ks i hi
  have h2 := sizS_le ks (i + 1)
  omega

end Go.Proofs.YtffgdchemjmbmaaGreat
/- Plain facts: a term taken apart from its bytes. -/
namespace Go.Proofs.YtffgdchemjmbmaaGreat
open Go.RowKit

def noText : ByteArray := ⟨#[]⟩
def leafT (n : Nat) (k m : Int) (s : ByteArray) : Tm (n + 1) := (k, m, s, [])
end Go.Proofs.YtffgdchemjmbmaaGreat
/- impl's unpacker: passed, signed, byteList; how its values lie. -/
namespace Go.Proofs.YtffgdchemjmbmaaGreat
open Go.RowKit Go.Deep

/-- A value that stands for a term, whatever room its rows have. -/
def XAt (S : Nat → Prop) (w : World) : (n : Nat) → Tm n → Value → Prop
  | 0, t => t.elim
  | n + 1, (k, m, s, ks) => fun v => In64 m ∧ s.size ≤ 2 ^ 47 ∧
    ((k = 1 ∧ s = noText ∧ ks = [] ∧ v = .iface 65 (.int .i64 m)) ∨ (k = 2 ∧ m = 0 ∧ ks = [] ∧ v = .iface 59 (.string s)) ∨ (k = 3 ∧ s = noText ∧ ks = [] ∧ v = .iface 66 (.int .i64 m)) ∨
     (k = 5 ∧ s = noText ∧ ks = [] ∧ v = .iface 71 (.int .i64 m)) ∨ (k = 9 ∧ m = 0 ∧ ks = [] ∧ v = .iface 77 (.string s)) ∨
     (∃ a cap, KAt S w (XAt S w n) ks a ∧ ks.length ≤ 100000 ∧ s = noText ∧
       ((k = 4 ∧ v = .iface 69 (.agg #[.int .i64 m, .slice a ks.length cap])) ∨ (k = 6 ∧ m = 0 ∧ v = .iface 72 (.slice a ks.length cap)) ∨
        (k = 8 ∧ m = 0 ∧ v = .iface 76 (.slice a ks.length cap)) ∨ (k = 7 ∧ m = 0 ∧ ks.length % 2 = 0 ∧ v = .iface 74 (.slice a (ks.length / 2) cap)))))

theorem XAt.keep {S : Nat → Prop} {w w' : World} (hk : ∀ b, S b → w'.heap[b]? = w.heap[b]?) : ∀ {n : Nat} {t : Tm n} {v : Value}, XAt S w n t v → XAt S w' n t v := by
  intro n
  induction n with
  | zero => intro t; exact t.elim
  | succ n ih =>
    rintro ⟨k, m, s, ks⟩ v ⟨hm, hs, h⟩
    refine ⟨hm, hs, ?_⟩
    rcases h with h | h | h | h | h | ⟨a, cap, hK, h⟩
    · exact .inl h
    · exact .inr (.inl h)
    · exact .inr (.inr (.inl h))
    · exact .inr (.inr (.inr (.inl h)))
    · exact .inr (.inr (.inr (.inr (.inl h))))
    · exact .inr (.inr (.inr (.inr (.inr ⟨a, cap, hK.keep hk fun t _ v hv => ih hv, h⟩))))
theorem XAt.mono {S S' : Nat → Prop} {w : World} (hk : ∀ b, S b → S' b) : ∀ {n : Nat} {t : Tm n} {v : Value}, XAt S w n t v → XAt S' w n t v := by
  intro n
  induction n with
  | zero => intro t; exact t.elim
  | succ n ih =>
    rintro ⟨k, m, s, ks⟩ v ⟨hm, hs, h⟩
    refine ⟨hm, hs, ?_⟩
    rcases h with h | h | h | h | h | ⟨a, cap, hK, h⟩
    · exact .inl h
    · exact .inr (.inl h)
    · exact .inr (.inr (.inl h))
    · exact .inr (.inr (.inr (.inl h)))
    · exact .inr (.inr (.inr (.inr (.inl h))))
    · exact .inr (.inr (.inr (.inr (.inr ⟨a, cap, hK.mono hk fun t _ v hv => ih hv, h⟩))))
theorem XAt.iface {S : Nat → Prop} {w : World} : ∀ {n : Nat} {t : Tm n} {v : Value}, XAt S w n t v → ∃ u x, v = .iface u x
  | 0, t, _, _ => t.elim
  | _ + 1, (_, _, _, _), _, ⟨_, _, h⟩ => by
    rcases h with ⟨_, _, _, h⟩ | ⟨_, _, _, h⟩ | ⟨_, _, _, h⟩ | ⟨_, _, _, h⟩ | ⟨_, _, _, h⟩ | ⟨_, _, _, _, _, ⟨_, h⟩ | ⟨_, _, h⟩ | ⟨_, _, h⟩ | ⟨_, _, _, h⟩⟩
    all_goals exact ⟨_, _, h⟩

end Go.Proofs.YtffgdchemjmbmaaGreat
/- The draws' cursor: what it is, what becomes of it, its bytes, its picks, its sizes. -/
namespace Go.Proofs.YtffgdchemjmbmaaGreat
open Go.RowKit Go.Deep

/-- All blocks that were there are as they were, but block g. -/
structure Kept (g : Nat) (w w' : World) : Prop where
  os : w'.os = w.os
  tape : w'.tape = w.tape
  output : w'.output = w.output
  size : w.heap.size ≤ w'.heap.size
  block : ∀ k, k < w.heap.size → k ≠ g → w'.heap[k]? = w.heap[k]?

theorem Kept.refl (g : Nat) (w : World) : Kept g w w := ⟨rfl, rfl, rfl, Nat.le_refl _, fun _ _ _ => rfl⟩
theorem Kept.trans {g : Nat} {a b c : World} (h : Kept g a b) (k : Kept g b c) : Kept g a c :=
  ⟨k.os.trans h.os, k.tape.trans h.tape, k.output.trans h.output, Nat.le_trans h.size k.size, fun i hi hg => (k.block i (Nat.lt_of_lt_of_le hi h.size) hg).trans (h.block i hi hg)⟩
theorem Kept.below {g : Nat} {w w' : World} (h : Below w.heap.size w w') : Kept g w w' := ⟨h.os, h.tape, h.output, h.size, fun k hk _ => h.block k hk⟩
theorem Kept.alloc {g : Nat} {a w : World} (h : Kept g a w) (o : Obj) : Kept g a (w.alloc o) := h.trans (Kept.below ((Below.refl _ _).alloc (Nat.le_refl _) _))
theorem Kept.drew {g : Nat} {a w : World} (h : Kept g a w) : Kept g a w.drew := ⟨h.os, h.tape, h.output, h.size, h.block⟩
theorem Kept.set {g : Nat} {a w : World} (h : Kept g a w) (o : Nat) (v : Value) : Kept g a (w.setCell ⟨g, o, none⟩ v) :=
  h.trans ⟨rfl, rfl, rfl, by simp, fun k _ hg => Below.heap_setCell _ _ _ _ hg⟩
theorem Kept.grown {g : Nat} {a w w' : World} {r : Option Nat} (h : Kept g a w) (hg : w.grownBy w' r) (hR : ∀ R, r = some R → a.heap.size ≤ R) : Kept g a w' :=
  ⟨hg.os.trans h.os, hg.tape.trans h.tape, hg.output.trans h.output, Nat.le_trans h.size hg.size, fun k hk hn => (hg.block k (Nat.lt_of_lt_of_le hk h.size) (by intro e; have := hR k e.symm; omega)).trans (h.block k hk hn)⟩
/-- Where block g is new, all that was there is as it was. -/
theorem Kept.toBelow {g : Nat} {w w' : World} (h : Kept g w w') {B : Nat} (hB : B ≤ g) (hs : B ≤ w.heap.size) : Below B w w' := ⟨h.os, h.tape, h.output, h.size, fun k hk => h.block k (by omega) (by omega)⟩
theorem Kept.cell {g : Nat} {w w' : World} (h : Kept g w w') {b o : Nat} (hb : b < w.heap.size) (hg : b ≠ g) : w'.cell? ⟨b, o, none⟩ = w.cell? ⟨b, o, none⟩ := World.cell?_of_block (w := w) (h.block b hb hg)

end Go.Proofs.YtffgdchemjmbmaaGreat
/- The makers of terms; an atom's name drawn; a cursor made. -/
namespace Go.Proofs.YtffgdchemjmbmaaGreat
open Go.RowKit Go.Deep

theorem mk_atom (s : ByteArray) (w : World) : Calls Tryz.prog 14 #[.string s] w fun e w' => e = .returned (.agg #[.int .i64 2, .int .i64 0, .string s, .slice none 0 0]) ∧ Below w.heap.size w w' := by
  go_enter Tryz.func14, Tryz.ntmps14
  go_wp2_with fail
  exact bodyPost_ret (v := .agg #[.int .i64 2, .int .i64 0, .string s, .slice none 0 0]) (by simp [results, Tryz.results14, go_sem]) rfl ⟨rfl, (Below.refl _ _).alloc (Nat.le_refl _) _⟩
end Go.Proofs.YtffgdchemjmbmaaGreat
/- Rows of drawn terms: what they are, what an append makes of them. -/
namespace Go.Proofs.YtffgdchemjmbmaaGreat
open Go.RowKit Go.Deep

theorem infoT : (Tryz.prog.info? 28).map (fun i => (i.zero, i.size, i.bytes)) = some (some (.agg #[.int .i64 0, .int .i64 0, .string ⟨#[]⟩, .slice none 0 0]), 4, 56) := by kernel_rfl

/-- append of m terms onto an own row: where the new row lies, too. -/
theorem run_append_terms (base : Nat) (v : Value) (n : Nat) (xs : List Value) (w : World) (hown : w.ownsRow base 28 4 v n xs) (hn : n ≤ 100000)
    (a : Addr) (m c : Nat) (news : List Value) (hl : news.length = m * 4) (hm : 0 < m ∧ m ≤ 100000) (hnews : ∀ j u, news[j]? = some u → w.cell? (a.add j) = some u) (h1 : ∀ u ∈ news, u.oneCell' = true) (hbase : base ≤ w.heap.size) (ty : TypeId) :
    ∃ R cap w', (Builtin.append_ #[26, 26] ty #[v, .slice (some a) m c]).run Tryz.prog w = .ok (.slice (some ⟨R, 0, none⟩) (n + m) cap) w' ∧ w'.ownsRow base 28 4 (.slice (some ⟨R, 0, none⟩) (n + m) cap) (n + m) (xs ++ news) ∧
      w.grownBy w' v.ownBlock ∧ (v.ownBlock = some R ∨ R = w.heap.size) := by
  obtain ⟨i, hi, hz, hs, hb⟩ := info_parts infoT
  have h63 : n + m ≤ maxLen := by unfold maxLen; omega
  obtain ⟨v', w', hr, ho, hg, hnil⟩ := run_append_own (P := Tryz.prog) w base 26 ty 28 i _ 4 56 Tryz.underlying26 hi hz hs hb rfl (by decide) v n xs hown a m c news hl hnews h1 h63 (by omega) hbase
  have hne : v' ≠ .slice none 0 0 := fun h => by have := (hnil.1 h).2; omega
  obtain ⟨R, cap, cur, rfl, hR⟩ : ∃ R cap, ∃ cur : Array Value, v' = .slice (some ⟨R, 0, none⟩) (n + m) cap ∧ w'.heap[R]? = some (.cells cur 28 (0, 0)) := by
    rcases ho.2 with ⟨h, _⟩ | ⟨R, cap, cur, h, _, h2, _⟩
    · exact absurd h hne
    · exact ⟨R, cap, cur, h, h2⟩
  refine ⟨R, cap, w', hr, ho, hg, ?_⟩
  rcases hown.2 with ⟨rfl, rfl⟩ | ⟨g, cp, cr, rfl, hbg, hh, hnc, hcm, hcs, htake⟩
  · have hx : xs = [] := List.eq_nil_of_length_eq_zero (by simpa using hown.1)
    subst hx
    have h2 := run_append_nil (P := Tryz.prog) w 26 ty 28 i _ Tryz.underlying26 hi hz a m c news (by rw [hs]; exact hl) hnews hm.1 (by omega) (by rw [hb]; omega)
    rw [hr] at h2
    injection h2 with h2 _
    simp at h2
    exact .inr h2.1
  · by_cases hroom : n + m ≤ cp
    · have h2 := run_append_room (P := Tryz.prog) w 26 ty 28 i Tryz.underlying26 hi g n cp cr hh a m c news (by rw [hs]; exact hl) hnews h1 hroom (by rw [hs, hl, hcs]; omega)
      rw [hr] at h2
      injection h2 with h2 _
      simp at h2
      exact .inl (by rw [h2.1]; rfl)
    · have h2 := run_append_grow (P := Tryz.prog) w 26 ty 28 i _ Tryz.underlying26 hi hz ⟨g, 0, none⟩ n cp xs (by rw [hs]; exact hown.1) (hown.cells (g := g) rfl) a m c news (by rw [hs]; exact hl) hnews (by omega) (by omega)
        (by rw [hb]; exact growslice_fits (by omega) (by omega))
      rw [hr] at h2
      injection h2 with h2 _
      simp at h2
      exact .inr h2.1

/-- The blocks from base on that are there, the row's own left out. -/
abbrev Off (base : Nat) (v : Value) (w : World) : Nat → Prop := fun b => base ≤ b ∧ b < w.heap.size ∧ v.ownBlock ≠ some b

/-- A row's cells stand for terms. -/
def CellsAt (S : Nat → Prop) (w : World) {n : Nat} (ks : List (Tm n)) (xs : List Value) : Prop :=
  xs.length = ks.length * 4 ∧ ∀ i (h : i < ks.length), ∃ d0 d1 d2 d3, xs[i * 4]? = some d0 ∧ xs[i * 4 + 1]? = some d1 ∧ xs[i * 4 + 2]? = some d2 ∧ xs[i * 4 + 3]? = some d3 ∧ TAt S w n ks[i] d0 d1 d2 d3

/-- An own row of terms. -/
def RowsX (base : Nat) (w : World) {n : Nat} (ks : List (Tm n)) (v : Value) (xs : List Value) : Prop :=
  w.ownsRow base 28 4 v ks.length xs ∧ CellsAt (Off base v w) w ks xs

theorem own_place {base : Nat} {w : World} {v : Value} {n : Nat} {xs : List Value} (h : w.ownsRow base 28 4 v n xs) : (v = .slice none 0 0 ∧ n = 0) ∨ ∃ g cap, v = .slice (some ⟨g, 0, none⟩) n cap ∧ base ≤ g ∧ g < w.heap.size ∧ n ≤ cap ∧ ∀ j, j < n * 4 → w.cell? ⟨g, j, none⟩ = xs[j]? := by
  rcases h.2 with h1 | ⟨g, cap, cur, rfl, h2, h3, h4, h5⟩
  · exact .inl h1
  · exact .inr ⟨g, cap, rfl, h2, (h.lt g rfl).2, h4, fun j hj => h.cellAt j hj⟩

theorem CellsAt.keep {S S' : Nat → Prop} {w w' : World} {n : Nat} {ks : List (Tm n)} {xs : List Value} (h : CellsAt S w ks xs) (hk : ∀ b, S b → w'.heap[b]? = w.heap[b]?) (hS : ∀ b, S b → S' b) : CellsAt S' w' ks xs := by
  refine ⟨h.1, fun i hi => ?_⟩
  obtain ⟨d0, d1, d2, d3, e0, e1, e2, e3, ht⟩ := h.2 i hi
  exact ⟨d0, d1, d2, d3, e0, e1, e2, e3, (ht.keep hk).mono hS⟩
theorem CellsAt.append {S : Nat → Prop} {w : World} {n : Nat} {ks ls : List (Tm n)} {xs ys : List Value} (h : CellsAt S w ks xs) (h' : CellsAt S w ls ys) : CellsAt S w (ks ++ ls) (xs ++ ys) := by
  have hx := h.1
  refine ⟨by rw [List.length_append, List.length_append, h.1, h'.1]; omega, fun i hi => ?_⟩
  by_cases hlt : i < ks.length
  · obtain ⟨d0, d1, d2, d3, e0, e1, e2, e3, ht⟩ := h.2 i hlt
    refine ⟨d0, d1, d2, d3, ?_, ?_, ?_, ?_, by rw [List.getElem_append_left hlt]; exact ht⟩ <;> rw [List.getElem?_append_left (by omega)] <;> assumption
  · have hi' : i - ks.length < ls.length := by rw [List.length_append] at hi; omega
    obtain ⟨d0, d1, d2, d3, e0, e1, e2, e3, ht⟩ := h'.2 (i - ks.length) hi'
    refine ⟨d0, d1, d2, d3, ?_, ?_, ?_, ?_, by rw [List.getElem_append_right (by omega)]; exact ht⟩ <;> rw [List.getElem?_append_right (by omega), hx]
    · rw [show i * 4 - ks.length * 4 = (i - ks.length) * 4 by omega]; exact e0
    · rw [show i * 4 + 1 - ks.length * 4 = (i - ks.length) * 4 + 1 by omega]; exact e1
    · rw [show i * 4 + 2 - ks.length * 4 = (i - ks.length) * 4 + 2 by omega]; exact e2
    · rw [show i * 4 + 3 - ks.length * 4 = (i - ks.length) * 4 + 3 by omega]; exact e3
theorem CellsAt.one {S : Nat → Prop} {w : World} {n : Nat} {t : Tm n} {d0 d1 d2 d3 : Value} (h : TAt S w n t d0 d1 d2 d3) : CellsAt S w [t] [d0, d1, d2, d3] := by
  refine ⟨rfl, fun i hi => ?_⟩
  obtain rfl : i = 0 := by simp at hi; omega
  exact ⟨d0, d1, d2, d3, rfl, rfl, rfl, rfl, h⟩
theorem CellsAt.nil {S : Nat → Prop} {w : World} {n : Nat} : CellsAt S w ([] : List (Tm n)) [] := ⟨rfl, fun i hi => by simp at hi⟩

/-- What was an own row is one still where only block g, below it, was written. -/
theorem RowsX.kept {base g : Nat} {w w' : World} {n : Nat} {ks : List (Tm n)} {v : Value} {xs : List Value} (h : RowsX base w ks v xs) (hk : Kept g w w') (hg : g < base) : RowsX base w' ks v xs := by
  obtain ⟨h1, h2⟩ := h
  refine ⟨⟨h1.1, ?_⟩, h2.keep (fun b hb => hk.block b hb.2.1 (by have := hb.1; omega)) fun b hb => ⟨hb.1, Nat.lt_of_lt_of_le hb.2.1 hk.size, hb.2.2⟩⟩
  rcases h1.2 with h3 | ⟨R, cap, cur, rfl, h4, h5, h6⟩
  · exact .inl h3
  · exact .inr ⟨R, cap, cur, rfl, h4, (hk.block R (h1.lt R rfl).2 (by omega)).trans h5, h6⟩
theorem RowsX.up {base : Nat} {w w' : World} {n : Nat} {ks : List (Tm n)} {v : Value} {xs : List Value} (h : RowsX base w ks v xs) (hb : Below w.heap.size w w') : RowsX base w' ks v xs := by
  obtain ⟨h1, h2⟩ := h
  refine ⟨⟨h1.1, ?_⟩, h2.keep (fun b hb' => hb.block b hb'.2.1) fun b hb' => ⟨hb'.1, Nat.lt_of_lt_of_le hb'.2.1 hb.size, hb'.2.2⟩⟩
  rcases h1.2 with h3 | ⟨R, cap, cur, rfl, h4, h5, h6⟩
  · exact .inl h3
  · exact .inr ⟨R, cap, cur, rfl, h4, (hb.block R (h1.lt R rfl).2).trans h5, h6⟩
/-- Behind the append: the old terms and the new ones. -/
theorem RowsX.push {base : Nat} {w w' : World} {n : Nat} {ks ls : List (Tm n)} {v : Value} {xs ys : List Value} {R cap : Nat} (h : RowsX base w ks v xs) (hl : CellsAt (Off base v w) w ls ys)
    (ho : w'.ownsRow base 28 4 (.slice (some ⟨R, 0, none⟩) (ks.length + ls.length) cap) (ks.length + ls.length) (xs ++ ys)) (hg : w.grownBy w' v.ownBlock) (hR : v.ownBlock = some R ∨ R = w.heap.size) :
    RowsX base w' (ks ++ ls) (.slice (some ⟨R, 0, none⟩) (ks.length + ls.length) cap) (xs ++ ys) := by
  refine ⟨by rw [List.length_append]; exact ho, (h.2.append hl).keep (fun b hb => hg.block b hb.2.1 fun e => hb.2.2 e.symm) fun b hb => ⟨hb.1, Nat.lt_of_lt_of_le hb.2.1 hg.size, ?_⟩⟩
  show some R ≠ some b
  intro e
  injection e with e
  rcases hR with hR | hR
  · exact hb.2.2 (by rw [hR, e])
  · have := hb.2.1; omega

/-- A row of terms as a slice that is read. -/
theorem RowsX.sat {base : Nat} {w : World} {n : Nat} {ks : List (Tm n)} {v : Value} {xs : List Value} (h : RowsX base w ks v xs) (hl : ks.length ≤ 100000) : SAt (fun b => base ≤ b ∧ b < w.heap.size) w (TAt (fun b => base ≤ b ∧ b < w.heap.size) w n) ks v := by
  obtain ⟨h1, h2⟩ := h
  rcases own_place h1 with ⟨rfl, h3⟩ | ⟨g, cap, rfl, h3, h4, h5, h6⟩
  · exact ⟨none, 0, by rw [h3], by omega, by omega, fun i hi => by omega⟩
  · refine ⟨some ⟨g, 0, none⟩, cap, rfl, h5, by omega, fun i hi => ?_⟩
    obtain ⟨d0, d1, d2, d3, e0, e1, e2, e3, ht⟩ := h2.2 i hi
    refine ⟨g, 0, d0, d1, d2, d3, rfl, ⟨h3, h4⟩, ?_, ?_, ?_, ?_, ht.mono fun b hb => ⟨hb.1, hb.2.1⟩⟩ <;> rw [Nat.zero_add, h6 _ (by omega)] <;> assumption

end Go.Proofs.YtffgdchemjmbmaaGreat
/- spec's taker: kids. -/
namespace Go.Proofs.YtffgdchemjmbmaaGreat
open Go.RowKit Go.Deep

theorem cells_shape {S : Nat → Prop} {w : World} {n : Nat} {t : Tm n} {c0 c1 c2 c3 : Value} (h : TAt S w n t c0 c1 c2 c3) : ∀ u ∈ [c0, c1, c2, c3], u.oneCell' = true := by
  obtain ⟨_, _, _, _, _, _, rfl, rfl, rfl, rfl⟩ := h.shape
  intro u hu
  simp at hu
  rcases hu with rfl | rfl | rfl | rfl <;> rfl
theorem But.kept {g : Nat} {w w' : World} (h : But g w w') : Kept g w w' := ⟨h.os, h.tape, h.output, h.size, h.block⟩

end Go.Proofs.YtffgdchemjmbmaaGreat
