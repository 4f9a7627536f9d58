/- impl's way inward: rows of kids (goIn.row), given the way inward of one. -/
import Derived.Test.YtaggnncndbdmjaaGoi
import Derived.Deep.DeepCutAuto
namespace Go.Proofs.Ytaggnncndbdmjaa
open Go.RowKit

/-- What the walk inward panics with. -/
def faultV : Value := .iface 40 (.agg #[.int .i64 1, .int .i64 0])
def faultE : Ending := .panicked [{ v := faultV, recovered := false }]

/-- From count c on, at depth d, the term is taken. -/
def valOK (n : Nat) (t : Tm n) (c d : Nat) : Prop := rightB n t = true ∧ c + siz n t ≤ 2000 ∧ d + dep n t ≤ 101
def rowOK {n : Nat} (ks : List (Tm n)) (c d : Nat) : Prop := (∀ t ∈ ks, rightB n t = true) ∧ c + sizS ks ≤ 2000 ∧ d + depS ks ≤ 101

/-- The blocks of the input: there, and not the counter's. -/
abbrev Inp (w : World) (g : Nat) : Nat → Prop := fun b => b < w.heap.size ∧ b ≠ g

theorem TAt.but {w w' : World} {g : Nat} (hb : But g w w') {n : Nat} {t : Tm n} {a b c d : Value} (h : TAt (Inp w g) w n t a b c d) : TAt (Inp w' g) w' n t a b c d :=
  (h.keep fun b hs => hb.block b hs.1 hs.2).mono fun _ hs => ⟨Nat.lt_of_lt_of_le hs.1 hb.size, hs.2⟩
theorem SAt.but {w w' : World} {g : Nat} (hb : But g w w') {n : Nat} {ks : List (Tm n)} {v : Value} (h : SAt (Inp w g) w (TAt (Inp w g) w n) ks v) : SAt (Inp w' g) w' (TAt (Inp w' g) w' n) ks v :=
  (h.keep (R' := TAt (Inp w g) w' n) (fun b hs => hb.block b hs.1 hs.2) fun _ _ _ _ _ _ ht => ht.keep fun b hs => hb.block b hs.1 hs.2).mono (fun _ hs => ⟨Nat.lt_of_lt_of_le hs.1 hb.size, hs.2⟩)
    fun _ _ _ _ _ _ ht => ht.mono fun _ hs => ⟨Nat.lt_of_lt_of_le hs.1 hb.size, hs.2⟩

def ValEnd (n : Nat) (t : Tm n) (g c d : Nat) (w : World) (e : Ending) (w' : World) : Prop :=
  But g w w' ∧ ((valOK n t c d ∧ ∃ v, e = .returned v ∧ VAt (Fresh w w') w' n t v ∧ Ctr g (c + siz n t) w') ∨ (¬ valOK n t c d ∧ e = faultE))
def ValSaid (n : Nat) : Prop := ∀ (t : Tm n) (c0 c1 c2 c3 : Value) (g c d : Nat) (w : World), Ctr g c w → TAt (Inp w g) w n t c0 c1 c2 c3 → c ≤ 2000 → 1 ≤ d → d ≤ 101 →
  Calls Try.prog 24 #[.pointer (some ⟨g, 0, none⟩), .agg #[c0, c1, c2, c3], .int .i64 d] w fun e w' => ValEnd n t g c d w e w'

def RowEnd {n : Nat} (ks : List (Tm n)) (g c d : Nat) (w : World) (e : Ending) (w' : World) : Prop :=
  But g w w' ∧ ((rowOK ks c d ∧ ∃ R cap, e = .returned (.slice (some ⟨R, 0, none⟩) ks.length cap) ∧ w.heap.size ≤ R ∧ ks.length ≤ cap ∧ cap ≤ 2000 ∧ KAt (Fresh w w') w' (VAt (Fresh w w') w' n) ks (some ⟨R, 0, none⟩) ∧ Ctr g (c + sizS ks) w') ∨
    (¬ rowOK ks c d ∧ e = faultE))
def RowSaid (n : Nat) : Prop := ∀ (ks : List (Tm n)) (v : Value) (g c d : Nat) (w : World), Ctr g c w → SAt (Inp w g) w (TAt (Inp w g) w n) ks v → c ≤ 2000 → 1 ≤ d → d ≤ 101 →
  Calls Try.prog 30 #[.pointer (some ⟨g, 0, none⟩), v, .int .i64 d] w fun e w' => RowEnd ks g c d w e w'

theorem sizS_len {n : Nat} (ks : List (Tm n)) (k : Nat) (h : k ≤ ks.length) : k ≤ sizS (ks.take k) := by
  induction k with
  | zero => exact Nat.zero_le _
  | succ k ih => rw [sizS_take ks k h]; have := ih (by omega); have := siz_pos ks[k]; omega

theorem valOK_of_rowOK {n : Nat} {ks : List (Tm n)} {c d : Nat} (h : rowOK ks c d) (k : Nat) (hk : k < ks.length) : valOK n ks[k] (c + sizS (ks.take k)) d := by
  obtain ⟨h1, h2, h3⟩ := h
  have e1 := sizS_take ks k hk
  have e2 := sizS_le ks (k + 1)
  have e3 := depS_take ks k hk
  have e4 := depS_le ks (k + 1)
  exact ⟨h1 _ (List.getElem_mem hk), by omega, by omega⟩
theorem rowOK_step {n : Nat} {ks : List (Tm n)} {c d : Nat} (k : Nat) (hk : k < ks.length) (h : rowOK (ks.take k) c d) (hv : valOK n ks[k] (c + sizS (ks.take k)) d) : rowOK (ks.take (k + 1)) c d := by
  obtain ⟨h1, h2, h3⟩ := h
  obtain ⟨v1, v2, v3⟩ := hv
  refine ⟨fun t ht => ?_, by rw [sizS_take ks k hk]; omega, by rw [depS_take ks k hk]; omega⟩
  rw [List.take_succ_eq_append_getElem hk, List.mem_append] at ht
  rcases ht with ht | ht
  · exact h1 t ht
  · rw [List.mem_singleton] at ht; rw [ht]; exact v1

theorem run_mkv (n : Nat) (hn : n ≤ 2000) (w : World) : (Instr.makeSlice 71 (.int .i64 0) (.int .i64 n)).run Try.prog w =
    .ok (.slice (some ⟨w.heap.size, 0, none⟩) 0 n) (w.alloc (.cells (madeCells #[.nilIface] n) 47)) := by
  have := run_make (P := Try.prog) w 71 47 (Try.prog.types[47]!) .nilIface (by kernel_rfl) (by kernel_rfl) (by kernel_rfl) .i64 .i64 0 n (Int.le_refl _) (by omega)
    (by rw [show (Try.prog.types[47]!).bytes = 16 from by kernel_rfl]; omega) (by omega)
  rw [this, show (Try.prog.types[47]!).size = 1 from by kernel_rfl]
  simp [Value.cells]

theorem infoV : (Try.prog.info? 47).map (fun i => (i.zero, i.size, i.bytes)) = some (some .nilIface, 1, 16) := by kernel_rfl

theorem owns_made (w : World) (N : Nat) (hN : N ≤ 2000) : (w.alloc (.cells (madeCells #[.nilIface] N) 47)).ownsRow w.heap.size 47 1 (.slice (some ⟨w.heap.size, 0, none⟩) 0 N) 0 [] :=
  ⟨rfl, .inr ⟨w.heap.size, N, madeCells #[.nilIface] N, rfl, Nat.le_refl _, heap_new _ _, Nat.zero_le _, by unfold maxLen; omega, by rw [size_madeCells]; omega, by simp⟩⟩

set_option maxRecDepth 20000 in
set_option maxHeartbeats 4000000 in
theorem row_of {n : Nat} (h : ValSaid n) : RowSaid n := by
  intro ks v g c d w hc hv hc1 hd1 hd2
  have hv0 := hide hv
  obtain ⟨a, cap, rfl, hlen, hcap, hel⟩ := hv
  have hcell := hc.cell
  have hgl := hc.lt
  obtain ⟨N, hN1, hN2, hN⟩ : ∃ N : Nat, N ≤ ks.length ∧ N ≤ 2000 - c ∧ ∀ k, k ≤ ks.length → k ≤ 2000 - c → k ≤ N := ⟨min ks.length (2000 - c), by omega, by omega, fun k h1 h2 => by omega⟩
  have HNM := hide hN
  obtain ⟨i0, hi0, hz0, hz1, hz2⟩ := info_parts infoV
  go_enter Try.func30, Try.ntmps30
  go_upto_region 1 with fail
  go_cut [7] (fun r wc => r = .slice (some ⟨w.heap.size, 0, none⟩) 0 N ∧ wc = w.alloc (.cells (madeCells #[.nilIface] N) 47))
  case first =>
    by_cases hmin : ks.length ≤ 2000 - c
    · have hNe : N = ks.length := by have := hN _ (Nat.le_refl _) hmin; omega
      subst hNe
      have hmk := run_mkv ks.length (by omega)
      have hle : (ks.length : Int) ≤ 2000 - (c : Int) := by omega
      clear hN hmin hel
      go_wp2_with fail
      go_meet
      case rel => exact ⟨rfl, rfl⟩
    · have hNe : N = 2000 - c := by have := hN (2000 - c) (by omega) (Nat.le_refl _); omega
      subst hNe
      have hmk := run_mkv (2000 - c) (by omega)
      rw [show ((2000 - c : Nat) : Int) = 2000 - (c : Int) from by omega] at hmk
      have hle : ¬ (ks.length : Int) ≤ 2000 - (c : Int) := by omega
      have hle2 : (2000 : Int) - (c : Int) ≤ (ks.length : Int) := by omega
      clear hN hmin hel
      go_wp2_with fail
      go_meet
      case rel => exact ⟨rfl, rfl⟩
  case rest =>
    obtain ⟨rfl, rfl⟩ := hcut
    clear hN hcell
    go_wp2_with fail
    go_loopw [7, 22] (fun rv iv wr => ∃ (k : Nat) (vs : List Value), k ≤ ks.length ∧ vs.length = k ∧ iv = .int .i64 k ∧ rv = .slice (some ⟨w.heap.size, 0, none⟩) k N ∧
        wr.ownsRow w.heap.size 47 1 (.slice (some ⟨w.heap.size, 0, none⟩) k N) k vs ∧ rowOK (ks.take k) c d ∧ Ctr g (c + sizS (ks.take k)) wr ∧ But g w wr ∧
        ∀ j (hj : j < ks.length) (hj' : j < vs.length), VAt (fun b => w.heap.size < b ∧ b < wr.heap.size) wr n ks[j] vs[j]) (fun _ iv _ => ks.length - (intOf iv).toNat)
    case atStart =>
      exact ⟨0, [], Nat.zero_le _, rfl, rfl, rfl, owns_made w N (by omega), ⟨fun t ht => by simp at ht, by simp [sizS]; omega, by simp [depS]; omega⟩, by simpa [sizS] using hc.below ((Below.refl _ _).alloc (Nat.le_refl _) _), (But.refl g w).alloc _, fun j _ hj' => by simp at hj'⟩
    case round =>
      obtain ⟨k, vs, hk, hvs, rfl, rfl, hown, hok, hct, hbt, hvat⟩ := hrel
      by_cases hlt : k < ks.length
      · obtain ⟨b, off, d0, d1, d2, d3, rfl, hS, e0, e1, e2, e3, ht⟩ := hel k hlt
        have hS' : b < w.heap.size ∧ b ≠ g := hS
        have hbl := hbt.block b hS'.1 hS'.2
        have f0 : wr.cell? ⟨b, off + k * 4, none⟩ = some d0 := (World.cell?_of_block (w := w) hbl).trans e0
        have f1 : wr.cell? ⟨b, off + k * 4 + 1, none⟩ = some d1 := (World.cell?_of_block (w := w) hbl).trans e1
        have f2 : wr.cell? ⟨b, off + k * 4 + 2, none⟩ = some d2 := (World.cell?_of_block (w := w) hbl).trans e2
        have f3 : wr.cell? ⟨b, off + k * 4 + 3, none⟩ = some d3 := (World.cell?_of_block (w := w) hbl).trans e3
        obtain ⟨_, _, _, _, _, _, rfl, rfl, rfl, rfl⟩ := ht.shape
        have hcc := hide (fun x : Obj => h ks[k] _ _ _ _ g (c + sizS (ks.take k)) d (wr.alloc x) (hct.below ((Below.refl _ _).alloc (Nat.le_refl _) x)) (ht.but (hbt.alloc x)) hok.2.1 hd1 hd2)
        have HOK := hide hok
        have HCT := hide hct
        have HVA := hide hvat
        have HOW := hide hown
        have hwl := owns_lt hown
        clear hbl e0 e1 e2 e3 hok hct hvat hown
        go_wp2_with fail
        refine ((unhide hcc) _).mono ?_
        rintro e w1 ⟨hb1, ⟨hvok, v, rfl, hv1, hct1⟩ | ⟨hno, rfl⟩⟩
        · obtain ⟨vu, vx, rfl⟩ := hv1.shape
          have hownB : w1.ownsRow w.heap.size 47 1 (.slice (some ⟨w.heap.size, 0, none⟩) k N) k vs :=
            owns_keep (unhide HOW) ((hb1.block _ (by simp; omega) (by omega)).trans (Below.heap_alloc _ _ _ hwl))
          have hkN : k + 1 ≤ N := unhide HNM _ hlt (by
            have q1 := sizS_len ks (k + 1) hlt
            have q2 := sizS_take ks k hlt
            have q3 := hvok.2.1
            omega)
          have HV := hide hvok
          have HV1 := hide hv1
          have HC1 := hide hct1
          clear hvok hv1 hct1
          go_wp2_with (at_builtin; refine wpList_append_fits _ rfl (.tmp 26) (.tmp 31) 71 rfl w.heap.size 47 i0 1 Try.underlying71 hi0 hz1 w.heap.size k N vs rfl (hownB.alloc _) ⟨w1.heap.size, 0, none⟩ 1 1 [.iface vu vx] rfl rfl (cell_one_new _ _ _) (by intro u hu; simp at hu; subst hu; rfl) hkN ?_; intro w2 hown2 hgr2)
          have hbt2 : But g w w2 := (((hbt.alloc _).trans hb1).alloc _).grown hgr2 (Nat.le_refl _)
          have hsz1 : wr.heap.size + 1 ≤ w1.heap.size := by have := hb1.size; simpa using this
          have hsz2 : w1.heap.size + 1 ≤ w2.heap.size := by have := hgr2.size; simpa using this
          have hold : ∀ b, b < w1.heap.size → b ≠ w.heap.size → w2.heap[b]? = w1.heap[b]? := fun b hb hn =>
            (hgr2.block b (by simp; omega) (by intro e; injection e with e; omega)).trans (Below.heap_alloc _ _ _ hb)
          go_roundw
          case rel =>
            refine ⟨k + 1, vs ++ [.iface vu vx], hlt, by simp [hvs], by go_num, rfl, hown2, rowOK_step k hlt (unhide HOK) (unhide HV), ?_, hbt2, fun j hj hj' => ?_⟩
            · have hq := unhide HC1
              rw [Nat.add_assoc, ← sizS_take ks k hlt] at hq
              exact hq.keep (hold g hq.lt (by omega))
            · by_cases hjk : j < k
              · rw [List.getElem_append_left (by omega)]
                refine ((unhide HVA) j hj (by omega)).keep (fun b hb => ?_) |>.mono fun b hb => ⟨hb.1, by omega⟩
                exact ((hold b (by omega) (by omega)).trans (hb1.block b (by simp; omega) (by omega))).trans (Below.heap_alloc _ _ _ hb.2)
              · have hje : j = k := by simp [hvs] at hj'; omega
                subst hje
                rw [List.getElem_append_right (by omega)]
                simp only [hvs, Nat.sub_self, List.getElem_cons_zero]
                refine ((unhide HV1).keep fun b hb => ?_) |>.mono fun b hb => ?_
                · have h1 : wr.heap.size + 1 ≤ b := by have := hb.1; simpa using this
                  exact hold b hb.2 (by omega)
                · have h1 : wr.heap.size + 1 ≤ b := by have := hb.1; simpa using this
                  have h2 := hb.2
                  exact ⟨by omega, by omega⟩
          case measure => simp [intOf]; omega
        · exact ⟨rfl, (hbt.alloc _).trans hb1, .inr ⟨fun hr => hno (valOK_of_rowOK hr k hlt), rfl⟩⟩
      · have hkk : k = ks.length := by omega
        subst hkk
        rw [List.take_length] at hok hct
        have HOK := hide hok
        have HCT := hide hct
        have HVA := hide hvat
        have HOW := hide hown
        have hwl := owns_lt hown
        have hNl : ks.length ≤ N := by
          have q1 := sizS_len ks ks.length (Nat.le_refl _)
          rw [List.take_length] at q1
          have q3 := hok.2.1
          exact unhide HNM _ (Nat.le_refl _) (by omega)
        clear hok hct hvat hown
        go_wp2_with fail
        go_ret
        refine ⟨hbt, .inl ⟨unhide HOK, w.heap.size, N, rfl, Nat.le_refl _, hNl, by omega, fun j hj => ?_, unhide HCT⟩⟩
        exact ⟨_, 0, vs[j]'(by omega), rfl, ⟨Nat.le_refl _, hwl⟩, by simpa using owns_cell (unhide HOW) (by omega), ((unhide HVA) j hj (by omega)).mono fun b hb => ⟨by omega, hb.2⟩⟩

end Go.Proofs.Ytaggnncndbdmjaa
