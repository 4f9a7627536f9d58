/- spec.BitMatch. -/
import Derived.Test.YtgkckkaegkdioaaDoorQ4
import Derived.Test.YtgkckkaegkdioaaDoorQ3
import Derived.Deep.DeepCutAuto
import Derived.Deep.RegionHeld3
import Derived.BigQuiet
namespace Go.Proofs.YtgkckkaegkdioaaDoor
open Go.RowKit Go.Deep

theorem own_row {w : World} {base g N cap : Nat} {xs : List Int} (h : w.ownsRow base 5 1 (.slice (some ⟨g, 0, none⟩) N cap) N (u8s xs)) (hl : xs.length = N) : RowAt w (.slice (some ⟨g, 0, none⟩) N cap) xs := by
  subst hl
  exact RowAt.of_own h

set_option maxRecDepth 40000 in
theorem sget_any (v : Value) (s : ByteArray) (f W : Nat) (sg li : Bool) (w : World) (hv : RowAt w v (cutBits s f W)) (hW : W ≤ 49) :
    Calls Tryd.prog 20 #[v, .bool sg, .bool li] w fun e w' => e = .returned (.int .i64 (signed sg W (orN (gbit s f) W li W))) ∧ Below w.heap.size w w' := by
  cases li with
  | false =>
    have h := getBig_any v (cutBits s f W) W sg w hv (cutBits_01 s f W) (cutBits_length s f W) hW
    rw [big_eq, xbit_cut] at h
    exact h
  | true =>
    have h := getLittle_any v (cutBits s f W) W sg w hv (cutBits_01 s f W) (cutBits_length s f W) hW
    rw [xbit_cut] at h
    exact h

/-- The first bits of a row that was cut. -/
theorem cut_first {w : World} {a : Option Addr} {M W cp f : Nat} {s : ByteArray} (h : RowAt w (.slice a M cp) (cutBits s f M)) (hW : W ≤ M) : RowAt w (.slice a W cp) (cutBits s f W) := by
  have := h.slice (ys := cutBits s f W) 0 W (by rw [cutBits_length]; omega) (cutBits_length _ _ _) (fun i hi => by rw [cutBits_getD s f W i hi, cutBits_getD s f M (0 + i) (by omega), Nat.zero_add]) a (fun _ b off h => by rw [h]; rfl)
  exact this
/-- The bits behind those. -/
theorem cut_rest {w : World} {g o : Nat} {a' : Option Addr} {M W cp f : Nat} {s : ByteArray} (h : RowAt w (.slice (some ⟨g, o, none⟩) M cp) (cutBits s f M)) (hW : W ≤ M) (ha : 0 < M - W → a' = some ⟨g, o + W, none⟩) : RowAt w (.slice a' (M - W) (cp - W)) (cutBits s (f + W) (M - W)) :=
  h.slice W (M - W) (by rw [cutBits_length]; omega) (cutBits_length _ _ _) (fun i hi => by rw [cutBits_getD s (f + W) (M - W) i hi, cutBits_getD s f M (W + i) (by omega), Nat.add_assoc]) a' (fun h0 b off e => by cases e; exact ha h0)

/-- A term that lies in a new block put behind an own row; what stands still. -/
theorem row_pushN {n base : Nat} {w1 wz : World} {ls : List (Tm n)} {xs : List Value} {kv : Value} (hX : RowsX base w1 ls kv xs) (hl : ls.length ≤ 5000) {t : Tm n} {d0 d1 d2 d3 : Value} {S : Nat → Prop} (ht : TAt S w1 n t d0 d1 d2 d3) (hS : ∀ b, S b → Off base kv w1 b)
    (hz : wz.heap = (w1.alloc (.cells #[d0, d1, d2, d3] 48)).heap ∧ wz.os = w1.os ∧ wz.tape = w1.tape ∧ wz.output = w1.output) (hb : base ≤ w1.heap.size) (ty : TypeId) :
    ∃ R cap w', (Builtin.append_ #[27, 27] ty #[kv, .slice (some ⟨w1.heap.size, 0, none⟩) 1 1]).run Tryd.prog wz = .ok (.slice (some ⟨R, 0, none⟩) (ls.length + 1) cap) w' ∧
      RowsX base w' (ls ++ [t]) (.slice (some ⟨R, 0, none⟩) (ls.length + 1) cap) (xs ++ [d0, d1, d2, d3]) ∧ Below base w1 w' ∧ ∀ b, b < w1.heap.size → kv.ownBlock ≠ some b → w'.heap[b]? = w1.heap[b]? := by
  have hbz : Below w1.heap.size w1 wz := ⟨hz.2.1, hz.2.2.1, hz.2.2.2, by rw [hz.1]; simp, fun k hk => by rw [hz.1]; exact Below.heap_alloc _ _ _ hk⟩
  have hXz := hX.up hbz
  have hblk : wz.heap[w1.heap.size]? = some (.cells #[d0, d1, d2, d3] 48 (0, 0)) := by rw [hz.1]; exact heap_new _ _
  have g1 : TAt (Off base kv wz) wz n t d0 d1 d2 d3 := (ht.below hbz fun b hb => (hS b hb).2.1).mono fun b hb => ⟨(hS b hb).1, Nat.lt_of_lt_of_le (hS b hb).2.1 hbz.size, (hS b hb).2.2⟩
  obtain ⟨R, cap, w', hr, ho, hg, hR⟩ := run_append_terms base kv ls.length xs wz hXz.1 (by omega) ⟨w1.heap.size, 0, none⟩ 1 1 [d0, d1, d2, d3] rfl ⟨by omega, by omega⟩
    (fun j u hu => by rw [Go.WideShapes.add_plain, cell_of_heap hblk, Nat.zero_add, ← Array.getElem?_toList]; exact hu) (shape_one ht) (Nat.le_trans hb hbz.size) ty
  exact ⟨R, cap, w', hr, hXz.push (CellsAt.one g1) (R := R) (cap := cap) ho hg hR, (hbz.mono hb).grown hg (Nat.le_trans hb hbz.size) fun k hk => (hXz.1.lt k hk).1, fun b hb hn => (hg.block b (Nat.lt_of_lt_of_le hb hbz.size) fun e => hn e.symm).trans (hbz.block b hb)⟩

theorem kept_two {w w' : World} {B : Nat} {a b : Value} (h : w'.heap[B]? = w.heap[B]?) (hc : w.cell? ⟨B, 3, none⟩ = some a ∧ w.cell? ⟨B, 4, none⟩ = some b) : w'.cell? ⟨B, 3, none⟩ = some a ∧ w'.cell? ⟨B, 4, none⟩ = some b :=
  ⟨(World.cell?_of_block (w := w) h).trans hc.1, (World.cell?_of_block (w := w) h).trans hc.2⟩

/-- What stands behind spec's BitMatch. -/
def MatS (ts : List (Tm 1)) (c : Int) (w : World) (e : Ending) (w' : World) : Prop :=
  Below w.heap.size w w' ∧ ∃ u, e = .returned (.tuple #[u, .int .i64 c]) ∧ SAt (Fresh w w') w' (TAt (Fresh w w') w' 1) ts u

theorem sat_none {S : Nat → Prop} {w : World} {n : Nat} (a : Option Addr) (cap : Nat) : SAt S w (TAt S w n) ([] : List (Tm n)) (.slice a 0 cap) := ⟨a, cap, rfl, Nat.zero_le _, by simp, fun i hi => by cases hi⟩

set_option maxRecDepth 40000 in
set_option maxHeartbeats 4000000 in
theorem sMatch_any {n : Nat} (L : Int) (s : ByteArray) (gs : List (SgT n)) (v : Value) (w : World) (hv : SgsAt (Under w.heap.size) w n gs v) (c : Int) (ts : List (Tm 1)) (hA : MatA L s gs (c, ts)) :
    Calls Tryd.prog 6 #[.agg #[.int .i64 L, .string s], v] w fun e w' => MatS ts c w e w' := by
  obtain ⟨a, cap, rfl, hcap⟩ : ∃ a cap, v = .slice a gs.length cap ∧ gs.length ≤ 2 ^ 47 := by obtain ⟨a, cap, h, _, h2, _⟩ := hv; exact ⟨a, cap, h, h2⟩
  obtain ⟨W0, hW0⟩ : ∃ W0, W0 = (w.alloc (.cells #[.int .i64 L, .string s] 30)).alloc (.cells #[] 48) := ⟨_, rfl⟩
  have hb0 : Below w.heap.size w W0 := by rw [hW0]; exact below_two _ _ _
  have hs0 : W0.heap.size = w.heap.size + 2 := by rw [hW0]; simp
  have hK : ∀ w', Below W0.heap.size W0 w' → (w'.cell? ⟨w.heap.size, 0, none⟩ = some (.int .i64 L) ∧ w'.cell? ⟨w.heap.size, 1, none⟩ = some (.string s)) := fun w' hb => by
    obtain ⟨g0, g1, _, _⟩ := two_news w (.cells #[.int .i64 L, .string s] 30) (.cells #[] 48)
    rw [← hW0] at g0 g1
    have k0 := (hb.block _ (by omega)).trans g0
    exact ⟨cell_of_heap k0 0, cell_of_heap k0 1⟩
  have hBad : ∀ w', Below W0.heap.size W0 w' → ¬ (okS L s = true ∧ okM gs) → MatS ts c w (.returned (.tuple #[.slice (some ⟨w.heap.size + 1, 0, none⟩) 0 0, .int .i64 1])) w' := fun w' hb hn => by
    rcases hA with ⟨h1, h2, _⟩ | ⟨_, h⟩
    · exact absurd ⟨h1, h2⟩ hn
    · cases h
      exact ⟨hb0.trans (hb.mono hb0.size), _, rfl, sat_none _ _⟩
  have hFin : ∀ w', Below W0.heap.size W0 w' → (c, ts) = (6, []) → MatS ts c w (.returned (.tuple #[.slice (some ⟨w.heap.size + 1, 0, none⟩) 0 0, .int .i64 6])) w' := fun w' hb h => by
    cases h
    exact ⟨hb0.trans (hb.mono hb0.size), _, rfl, sat_none _ _⟩
  have HFIN := hide hFin
  have HBAD := hide hBad
  have HK := hide hK
  have Hb0 := hide hb0
  have HW := hide hW0
  have HV := hide (hv.up hb0)
  have HAA := hide hA
  have hok := hide (sBOK_any L s W0)
  have HS0 := hide hs0
  obtain ⟨q0, q1⟩ := hK W0 (Below.refl _ _)
  clear hK hb0 hv hBad hA hFin
  cases hS : okS L s with
  | false =>
    have hans := unhide HBAD
    go_enter Tryd.func6, Tryd.ntmps6
    go_wp2_with fail
    rw [← unhide HW]
    clear hW0
    refine (unhide hok).mono ?_
    rintro e w1 ⟨rfl, hb1⟩
    rw [hS]
    go_wp2_with fail
    exact bodyPost_ret (v := .tuple #[.slice (some ⟨w.heap.size + 1, 0, none⟩) 0 0, .int .i64 1]) (by simp [results, Tryd.results6, go_sem]) rfl (hans w1 hb1 fun h => by rw [hS] at h; cases h.1)
  | true =>
    by_cases hbig : (200 : Int) < (gs.length : Int)
    · have hans := unhide HBAD
      go_enter Tryd.func6, Tryd.ntmps6
      go_wp2_with fail
      rw [← unhide HW]
      clear hW0
      refine (unhide hok).mono ?_
      rintro e w1 ⟨rfl, hb1⟩
      rw [hS]
      go_wp2_with fail
      exact bodyPost_ret (v := .tuple #[.slice (some ⟨w.heap.size + 1, 0, none⟩) 0 0, .int .i64 1]) (by simp [results, Tryd.results6, go_sem]) rfl (hans w1 hb1 fun h => by have := h.2.1; omega)
    have hlen : gs.length ≤ 200 := by omega
    have hgl0 : (0 : Int) ≤ (gs.length : Int) := by omega
    have hOKL := okS_len hS
    go_enter Tryd.func6, Tryd.ntmps6
    go_wp2_with fail
    rw [← unhide HW]
    clear hW0
    refine (unhide hok).mono ?_
    rintro e w1 ⟨rfl, hb1⟩
    rw [hS]
    have HB1 := hide hb1
    clear hb1 q0 q1
    go_wp2_with fail
    go_loopw [7] (fun iv wr => ∃ k : Nat, k ≤ gs.length ∧ iv = .int .i64 k ∧ Below W0.heap.size W0 wr ∧ ∀ i (hi : i < gs.length), i < k → sgOK gs[i] = true ∧ (gs[i].2.1 = -1 → i + 1 = gs.length)) (fun iv _ => gs.length - (intOf iv).toNat)
    case atStart => exact ⟨0, by omega, rfl, unhide HB1, fun i _ hi => absurd hi (by omega)⟩
    case round =>
      obtain ⟨k, hk, rfl, hb, hall⟩ := hrel
      by_cases hlt : k < gs.length
      · obtain ⟨b, off, kk, km, ks, ku, rfl, hS9, e0, e1, e2, e3, e4, e5, e6, e7, e8, i1, i2, i3, hr⟩ := ((unhide HV).up hb).at k hlt
        obtain ⟨g1, g2, g3, g4, g5, t, hgk⟩ : ∃ g1 g2 g3 g4 g5 t, gs[k] = ((g1, g2, g3, g4, g5, t) : SgT n) := ⟨_, _, _, _, _, _, rfl⟩
        rw [hgk] at e0 e1 e2 e3 e4 hr
        dsimp only at e0 e1 e2 e3 e4 hr
        obtain ⟨_, _, _, ua, ul, uc, h1, h2, h3, rfl⟩ := hr.shape
        have HC := hide (fun w => sSegOK_any g1 g2 g3 g4 g5 t (.int .i64 kk) (.int .i64 km) (.string ks) (.slice ua ul uc) w ⟨_, _, _, _, _, _, rfl, rfl, rfl, rfl⟩)
        have hcc := fun w1 (hb1 : Below wr.heap.size wr w1) => bcell hb1
        have HGK := hide hgk
        have HB := hide hb
        have Hx5 := hide (And.intro e1 hS9)
        clear hr hb h1 h2 h3 i1 i2 i3 hgk
        go_wp2_with fail
        refine ((unhide HC) wr).mono ?_
        rintro e w2 ⟨rfl, hb2⟩
        have hw2 := (unhide HB).trans (hb2.mono (unhide HB).size)
        obtain ⟨x1, xS⟩ := unhide Hx5
        have y1 := (hcc w2 hb2 b _ xS).trans x1
        have HW2 := hide hw2
        clear hb2 hw2 hcc x1 e0 e1 e2 e3 e4 e5 e6 e7 e8
        cases hok1 : sgOK ((g1, g2, g3, g4, g5, t) : SgT n) with
        | false =>
          have hans := unhide HBAD w2 (unhide HW2) fun h => by
            have := (h.2.2 k hlt).1
            rw [unhide HGK, hok1] at this
            cases this
          have HA := hide hans
          clear hans hok1
          go_wp2_with fail
          exact bodyPost_ret (v := .tuple #[.slice (some ⟨w.heap.size + 1, 0, none⟩) 0 0, .int .i64 1]) (by simp [results, Tryd.results6, go_sem]) rfl (unhide HA)
        | true =>
          have HOK := hide hok1
          clear hok1
          by_cases hopen : g2 = -1
          · subst hopen
            by_cases hlast : k + 1 = gs.length
            · have hl1 : ((k : Int) != (gs.length : Int) - 1) = false := by simp; omega
              go_wp2_with fail
              go_roundw
              case rel => exact ⟨k + 1, hlt, by go_num, unhide HW2, fun i hi hik => by
                rcases (show i < k ∨ i = k by omega) with h | rfl
                · exact hall i hi h
                · rw [unhide HGK]; exact ⟨unhide HOK, fun _ => hlast⟩⟩
              case measure => simp [intOf]; omega
            · have hl1 : ((k : Int) != (gs.length : Int) - 1) = true := by simp; omega
              have hans := unhide HBAD w2 (unhide HW2) fun h => by
                have := (h.2.2 k hlt).2
                rw [unhide HGK] at this
                exact hlast (this rfl)
              have HA := hide hans
              clear hans
              go_wp2_with fail
              exact bodyPost_ret (v := .tuple #[.slice (some ⟨w.heap.size + 1, 0, none⟩) 0 0, .int .i64 1]) (by simp [results, Tryd.results6, go_sem]) rfl (unhide HA)
          · have hopen' : (g2 == -1) = false := by simpa using hopen
            have HOPN := hide hopen
            clear hopen
            go_wp2_with fail
            go_roundw
            case rel => exact ⟨k + 1, hlt, by go_num, unhide HW2, fun i hi hik => by
              rcases (show i < k ∨ i = k by omega) with h | rfl
              · exact hall i hi h
              · rw [unhide HGK]; exact ⟨unhide HOK, fun h => absurd h (unhide HOPN)⟩⟩
            case measure => simp [intOf]; omega
      · have hkk : k = gs.length := by omega
        subst hkk
        have hgood : okM gs := ⟨hlen, fun i hi => hall i hi hi⟩
        have hmat : matX s L.toNat [] 0 gs = (c, ts) := by
          rcases unhide HAA with ⟨_, _, h⟩ | ⟨h, _⟩
          · exact h
          · exact absurd ⟨hS, hgood⟩ h
        obtain ⟨N, hN⟩ : ∃ N : Nat, (N : Int) = L := ⟨L.toNat, by have := hOKL.1; omega⟩
        have hNt : L.toNat = N := by omega
        rw [hNt] at hmat
        have hOL := hOKL
        obtain ⟨q0, q1⟩ := unhide HK wr hb
        have HROW := hide (row_some L s wr (by have := hOL.1; have := hOL.2; omega) (by have := hOL.2; omega))
        have HMAT := hide hmat
        have HGOOD := hide hgood.2
        have HB := hide hb
        have HNN := hide hN
        have HNT := hide hNt
        clear hmat hall hgood hb hOL hN hNt
        go_wp2_with fail
        refine (unhide HROW).mono ?_
        rintro e w2 ⟨g, cp, rfl, hown, hb2⟩
        rw [unhide HNT] at hown ⊢
        have hrow : RowAt w2 (.slice (some ⟨g, 0, none⟩) N cp) (cutBits s 0 N) := by
          have := own_row hown (bitsOf_length _ _)
          rwa [show bitsOf s N = cutBits s 0 N by simp [cutBits, bitsOf]] at this
        have hw2 := (unhide HB).trans (hb2.mono (unhide HB).size)
        have hlit : RowsX w2.heap.size (w2.alloc (.cells #[] 48)) ([] : List (Tm 1)) (.slice (some ⟨w2.heap.size, 0, none⟩) 0 0) [] :=
          ⟨World.ownsRow_lit (base := w2.heap.size) (e := 48) (size := 4) w2 #[] 0 (Nat.le_refl _) (by unfold maxLen; omega) (by simp), CellsAt.nil⟩
        have HW2 := hide hw2
        have HLIT := hide hlit
        have HCP := hide (show N ≤ cp by obtain ⟨_, _, h1, h2, _⟩ := id hrow; rw [cutBits_length] at h1 h2; cases h1; exact h2)
        have HROW2 := hide hrow
        clear hown hb2 hw2 hlit hrow q0 q1
        go_wp2_with fail
        go_loopw [8, 9, 10] (fun rv ov iv wr => ∃ (k f M g o cp : Nat) (acc : List (Tm 1)) (xs : List Value), k ≤ gs.length ∧ iv = .int .i64 k ∧ f + M = N ∧ acc.length = k ∧ rv = .slice (some ⟨g, o, none⟩) M cp ∧ M ≤ cp ∧ RowAt w2 rv (cutBits s f M) ∧ RowsX w2.heap.size wr acc ov xs ∧ Below w2.heap.size w2 wr ∧ matX s N acc f (gs.drop k) = (c, ts)) (fun _ _ iv _ => gs.length - (intOf iv).toNat)
        case atStart => exact ⟨0, 0, N, g, 0, cp, [], [], by omega, rfl, by omega, rfl, rfl, unhide HCP, unhide HROW2, unhide HLIT, (Below.refl _ _).alloc (Nat.le_refl _) _, by rw [List.drop_zero]; exact unhide HMAT⟩
        case round =>
          clear HROW2 HLIT HCP HMAT
          obtain ⟨k, f, M, g', o, cp', acc, xs, hk, rfl, hfM, hal, rfl, hMc, hrw, hX, hb, hbx⟩ := hrel
          have hbw := (unhide HW2).trans (hb.mono (unhide HW2).size)
          by_cases hlt : k < gs.length
          · obtain ⟨b, off, kk, km, ks, ku, rfl, hS9, e0, e1, e2, e3, e4, e5, e6, e7, e8, i1, i2, i3, hr⟩ := ((unhide HV).up hbw).at k hlt
            obtain ⟨g1, g2, g3, g4, g5, t, hgk⟩ : ∃ g1 g2 g3 g4 g5 t, gs[k] = ((g1, g2, g3, g4, g5, t) : SgT n) := ⟨_, _, _, _, _, _, rfl⟩
            have hok1 := ((unhide HGOOD) k hlt).1
            rw [hgk] at e0 e1 e2 e3 e4 hr hok1
            rw [List.drop_eq_getElem_cons hlt, hgk] at hbx
            dsimp only at e0 e1 e2 e3 e4 hr
            rw [sgOK_eq] at hok1
            simp only [Bool.and_eq_true, decide_eq_true_eq] at hok1
            obtain ⟨⟨⟨⟨p1, p2⟩, p3⟩, p4⟩, p5⟩ := hok1
            obtain ⟨_, _, _, ua, ul, uc, h1, h2, h3, rfl⟩ := hr.shape
            have hM0 : (0 : Int) ≤ (M : Int) := by omega
            have hMci : (M : Int) ≤ (cp' : Int) := by omega
            have hMb : M ≤ 32000 := by have := hOKL.2; have := unhide HNN; omega
            have HBX := hide hbx
            have HX := hide hX
            have HRW := hide hrw
            have HB := hide hb
            have HFM := hide hfM
            have HBW := hide hbw
            clear hbx hX hrw hb hbw hr h1 h2 h3 i1 i2 i3 hgk hfM
            by_cases hopen : g2 = -1
            · subst hopen
              have ht : g1 ≠ 1 := fun h => by
                rw [if_pos h] at p5
                simp only [Bool.and_eq_true, decide_eq_true_eq] at p5
                omega
              have ht1 : (g1 == 1) = false := by simpa using ht
              have HT1 := hide ht
              have w9 : IntKind.i64.wrap (-1 * g3) = -1 * g3 := wide_wrap p1 p2 p3 p4
              have hw : sgW ((g1, -1, g3, g4, g5, t) : SgT n) (M : Int) = (M : Int) := if_pos rfl
              have HWW := hide hw
              have hle1 : ¬ (M : Int) < (M : Int) := by omega
              clear hw ht p5
              by_cases hrem : (M : Int) % g3 = 0
              · have hr1 : ((M : Int) % g3 != 0) = false := by simp [hrem]
                have HDIV := hide hrem
                clear hrem
                go_wp2_with fail
                obtain ⟨S, hSd⟩ : ∃ S, S = strB (cutBits s f M) := ⟨_, rfl⟩
                have hSs : S.size ≤ 2 ^ 47 := by rw [hSd]; exact strB_cut_size s f M (by omega)
                obtain ⟨wa, hwa⟩ : ∃ wa, wa = wr.alloc (.cells #[.int .i64 g1, .int .i64 (-1), .int .i64 g3, .bool g4, .bool g5, .int .i64 kk, .int .i64 km, .string ks, .slice ua ul uc] 50) := ⟨_, rfl⟩
                rw [← hwa]
                have hba : Below wr.heap.size wr wa := by rw [hwa]; exact (Below.refl _ _).alloc (Nat.le_refl _) _
                have hbw2 := (unhide HB).trans (hba.mono (unhide HB).size)
                have hpk := pack_as (.slice (some ⟨g', o, none⟩) M cp') (cutBits s f M) M S wa (cut_first ((unhide HRW).keep hbw2) (Nat.le_refl M)) (cutBits_01 s f M) (cutBits_length s f M) (by omega) hSd.symm
                have HPK := hide hpk
                have HBA := hide hba
                have HSS := hide hSs
                have HSD := hide hSd
                clear hpk hba hSs hSd hwa hbw2 e0 e1 e2 e3 e4 e5 e6 e7 e8
                refine (unhide HPK).mono ?_
                rintro e w3 ⟨rfl, hb3⟩
                have HB3 := hide ((unhide HBA).trans (hb3.mono (unhide HBA).size))
                clear hb3
                have hfd := field1
                go_wp2_with fail
                clear hfd
                refine (mk_bin S w3).mono ?_
                rintro e w4 ⟨rfl, hb4⟩
                have hb5 := (unhide HB3).trans (hb4.mono (unhide HB3).size)
                obtain ⟨R, cp2, w5, hr5, hX5, hB5, _⟩ := row_pushN ((unhide HX).up hb5) (by omega) (leaf_at (n := 0) (fun _ => False) w4 (k := 9) (m := 0) (t := S) (by unfold In64; omega) (by unfold In64; omega) (unhide HSS)) (fun _ h => h.elim) (wz := w4.alloc _) ⟨rfl, rfl, rfl, rfl⟩ (Nat.le_trans (unhide HB).size hb5.size) 27
                rw [hal] at hr5 hX5
                have HR := hide hr5
                have HX5 := hide hX5
                have HB5 := hide (((unhide HB).trans (hb5.mono (unhide HB).size)).trans hB5)
                have hMe : N - f = M := by have := unhide HFM; omega
                have HME := hide hMe
                clear hb4 hb5 hr5 hX5 hB5 hMe
                by_cases hcw : cp' = M
                · go_wp2_with (at_builtin; refine Go.Lib.wpList_append_run _ rfl (.tmp 101) (.tmp 108) 27 27 rfl _ _ rfl rfl _ _ (unhide HR) ?_)
                  go_roundw
                  case rel => exact ⟨k + 1, f + M, 0, g', o, _, acc ++ [leafM s f M ((g1, -1, g3, g4, g5, t) : SgT n)], _, hlt, by go_num, by have := unhide HFM; omega, by rw [List.length_append, hal]; rfl, rfl, by omega, (by have h := cut_rest (a' := some ⟨g', o, none⟩) (unhide HRW) (Nat.le_refl M) (fun h => by omega); rw [show cp' - M = 0 by omega] at h; rw [Nat.sub_self] at h; exact h), by rw [leafM_bin (unhide HT1)]; simp only [← unhide HSD]; exact unhide HX5, unhide HB5, by rw [← matX_on (by rw [unhide HME]; exact unhide HWW) (by rw [unhide HME]; exact (Nat.le_refl M)) (unhide HDIV)]; exact unhide HBX⟩
                  case measure => simp [intOf]; omega
                · go_wp2_with (at_builtin; refine Go.Lib.wpList_append_run _ rfl (.tmp 101) (.tmp 108) 27 27 rfl _ _ rfl rfl _ _ (unhide HR) ?_)
                  go_roundw
                  case rel => exact ⟨k + 1, f + M, 0, g', o + M, cp' - M, acc ++ [leafM s f M ((g1, -1, g3, g4, g5, t) : SgT n)], _, hlt, by go_num, by have := unhide HFM; omega, by rw [List.length_append, hal]; rfl, rfl, by omega, (by have h := cut_rest (a' := some ⟨g', o + M, none⟩) (unhide HRW) (Nat.le_refl M) (fun h => rfl); rw [Nat.sub_self] at h; exact h), by rw [leafM_bin (unhide HT1)]; simp only [← unhide HSD]; exact unhide HX5, unhide HB5, by rw [← matX_on (by rw [unhide HME]; exact unhide HWW) (by rw [unhide HME]; exact (Nat.le_refl M)) (unhide HDIV)]; exact unhide HBX⟩
                  case measure => simp [intOf]; omega
              · have hr1 : ((M : Int) % g3 != 0) = true := by simpa using hrem
                have HNT2 := hide (show ¬ takesM ((g1, -1, g3, g4, g5, t) : SgT n) (N - f) from fun h => by have h1 := h.2; rw [show N - f = M by have := unhide HFM; omega, unhide HWW] at h1; exact hrem h1)
                clear hrem
                have hend : (c, ts) = (6, []) := by rw [← unhide HBX]; exact matX_no fun h => unhide HNT2 h
                have HEND := hide hend
                clear hend
                go_wp2_with fail
                exact bodyPost_ret (v := .tuple #[.slice (some ⟨w.heap.size + 1, 0, none⟩) 0 0, .int .i64 6]) (by simp [results, Tryd.results6, go_sem]) rfl (unhide HFIN _ ((unhide HBW).alloc (unhide HBW).size _) (unhide HEND))
            · have hopen' : (g2 == -1) = false := by simpa using hopen
              have hm0 := Int.mul_nonneg (show 0 ≤ g2 by omega) (show 0 ≤ g3 by omega)
              obtain ⟨W, hW⟩ : ∃ W : Nat, g2 * g3 = (W : Int) := ⟨(g2 * g3).toNat, by omega⟩
              have hWb : W ≤ 8192000 := by have := (wide_bounds p1 p2 p3 p4).2; omega
              have hw : sgW ((g1, g2, g3, g4, g5, t) : SgT n) (M : Int) = (W : Int) := (if_neg hopen).trans hW
              have hdiv : (W : Int) % g3 = 0 := by rw [← hW]; exact Int.mul_emod_left _ _
              have hr1 : ((W : Int) % g3 != 0) = false := by simp [hdiv]
              have w9 : IntKind.i64.wrap (g2 * g3) = (W : Int) := (wide_wrap p1 p2 p3 p4).trans hW
              have HDIV := hide hdiv
              have HWW := hide hw
              have h49 : g1 = 1 → W ≤ 49 := fun h => by
                rw [if_pos h] at p5
                simp only [Bool.and_eq_true, decide_eq_true_eq] at p5
                omega
              have H49 := hide h49
              clear hw hdiv hm0 hopen p5 h49
              by_cases hle : W ≤ M
              · have hle1 : ¬ (M : Int) < (W : Int) := by omega
                have hle2 : (W : Int) ≤ (cp' : Int) := by omega
                have hle3 : (0 : Int) ≤ (W : Int) := by omega
                by_cases ht : g1 = 1
                · subst ht
                  go_wp2_with fail
                  obtain ⟨V, hVd⟩ : ∃ V : Int, V = signed g4 W (orN (gbit s f) W g5 W) := ⟨_, rfl⟩
                  have hV64 : In64 V := by rw [hVd]; exact signed_64 (unhide H49 trivial) (orN_lt _ _ _ _ (Nat.le_refl _))
                  obtain ⟨wa, hwa⟩ : ∃ wa, wa = wr.alloc (.cells #[.int .i64 1, .int .i64 g2, .int .i64 g3, .bool g4, .bool g5, .int .i64 kk, .int .i64 km, .string ks, .slice ua ul uc] 50) := ⟨_, rfl⟩
                  rw [← hwa]
                  have hba : Below wr.heap.size wr wa := by rw [hwa]; exact (Below.refl _ _).alloc (Nat.le_refl _) _
                  have hk9 : ∀ W', Below wa.heap.size wa W' → W'.cell? ⟨wr.heap.size, 3, none⟩ = some (.bool g4) ∧ W'.cell? ⟨wr.heap.size, 4, none⟩ = some (.bool g5) := fun W' hb => by
                    have h := (hb.block wr.heap.size (by rw [hwa]; simp)).trans ((congrArg (fun z : World => z.heap[wr.heap.size]?) hwa).trans (heap_new wr _))
                    exact ⟨cell_of_heap h 3, cell_of_heap h 4⟩
                  have HSA := hide (show wa.heap.size = wr.heap.size + 1 by rw [hwa]; simp)
                  have HK9 := hide hk9
                  have HBA := hide hba
                  have HV64 := hide hV64
                  have hget : ∀ W', Below wa.heap.size wa W' → Calls Tryd.prog 20 #[.slice (some ⟨g', o, none⟩) W cp', .bool g4, .bool g5] W' fun e w' => e = .returned (.int .i64 V) ∧ Below W'.heap.size W' w' := fun W' hb => by
                    rw [hVd]
                    exact sget_any _ s f W g4 g5 W' (cut_first ((unhide HRW).keep (((unhide HB).trans (hba.mono (unhide HB).size)).trans (hb.mono (Nat.le_trans (unhide HB).size hba.size)))) hle) (unhide H49 trivial)
                  have HGET := hide hget
                  have HVD := hide hVd
                  have hbz := hide ((Below.refl wa.heap.size wa).drew)
                  clear hk9 hba hV64 hget hVd hwa e0 e1 e2 e3 e4 e5 e6 e7 e8
                  go_region_held3 (fun W' => W'.cell? ⟨wr.heap.size, 3, none⟩ = some (.bool g4) ∧ W'.cell? ⟨wr.heap.size, 4, none⟩ = some (.bool g5))
                    (first | exact unhide HK9 _ (unhide hbz) | exact unhide HK9 _ ((unhide hbz).alloc (unhide hbz).size _) | exact unhide HC5)
                    (first
                      | (go_at_call 20; refine ((unhide HGET) _ (unhide hbz)).mono ?_; rintro e W2 ⟨rfl, hb2⟩; have hbz := hide ((unhide hbz).trans (hb2.mono (unhide hbz).size)); clear hb2)
                      | (go_at_call 19; refine (mk_int V _).mono ?_; rintro e W3 ⟨rfl, hb3⟩; have hbz := hide ((unhide hbz).trans (hb3.mono (unhide hbz).size)); have hb5 := (unhide HBA).trans ((unhide hbz).mono (unhide HBA).size); obtain ⟨R, cp2, w5, hr5, hX5, hB5, hN5⟩ := row_pushN ((unhide HX).up hb5) (by omega) (leaf_at (n := 0) (fun _ => False) W3 (k := 1) (m := V) (t := ⟨#[]⟩) (by unfold In64; omega) (unhide HV64) (by decide)) (fun _ h => h.elim) (wz := W3.alloc _) ⟨rfl, rfl, rfl, rfl⟩ (Nat.le_trans (unhide HB).size hb5.size) 27; rw [hal] at hX5; have HR := hide hr5; have HX5 := hide hX5; have HB5 := hide ((((unhide HB).trans (hb5.mono (unhide HB).size))).trans hB5); have HN5 := hide (fun b (hb : b < wr.heap.size + 1) (hn : u9.ownBlock ≠ some b) => hN5 b (by have h1 := (unhide hbz).size; have h2 := unhide HSA; omega) hn); have HC5 := hide (kept_two (hN5 wr.heap.size (by have h1 := (unhide hbz).size; have h2 := unhide HSA; omega) fun e => by have := ((unhide HX).1.lt _ e).2; omega) (unhide HK9 _ (unhide hbz))); clear hb3 hb5 hr5 hX5 hB5 hN5)
                      | (refine step_append_ran rfl (.tmp 89) (.tmp 99) 27 27 rfl _ _ rfl rfl _ _ (unhide HR) ?_))
                  have hMe : N - f = M := by have := unhide HFM; omega
                  have HME := hide hMe
                  clear hMe
                  by_cases hcw : cp' = W
                  · go_wp2_with fail
                    go_roundw
                    case rel => exact ⟨k + 1, f + W, M - W, g', o, _, acc ++ [leafM s f W ((1, g2, g3, g4, g5, t) : SgT n)], _, hlt, by go_num, by have := unhide HFM; omega, by rw [List.length_append, hal]; rfl, rfl, by omega, (by have h := cut_rest (a' := some ⟨g', o, none⟩) (unhide HRW) hle (fun h => by omega); rw [show cp' - W = 0 by omega] at h; exact h), by rw [leafM_int rfl]; simp only [← unhide HVD]; exact unhide HX5, unhide HB5, by rw [← matX_on (by rw [unhide HME]; exact unhide HWW) (by rw [unhide HME]; exact hle) (unhide HDIV)]; exact unhide HBX⟩
                    case measure => simp [intOf]; omega
                  · go_wp2_with fail
                    go_roundw
                    case rel => exact ⟨k + 1, f + W, M - W, g', o + W, cp' - W, acc ++ [leafM s f W ((1, g2, g3, g4, g5, t) : SgT n)], _, hlt, by go_num, by have := unhide HFM; omega, by rw [List.length_append, hal]; rfl, rfl, by omega, cut_rest (unhide HRW) hle fun h => rfl, by rw [leafM_int rfl]; simp only [← unhide HVD]; exact unhide HX5, unhide HB5, by rw [← matX_on (by rw [unhide HME]; exact unhide HWW) (by rw [unhide HME]; exact hle) (unhide HDIV)]; exact unhide HBX⟩
                    case measure => simp [intOf]; omega
                · have ht1 : (g1 == 1) = false := by simpa using ht
                  have HT1 := hide ht
                  clear ht
                  go_wp2_with fail
                  obtain ⟨S, hSd⟩ : ∃ S, S = strB (cutBits s f W) := ⟨_, rfl⟩
                  have hSs : S.size ≤ 2 ^ 47 := by rw [hSd]; exact strB_cut_size s f W (by omega)
                  obtain ⟨wa, hwa⟩ : ∃ wa, wa = wr.alloc (.cells #[.int .i64 g1, .int .i64 (g2), .int .i64 g3, .bool g4, .bool g5, .int .i64 kk, .int .i64 km, .string ks, .slice ua ul uc] 50) := ⟨_, rfl⟩
                  rw [← hwa]
                  have hba : Below wr.heap.size wr wa := by rw [hwa]; exact (Below.refl _ _).alloc (Nat.le_refl _) _
                  have hbw2 := (unhide HB).trans (hba.mono (unhide HB).size)
                  have hpk := pack_as (.slice (some ⟨g', o, none⟩) W cp') (cutBits s f W) W S wa (cut_first ((unhide HRW).keep hbw2) hle) (cutBits_01 s f W) (cutBits_length s f W) (by omega) hSd.symm
                  have HPK := hide hpk
                  have HBA := hide hba
                  have HSS := hide hSs
                  have HSD := hide hSd
                  clear hpk hba hSs hSd hwa hbw2 e0 e1 e2 e3 e4 e5 e6 e7 e8
                  refine (unhide HPK).mono ?_
                  rintro e w3 ⟨rfl, hb3⟩
                  have HB3 := hide ((unhide HBA).trans (hb3.mono (unhide HBA).size))
                  clear hb3
                  have hfd := field1
                  go_wp2_with fail
                  clear hfd
                  refine (mk_bin S w3).mono ?_
                  rintro e w4 ⟨rfl, hb4⟩
                  have hb5 := (unhide HB3).trans (hb4.mono (unhide HB3).size)
                  obtain ⟨R, cp2, w5, hr5, hX5, hB5, _⟩ := row_pushN ((unhide HX).up hb5) (by omega) (leaf_at (n := 0) (fun _ => False) w4 (k := 9) (m := 0) (t := S) (by unfold In64; omega) (by unfold In64; omega) (unhide HSS)) (fun _ h => h.elim) (wz := w4.alloc _) ⟨rfl, rfl, rfl, rfl⟩ (Nat.le_trans (unhide HB).size hb5.size) 27
                  rw [hal] at hr5 hX5
                  have HR := hide hr5
                  have HX5 := hide hX5
                  have HB5 := hide (((unhide HB).trans (hb5.mono (unhide HB).size)).trans hB5)
                  have hMe : N - f = M := by have := unhide HFM; omega
                  have HME := hide hMe
                  clear hb4 hb5 hr5 hX5 hB5 hMe
                  by_cases hcw : cp' = W
                  · go_wp2_with (at_builtin; refine Go.Lib.wpList_append_run _ rfl (.tmp 101) (.tmp 108) 27 27 rfl _ _ rfl rfl _ _ (unhide HR) ?_)
                    go_roundw
                    case rel => exact ⟨k + 1, f + W, M - W, g', o, _, acc ++ [leafM s f W ((g1, g2, g3, g4, g5, t) : SgT n)], _, hlt, by go_num, by have := unhide HFM; omega, by rw [List.length_append, hal]; rfl, rfl, by omega, (by have h := cut_rest (a' := some ⟨g', o, none⟩) (unhide HRW) hle (fun h => by omega); rw [show cp' - W = 0 by omega] at h; exact h), by rw [leafM_bin (unhide HT1)]; simp only [← unhide HSD]; exact unhide HX5, unhide HB5, by rw [← matX_on (by rw [unhide HME]; exact unhide HWW) (by rw [unhide HME]; exact hle) (unhide HDIV)]; exact unhide HBX⟩
                    case measure => simp [intOf]; omega
                  · go_wp2_with (at_builtin; refine Go.Lib.wpList_append_run _ rfl (.tmp 101) (.tmp 108) 27 27 rfl _ _ rfl rfl _ _ (unhide HR) ?_)
                    go_roundw
                    case rel => exact ⟨k + 1, f + W, M - W, g', o + W, cp' - W, acc ++ [leafM s f W ((g1, g2, g3, g4, g5, t) : SgT n)], _, hlt, by go_num, by have := unhide HFM; omega, by rw [List.length_append, hal]; rfl, rfl, by omega, (by have h := cut_rest (a' := some ⟨g', o + W, none⟩) (unhide HRW) hle (fun h => rfl); exact h), by rw [leafM_bin (unhide HT1)]; simp only [← unhide HSD]; exact unhide HX5, unhide HB5, by rw [← matX_on (by rw [unhide HME]; exact unhide HWW) (by rw [unhide HME]; exact hle) (unhide HDIV)]; exact unhide HBX⟩
                    case measure => simp [intOf]; omega
              · have hle1 : (M : Int) < (W : Int) := by omega
                have HNT2 := hide (show ¬ takesM ((g1, g2, g3, g4, g5, t) : SgT n) (N - f) from fun h => by have h1 := h.1; rw [show N - f = M by have := unhide HFM; omega, unhide HWW] at h1; omega)
                have hend : (c, ts) = (6, []) := by rw [← unhide HBX]; exact matX_no fun h => unhide HNT2 h
                have HEND := hide hend
                clear hend
                go_wp2_with fail
                exact bodyPost_ret (v := .tuple #[.slice (some ⟨w.heap.size + 1, 0, none⟩) 0 0, .int .i64 6]) (by simp [results, Tryd.results6, go_sem]) rfl (unhide HFIN _ ((unhide HBW).alloc (unhide HBW).size _) (unhide HEND))
          · have hkk : k = gs.length := by omega
            subst hkk
            rw [List.drop_length] at hbx
            have HBX := hide hbx
            have HX := hide hX
            have HB := hide hb
            have HBW := hide hbw
            have HFM := hide hfM
            clear hbx hX hrw hb hbw hfM
            obtain ⟨ova, ovc, hov⟩ : ∃ ova ovc, u9 = .slice ova acc.length ovc := by obtain ⟨a1, c1, h, _⟩ := (unhide HX).sat (by omega); exact ⟨a1, c1, h⟩
            subst hov
            by_cases hM : M = 0
            · subst hM
              have hend : (0, acc) = (c, ts) := by rw [← unhide HBX]; exact (matX_end (by have := unhide HFM; omega)).symm
              cases hend
              go_wp2_with fail
              exact bodyPost_ret (v := .tuple #[.slice ova ts.length ovc, .int .i64 0]) (by simp [results, Tryd.results6, go_sem]) rfl ⟨(unhide Hb0).trans ((unhide HBW).mono (unhide Hb0).size), _, rfl, ((unhide HX).sat (by omega)).mono (fun b hb => ⟨by have := (unhide Hb0).size; have := (unhide HW2).size; have := hb.1; omega, hb.2⟩) fun _ _ _ _ _ _ ht => ht.mono fun b hb => ⟨by have := (unhide Hb0).size; have := (unhide HW2).size; have := hb.1; omega, hb.2⟩⟩
            · have hM1 : (0 : Int) < (M : Int) := by omega
              have hend : (c, ts) = (6, []) := by rw [← unhide HBX]; exact matX_left (by have := unhide HFM; omega)
              have HEND := hide hend
              clear hend
              go_wp2_with fail
              exact bodyPost_ret (v := .tuple #[.slice (some ⟨w.heap.size + 1, 0, none⟩) 0 0, .int .i64 6]) (by simp [results, Tryd.results6, go_sem]) rfl (unhide HFIN _ (unhide HBW) (unhide HEND))

end Go.Proofs.YtgkckkaegkdioaaDoor
/- impl's share and build of a segment. -/
namespace Go.Proofs.YtgkckkaegkdioaaDoor
open Go.RowKit Go.Deep

section
variable (g1 g2 g3 : Int) (g4 g5 : Bool) (k m : Int) (s : ByteArray) (ua : Option Addr) (ul uc : Nat) (w : World)

set_option maxRecDepth 40000 in
set_option maxHeartbeats 1000000 in
theorem share_open (N : Nat) (hN : N ≤ 1000000) (p1 : 1 ≤ g3) : Calls Tryd.prog 27 #[sgV g1 (-1) g3 g4 g5 k m s ua ul uc, .int .i64 N] w fun e w' => e = .returned (.tuple #[.int .i64 N, .bool ((N : Int) % g3 == 0)]) ∧ Below w.heap.size w w' := by
  have HO := hide (fun w => isOpen_any g1 (-1) g3 g4 g5 k m s ua ul uc w)
  have hB := hide ((Below.refl w.heap.size w).alloc (Nat.le_refl _) (sgO g1 (-1) g3 g4 g5 k m s ua ul uc))
  unfold sgV
  go_enter Tryd.func27, Tryd.ntmps27
  go_wp2_with fail
  refine ((unhide HO) _).mono ?_
  rintro e w1 ⟨rfl, hb1⟩
  obtain ⟨x0, x1, x2, x3, x4, x5, x6, x7, x8⟩ := box9 g1 (-1) g3 g4 g5 k m s ua ul uc w (Nat.lt_succ_self _) (hb1.mono (by simp))
  have H1 := hide ((unhide hB).trans (hb1.mono (by simp)))
  have htt : ((-1 : Int) == -1) = true := rfl
  rw [htt]
  clear hb1 htt
  go_wp2_with fail
  go_region
  all_goals
    go_wp2_with fail
    first
      | exact bodyPost_ret (v := .tuple #[.int .i64 N, .bool ((N : Int) % g3 == 0)]) (by simp [results, Tryd.results27, go_sem]) rfl ⟨rfl, unhide H1⟩
      | exact bodyPost_ret (v := .tuple #[.int .i64 N, .bool ((N : Int) % g3 == 0)]) (by simp [results, Tryd.results27, go_sem]) rfl ⟨rfl, (unhide H1).drew⟩

set_option maxRecDepth 40000 in
set_option maxHeartbeats 1000000 in
theorem share_width (left : Int) (p1 : 1 ≤ g3) (p2 : g3 ≤ 256) (p3 : -1 ≤ g2) (p4 : g2 ≤ 32000) (ho : g2 ≠ -1) : Calls Tryd.prog 27 #[sgV g1 g2 g3 g4 g5 k m s ua ul uc, .int .i64 left] w fun e w' => e = .returned (.tuple #[.int .i64 (g2 * g3), .bool (decide (g2 * g3 ≤ left))]) ∧ Below w.heap.size w w' := by
  have HO := hide (fun w => isOpen_any g1 g2 g3 g4 g5 k m s ua ul uc w)
  have HWD := fun w => width_any g1 g2 g3 g4 g5 k m s ua ul uc w p1 p2 p3 p4
  have hB := hide ((Below.refl w.heap.size w).alloc (Nat.le_refl _) (sgO g1 g2 g3 g4 g5 k m s ua ul uc))
  have HWW := hide HWD
  clear HWD p1 p2 p3 p4
  have htt : (g2 == -1) = false := by simpa using ho
  unfold sgV
  go_enter Tryd.func27, Tryd.ntmps27
  go_wp2_with fail
  refine ((unhide HO) _).mono ?_
  rintro e w1 ⟨rfl, hb1⟩
  obtain ⟨x0, x1, x2, x3, x4, x5, x6, x7, x8⟩ := box9 g1 g2 g3 g4 g5 k m s ua ul uc w (Nat.lt_succ_self _) (hb1.mono (by simp))
  have hsz : w.heap.size + 1 ≤ w1.heap.size := by have := hb1.size; simpa using this
  have H1 := hide ((unhide hB).trans (hb1.mono (by simp)))
  rw [htt]
  have F0 := fun x : LaterW (w.heap.size + 1) w1 => (x.be.cell (p := ⟨w.heap.size, 0, none⟩) (Nat.lt_succ_self _)).trans x0
  have F1 := fun x : LaterW (w.heap.size + 1) w1 => (x.be.cell (p := ⟨w.heap.size, 1, none⟩) (Nat.lt_succ_self _)).trans x1
  have F2 := fun x : LaterW (w.heap.size + 1) w1 => (x.be.cell (p := ⟨w.heap.size, 2, none⟩) (Nat.lt_succ_self _)).trans x2
  have F3 := fun x : LaterW (w.heap.size + 1) w1 => (x.be.cell (p := ⟨w.heap.size, 3, none⟩) (Nat.lt_succ_self _)).trans x3
  have F4 := fun x : LaterW (w.heap.size + 1) w1 => (x.be.cell (p := ⟨w.heap.size, 4, none⟩) (Nat.lt_succ_self _)).trans x4
  have F5 := fun x : LaterW (w.heap.size + 1) w1 => (x.be.cell (p := ⟨w.heap.size, 5, none⟩) (Nat.lt_succ_self _)).trans x5
  have F6 := fun x : LaterW (w.heap.size + 1) w1 => (x.be.cell (p := ⟨w.heap.size, 6, none⟩) (Nat.lt_succ_self _)).trans x6
  have F7 := fun x : LaterW (w.heap.size + 1) w1 => (x.be.cell (p := ⟨w.heap.size, 7, none⟩) (Nat.lt_succ_self _)).trans x7
  have F8 := fun x : LaterW (w.heap.size + 1) w1 => (x.be.cell (p := ⟨w.heap.size, 8, none⟩) (Nat.lt_succ_self _)).trans x8
  clear hb1 x0 x1 x2 x3 x4 x5 x6 x7 x8
  go_wp2_with fail
  haveI hne : Nonempty (LaterW (w.heap.size + 1) w1) := ⟨⟨w1, Below.refl _ _⟩⟩
  refine wp_region_later (w.heap.size + 1) (by kernel_rfl) (by kernel_rfl) ?_
  repeat (go_big_quiet_step ((go_at_call 38; rename_i x; refine Calls.later (v := .int .i64 (g2 * g3)) hsz ((unhide HWW) _))))
  refine wpQuiet_nil ?_
  rintro _ ⟨⟨wq, hq⟩, rfl⟩
  go_wp2_with fail
  exact bodyPost_ret (v := .tuple #[.int .i64 (g2 * g3), .bool (decide (g2 * g3 ≤ left))]) (by simp [results, Tryd.results27, go_sem]) rfl ⟨rfl, (unhide H1).trans (hq.mono (Nat.le_succ _))⟩
end

end Go.Proofs.YtgkckkaegkdioaaDoor
/- Plain facts: bits cut out of a row, byte by byte. -/
namespace Go.Proofs.YtgkckkaegkdioaaDoor
open Go.RowKit

/-- The eight bits from bit f + 8 j on. -/
def full (s : ByteArray) (f j : Nat) : Int := pk (fun i => bit s (f + i)) j 8
def fullBytes (s : ByteArray) (f m : Nat) : List Int := (List.range m).map (full s f)
theorem fullBytes_length (s : ByteArray) (f m : Nat) : (fullBytes s f m).length = m := by simp [fullBytes]
theorem fullBytes_get (s : ByteArray) (f m j : Nat) (h : j < m) : (fullBytes s f m)[j]? = some (full s f j) := by simp [fullBytes, h]

theorem pk_shift (f : Nat → Int) (j : Nat) : ∀ c, pk f j c = pk (fun t => f (8 * j + t)) 0 c
  | 0 => rfl
  | c + 1 => by simp only [pk]; rw [pk_shift f j c]; simp
theorem full_shift (s : ByteArray) (f j : Nat) : full s f j = full s (f + 8 * j) 0 := by
  unfold full; rw [pk_shift]; simp only [Nat.add_assoc]
theorem full_01 (s : ByteArray) (f : Nat) : ∀ i, bit s (f + i) = 0 ∨ bit s (f + i) = 1 := fun _ => bit_01 s _
theorem full_bounds (s : ByteArray) (f j : Nat) : 0 ≤ full s f j ∧ full s f j < 256 := by
  obtain ⟨h1, h2, _⟩ := pk_bounds _ (full_01 s f) j 8 (by omega)
  unfold full
  simp at h2
  omega
/-- On whole bytes. -/
theorem full_whole (s : ByteArray) (q j : Nat) : full s (8 * q) j = byt s (q + j) := by
  have h := pk_bit s (q + j) 8 (by omega)
  have h2 := byt_lo s (q + j)
  rw [full_shift]
  unfold full
  rw [pk_shift] at h
  simp only [Nat.sub_self, Int.pow_zero, Int.ediv_one, Int.mul_one] at h ⊢
  rw [← h]
  apply pk_congr
  intro k _
  rw [show 8 * q + 8 * j + (8 * 0 + k) = 8 * (q + j) + (8 * 0 + k) by omega]

/-- The high part and the low part of a shifted byte. -/
theorem or_parts (x y : Int) (h : Nat) (hh : h < 8) (hx0 : 0 ≤ x) (hx : x < 256) (hy0 : 0 ≤ y) (hy : y < 256) : bits .or .u8 (x * 2 ^ h % 256) (y / 2 ^ (8 - h)) = x * 2 ^ h % 256 + y / 2 ^ (8 - h) := by
  have all : ∀ X : Nat, X * 2 ^ h % 256 = 2 ^ h * (X % 2 ^ (8 - h)) := fun X => by
    have e : 2 ^ h * 2 ^ (8 - h) = 256 := by rw [← Nat.pow_add, show h + (8 - h) = 8 by omega]
    have g : X * 2 ^ h % (2 ^ h * 2 ^ (8 - h)) = 2 ^ h * (X % 2 ^ (8 - h)) := by rw [Nat.mul_comm X, Nat.mul_mod_mul_left]
    rw [e] at g; exact g
  obtain ⟨X, rfl⟩ := Int.eq_ofNat_of_zero_le hx0
  obtain ⟨Y, rfl⟩ := Int.eq_ofNat_of_zero_le hy0
  have e1 : (X : Int) * 2 ^ h % 256 = ((X * 2 ^ h % 256 : Nat) : Int) := by simp
  have e2 : (Y : Int) / 2 ^ (8 - h) = ((Y / 2 ^ (8 - h) : Nat) : Int) := by simp
  have hY : Y / 2 ^ (8 - h) < 2 ^ h := by
    rw [Nat.div_lt_iff_lt_mul (Nat.two_pow_pos _), ← Nat.pow_add, show h + (8 - h) = 8 by omega]
    omega
  have h256 : Y / 2 ^ (8 - h) < 256 := Nat.lt_of_le_of_lt (Nat.div_le_self _ _) (by omega)
  rw [e1, e2, u8_or_nat _ _ (Nat.mod_lt _ (by decide)) h256]
  rw [all X, ← Nat.two_pow_add_eq_or_of_lt hY]
  simp

theorem full_parts (s : ByteArray) (i : Nat) (hi : i % 8 ≠ 0) : full s i 0 = byt s (i / 8) * 2 ^ (i % 8) % 256 + byt s (i / 8 + 1) / 2 ^ (8 - i % 8) := by
  unfold full
  simp only [pk]
  have hx0 := byt_lo s (i / 8)
  have hx := byt_hi s (i / 8)
  have hy0 := byt_lo s (i / 8 + 1)
  have hy := byt_hi s (i / 8 + 1)
  have hb : ∀ k, k < 8 → bit s (i + (8 * 0 + k)) = if i % 8 + k < 8 then byt s (i / 8) / 2 ^ (7 - (i % 8 + k)) % 2 else byt s (i / 8 + 1) / 2 ^ (7 - (i % 8 + k - 8)) % 2 := by
    intro k hk
    unfold bit
    split
    · rw [show (i + (8 * 0 + k)) / 8 = i / 8 by omega, show (i + (8 * 0 + k)) % 8 = i % 8 + k by omega]
    · rw [show (i + (8 * 0 + k)) / 8 = i / 8 + 1 by omega, show (i + (8 * 0 + k)) % 8 = i % 8 + k - 8 by omega]
  rw [hb 0 (by omega), hb 1 (by omega), hb 2 (by omega), hb 3 (by omega), hb 4 (by omega), hb 5 (by omega), hb 6 (by omega), hb 7 (by omega)]
  clear hb
  generalize byt s (i / 8) = x at hx0 hx
  generalize byt s (i / 8 + 1) = y at hy0 hy
  have hc : i % 8 = 1 ∨ i % 8 = 2 ∨ i % 8 = 3 ∨ i % 8 = 4 ∨ i % 8 = 5 ∨ i % 8 = 6 ∨ i % 8 = 7 := by omega
  generalize i % 8 = h at hc
  clear hi
  rcases hc with rfl | rfl | rfl | rfl | rfl | rfl | rfl <;> simp <;> omega

/-- The first c bits of eight. -/
theorem pk_trunc (f : Nat → Int) (hf : ∀ i, f i = 0 ∨ f i = 1) (j c : Nat) : ∀ d, c ≤ d → d ≤ 8 → pk f j d / 2 ^ (8 - c) * 2 ^ (8 - c) = pk f j c
  | 0, h1, _ => by
    have : c = 0 := by omega
    subst this; simp [pk]
  | d + 1, h1, h2 => by
    by_cases hcd : c = d + 1
    · subst hcd
      obtain ⟨_, _, h3⟩ := pk_bounds f hf j (d + 1) h2
      have hp : (0 : Int) < 2 ^ (8 - (d + 1)) := Int.pow_pos (by decide)
      exact Int.ediv_mul_cancel_of_emod_eq_zero h3
    · have ih := pk_trunc f hf j c d (by omega) (by omega)
      obtain ⟨g1, g2, g3⟩ := pk_bounds f hf j d (by omega)
      have h4 := hf (8 * j + d)
      rw [← ih]
      simp only [pk]
      generalize pk f j d = P at g1 g2 g3
      generalize f (8 * j + d) = b at h4
      clear ih hf
      have hd : d = 0 ∨ d = 1 ∨ d = 2 ∨ d = 3 ∨ d = 4 ∨ d = 5 ∨ d = 6 ∨ d = 7 := by omega
      have hc : c = 0 ∨ c = 1 ∨ c = 2 ∨ c = 3 ∨ c = 4 ∨ c = 5 ∨ c = 6 ∨ c = 7 := by omega
      rcases hd with rfl | rfl | rfl | rfl | rfl | rfl | rfl | rfl <;> rcases hc with rfl | rfl | rfl | rfl | rfl | rfl | rfl | rfl <;> first | omega | (rcases h4 with rfl | rfl <;> simp at g1 g2 g3 ⊢ <;> omega)

/-- The bits that do not count, put to 0 one by one, from the last one on. -/
def cl (Z : List Int) (r : Nat) : List Int := Z.set (Z.length - 1) (Z.getD (Z.length - 1) 0 / 2 ^ r * 2 ^ r)
theorem cl_length (Z : List Int) (r : Nat) : (cl Z r).length = Z.length := by simp [cl]
theorem cl_zero (Z : List Int) : cl Z 0 = Z := by
  unfold cl
  by_cases h : Z.length - 1 < Z.length
  · rw [List.getD_eq_getElem?_getD, List.getElem?_eq_getElem h]; simp
  · have : Z = [] := by apply List.eq_nil_of_length_eq_zero; omega
    subst this; rfl
theorem clear_one (x : Int) (r : Nat) (hr : r < 8) (hx0 : 0 ≤ x) (hx : x < 256) : bits .andNot .u8 (x / 2 ^ r * 2 ^ r) (2 ^ r) = x / 2 ^ (r + 1) * 2 ^ (r + 1) := by
  have all : ∀ r : Fin 8, ∀ x : Fin 256, (x.val / 2 ^ r.val * 2 ^ r.val) &&& (255 - 2 ^ r.val) = x.val / 2 ^ (r.val + 1) * 2 ^ (r.val + 1) := by decide +kernel
  obtain ⟨X, rfl⟩ := Int.eq_ofNat_of_zero_le hx0
  have h := all ⟨r, hr⟩ ⟨X, by omega⟩
  simp only at h
  have e1 : (X : Int) / 2 ^ r * 2 ^ r = ((X / 2 ^ r * 2 ^ r : Nat) : Int) := by simp
  have e2 : (2 : Int) ^ r = ((2 ^ r : Nat) : Int) := by simp
  have e3 : (X : Int) / 2 ^ (r + 1) * 2 ^ (r + 1) = ((X / 2 ^ (r + 1) * 2 ^ (r + 1) : Nat) : Int) := by simp
  have hp : (2 : Nat) ^ r ≤ 2 ^ 7 := Nat.pow_le_pow_right (by decide) (by omega)
  have hle := Nat.div_mul_le_self X (2 ^ r)
  rw [e1, e3, e2, u8_andNot_nat _ _ (by omega) (by omega), h]
theorem cl_getD (Z : List Int) (r : Nat) (h : 0 < Z.length) : (cl Z r).getD (Z.length - 1) 0 = Z.getD (Z.length - 1) 0 / 2 ^ r * 2 ^ r := by
  unfold cl; rw [set_getD _ _ _ (by omega)]
theorem cl_step (Z : List Int) (r : Nat) (hr : r < 8) (hZ : ∀ x ∈ Z, 0 ≤ x ∧ x < 256) (h : 0 < Z.length) :
    (cl Z r).set (Z.length - 1) (bits .andNot .u8 ((cl Z r).getD (Z.length - 1) 0) (2 ^ r)) = cl Z (r + 1) := by
  rw [cl_getD Z r h]
  have hb : 0 ≤ Z.getD (Z.length - 1) 0 ∧ Z.getD (Z.length - 1) 0 < 256 := by
    have hl : Z.length - 1 < Z.length := by omega
    rw [List.getD_eq_getElem?_getD, List.getElem?_eq_getElem hl]
    exact hZ _ (List.getElem_mem hl)
  rw [clear_one _ r hr hb.1 hb.2]
  unfold cl
  rw [List.set_set]
theorem full_mem (s : ByteArray) (f m : Nat) : ∀ x ∈ fullBytes s f m, 0 ≤ x ∧ x < 256 := by
  intro x hx
  obtain ⟨j, _, rfl⟩ := List.mem_map.1 hx
  exact full_bounds s f j

/-- The bytes of the bits that are cut out. -/
theorem cut_bytes (s : ByteArray) (f n : Nat) : cl (fullBytes s f ((n + 7) / 8)) (8 * ((n + 7) / 8) - n) = bytesAt (cutBits s f n) n := by
  apply List.ext_getElem?
  intro i
  by_cases hi : i < (n + 7) / 8
  · have hb : (bytesAt (cutBits s f n) n)[i]? = some (packed (cutBits s f n) i (min 8 (n - 8 * i))) := bytesAt_get _ _ _ (by rw [cutBits_length]; exact hi)
    rw [hb]
    have hp : packed (cutBits s f n) i (min 8 (n - 8 * i)) = pk (fun t => bit s (f + t)) i (min 8 (n - 8 * i)) := by
      unfold packed
      apply pk_congr
      intro k hk
      rw [cutBits_getD s f n _ (by omega)]
    rw [hp]
    unfold cl
    rw [fullBytes_length, List.getElem?_set, fullBytes_length]
    by_cases hl : (n + 7) / 8 - 1 = i
    · rw [if_pos hl, if_pos (by omega)]
      congr 1
      rw [hl, List.getD_eq_getElem?_getD, fullBytes_get _ _ _ _ hi, Option.getD_some]
      unfold full
      have e : 8 * ((n + 7) / 8) - n = 8 - min 8 (n - 8 * i) := by omega
      rw [e]
      exact pk_trunc _ (full_01 s f) i _ 8 (by omega) (by omega)
    · rw [if_neg hl, fullBytes_get _ _ _ _ hi]
      have e : min 8 (n - 8 * i) = 8 := by omega
      rw [e]; rfl
  · rw [List.getElem?_eq_none (by rw [cl_length, fullBytes_length]; omega), List.getElem?_eq_none (by rw [bytesAt_length, cutBits_length]; omega)]

/-- The first k of the bytes, 0 behind them. -/
def part (s : ByteArray) (f m k : Nat) : List Int := (List.range m).map fun j => match decide (j < k) with | true => full s f j | false => 0
theorem part_length (s : ByteArray) (f m k : Nat) : (part s f m k).length = m := by simp [part]
theorem part_get (s : ByteArray) (f m k j : Nat) (h : j < m) : (part s f m k)[j]? = some (match decide (j < k) with | true => full s f j | false => 0) := by simp [part, h]
theorem part_zero (s : ByteArray) (f m : Nat) : part s f m 0 = List.replicate m 0 := by
  apply List.ext_getElem?
  intro i
  by_cases h : i < m
  · rw [part_get _ _ _ _ _ h]; simp [h]
  · rw [List.getElem?_eq_none (by rw [part_length]; omega), List.getElem?_eq_none (by simp; omega)]
theorem part_all (s : ByteArray) (f m : Nat) : part s f m m = fullBytes s f m := by
  apply List.ext_getElem?
  intro i
  by_cases h : i < m
  · rw [part_get _ _ _ _ _ h, fullBytes_get _ _ _ _ h, decide_eq_true h]
  · rw [List.getElem?_eq_none (by rw [part_length]; omega), List.getElem?_eq_none (by rw [fullBytes_length]; omega)]
theorem part_succ (s : ByteArray) (f m k : Nat) (hk : k < m) : part s f m (k + 1) = (part s f m k).set k (full s (f + 8 * k) 0) := by
  apply List.ext_getElem?
  intro i
  by_cases h : i < m
  · rw [part_get _ _ _ _ _ h, List.getElem?_set, part_length]
    by_cases hik : k = i
    · subst hik
      rw [if_pos rfl, if_pos hk, decide_eq_true (Nat.lt_succ_self k), full_shift]
    · rw [if_neg hik, part_get _ _ _ _ _ h]
      have : decide (i < k + 1) = decide (i < k) := by simp; omega
      rw [this]
  · rw [List.getElem?_eq_none (by rw [part_length]; omega), List.getElem?_eq_none (by simp [part_length]; omega)]

end Go.Proofs.YtgkckkaegkdioaaDoor
/- impl's byteAt and clearEnd. -/
namespace Go.Proofs.YtgkckkaegkdioaaDoor
open Go.RowKit Go.Deep

set_option maxRecDepth 100000 in
theorem byteAt_any (n : Int) (s : ByteArray) (i : Nat) (w : World) (hi : i / 8 < s.size) (h8 : i % 8 ≠ 0) (hi2 : i ≤ 10000000000) :
    Calls Tryd.prog 47 #[.agg #[.int .i64 n, .string s], .int .i64 i] w fun e w' => e = .returned (.int .u8 (full s i 0)) ∧ Below w.heap.size w w' := by
  have hbx := hide ((Below.refl w.heap.size w).alloc (Nat.le_refl _) (.cells #[.int .i64 n, .string s] 30))
  have hA := hide (byt_get s (i / 8) hi)
  by_cases h1 : i / 8 + 1 < s.size
  · have hB := hide (byt_get s (i / 8 + 1) h1)
    have hr := hide (full_parts s i h8)
    have ho := hide (or_parts (byt s (i / 8)) (byt s (i / 8 + 1)) (i % 8) (by omega) (byt_lo _ _) (byt_hi _ _) (byt_lo _ _) (byt_hi _ _))
    clear h8
    go_enter Tryd.func47, Tryd.ntmps47
    go_wp2_with fail
    go_ret
    refine ⟨ret_back (k := .u8) ?_, unhide hbx⟩
    rw [unhide hr, ← unhide ho, unhide hA, unhide hB]
  · have hB : byt s (i / 8 + 1) = 0 := by
      unfold byt
      rw [Array.getElem?_eq_none (by have : s.data.size = s.size := rfl; omega)]; rfl
    have hr := hide (full_parts s i h8)
    rw [hB] at hr
    clear h8 hB
    go_enter Tryd.func47, Tryd.ntmps47
    go_wp2_with fail
    go_ret
    refine ⟨ret_back (k := .u8) ?_, unhide hbx⟩
    rw [unhide hr, unhide hA, Int.zero_ediv, Int.add_zero]

set_option maxRecDepth 100000 in
theorem clearEnd_any (R g m n : Nat) (base : Nat) (Z : List Int) (w : World) (hm : Masks 0 w) (h0 : w.cell? ⟨R, 0, none⟩ = some (.int .i64 n)) (h1 : w.cell? ⟨R, 1, none⟩ = some (.slice (some ⟨g, 0, none⟩) m m))
    (hown : w.ownsRow base 5 1 (.slice (some ⟨g, 0, none⟩) m m) m (u8s Z)) (hl : Z.length = m) (hZ : ∀ x ∈ Z, 0 ≤ x ∧ x < 256) (hR : g < R) (hG : 0 < g) (hn : n ≤ 8 * m) (hn8 : 8 * m < n + 8) (hmm : m ≤ 100000) :
    Calls Tryd.prog 48 #[.pointer (some ⟨R, 0, none⟩)] w fun e w' => e = .returned (.tuple #[]) ∧ w'.ownsRow base 5 1 (.slice (some ⟨g, 0, none⟩) m m) m (u8s (cl Z (8 * m - n))) ∧
      w'.cell? ⟨R, 0, none⟩ = some (.int .i64 n) ∧ w'.cell? ⟨R, 1, none⟩ = some (.slice (some ⟨g, 0, none⟩) m m) ∧ Below g w w' ∧ w'.heap.size = w.heap.size := by
  have Hm := hide hm
  have Hown := hide hown
  have HZ := hide hZ
  clear hm hown hZ
  go_enter Tryd.func48, Tryd.ntmps48
  go_wp2_with fail
  go_region
  go_wp2_with fail
  go_loopw [2, 14] (fun jv iv wr => ∃ k : Nat, (k : Int) ≤ 8 * (m : Int) - n ∧ iv = .int .i64 k ∧ wr.ownsRow base 5 1 (.slice (some ⟨g, 0, none⟩) m m) m (u8s (cl Z k)) ∧
      wr.cell? ⟨R, 0, none⟩ = some (.int .i64 n) ∧ wr.cell? ⟨R, 1, none⟩ = some (.slice (some ⟨g, 0, none⟩) m m) ∧ Below g w wr ∧ wr.heap.size = w.heap.size) (fun _ iv _ => 8 * m - n - (intOf iv).toNat)
  case atStart => exact ⟨0, by omega, rfl, by rw [cl_zero]; exact (unhide Hown).drew, h0, h1, (Below.refl g w).drew, rfl⟩
  case round =>
    obtain ⟨k, hk, rfl, hown, r0, r1, hb, hsz⟩ := hrel
    clear h0 h1
    by_cases hlt : (k : Int) < 8 * (m : Int) - n
    · have hm0 : 0 < m := by omega
      have hk8 : k < 8 := by omega
      have hmask : wr.cell? ⟨0, 7 - k, none⟩ = some (.int .u8 (2 ^ k)) := by
        have := (hb.cell (p := ⟨0, 7 - k, none⟩) hG).trans ((unhide Hm).2 (7 - k) (by omega))
        rw [show 7 - (7 - k) = k by omega] at this
        exact this
      have hc := own_cell hown (m - 1) (by omega)
      have hf := hown.frozenAt (m - 1)
      have hS := hide (cl_step Z k hk8 (unhide HZ) (by omega))
      have hown2 := hide (own_set hown (m - 1))
      obtain ⟨y, hy⟩ : ∃ y, y = (cl Z k).getD (m - 1) 0 := ⟨_, rfl⟩
      rw [← hy] at hc
      have HY := hide hy
      have Hb := hide hb
      clear hy hb hown
      have e1 : IntKind.i64.wrap ((m : Int) - 1) = ((m - 1 : Nat) : Int) := by simp [IntKind.wrap, IntKind.bits, IntKind.signed]; omega
      go_wp2_with fail
      go_region
      have hown3 := unhide hown2 (bits .andNot .u8 y (2 ^ k))
      have e3 : (cl Z k).set (m - 1) (bits .andNot .u8 y (2 ^ k)) = cl Z (k + 1) := by
        have := unhide hS
        rw [hl, ← unhide HY] at this
        exact this
      rw [e3] at hown3
      obtain ⟨w5, hw5⟩ : ∃ w5, w5 = (wr.setCell ⟨g, m - 1, none⟩ (.int .u8 (bits .andNot .u8 y (2 ^ k)))).drew := ⟨_, rfl⟩
      have hown6 : w5.ownsRow base 5 1 (.slice (some ⟨g, 0, none⟩) m m) m (u8s (cl Z (k + 1))) := by rw [hw5]; exact hown3
      have hb6 : Below g w w5 := by rw [hw5]; exact ((unhide Hb).setCell (Nat.le_refl _) _).drew
      have c0 : w5.cell? ⟨R, 0, none⟩ = some (.int .i64 n) := by rw [hw5]; exact (World.cell?_setCell_other _ _ _ _ (by simp)).trans r0
      have c1 : w5.cell? ⟨R, 1, none⟩ = some (.slice (some ⟨g, 0, none⟩) m m) := by rw [hw5]; exact (World.cell?_setCell_other _ _ _ _ (by simp)).trans r1
      have hs6 : w5.heap.size = w.heap.size := by rw [hw5]; simpa using hsz
      rw [← hw5]
      have H6 := hide hown6
      have HB6 := hide hb6
      have HC0 := hide c0
      have HC1 := hide c1
      have HS6 := hide hs6
      clear hown3 hw5 r0 r1 e3 e1 hmask hc hf hsz hown6 hb6 c0 c1 hs6
      go_wp2_with fail
      go_roundw
      case rel => exact ⟨k + 1, by omega, by go_num, unhide H6, unhide HC0, unhide HC1, unhide HB6, unhide HS6⟩
      case measure => simp [intOf]; omega
    · have hkn : 8 * m - n = k := by omega
      have Hown' := hide hown
      have Hb := hide hb
      have HN := hide hkn
      clear hown hb hkn
      go_wp2_with fail
      go_end0
      exact ⟨rfl, by rw [unhide HN]; exact unhide Hown', r0, r1, unhide Hb, hsz⟩

end Go.Proofs.YtgkckkaegkdioaaDoor
