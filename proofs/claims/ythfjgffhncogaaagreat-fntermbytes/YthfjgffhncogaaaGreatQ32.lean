/- spec's taker: kids. -/
import Derived.Test.YthfjgffhncogaaaGreatQ31
import Derived.Test.YthfjgffhncogaaaGreatQ3
import Derived.Test.YthfjgffhncogaaaGreatQ13
import Derived.Test.YthfjgffhncogaaaGreatQ18
namespace Go.Proofs.YthfjgffhncogaaaGreat
open Go.RowKit Go.Deep

theorem cells_shape {S : Nat → Prop} {w : World} {n : Nat} {t : Tm n} {c0 c1 c2 c3 : Value} (h : TAt S w n t c0 c1 c2 c3) : ∀ u ∈ [c0, c1, c2, c3], u.oneCell' = true := by
  obtain ⟨_, _, _, _, _, _, rfl, rfl, rfl, rfl⟩ := h.shape
  intro u hu
  simp at hu
  rcases hu with rfl | rfl | rfl | rfl <;> rfl
theorem But.kept {g : Nat} {w w' : World} (h : But g w w') : Kept g w w' := ⟨h.os, h.tape, h.output, h.size, h.block⟩

/-- Behind taking a term. -/
def StEnd (m g c : Nat) (data : ByteArray) (pos : Nat) (w : World) (e : Ending) (w' : World) : Prop :=
  But g w w' ∧ ((∃ t c' pos' d0 d1 d2 d3, takeV m (suf data pos) c = some (t, suf data pos', c') ∧ pos' ≤ data.size ∧ c < c' ∧ c' ≤ 2000 ∧ e = .returned (.agg #[d0, d1, d2, d3]) ∧ TAt (Fresh w w') w' (m + 1) t d0 d1 d2 d3 ∧ Tkr g c' data pos' false w') ∨
    (takeV m (suf data pos) c = none ∧ ∃ c' pos' k1 k2 s a l cap, pos' ≤ data.size ∧ e = .returned (.agg #[.int .i64 k1, .int .i64 k2, .string s, .slice a l cap]) ∧ Tkr g c' data pos' true w'))
def StSaid (m : Nat) : Prop := ∀ (g c : Nat) (data : ByteArray) (pos d : Nat) (w : World), Tkr g c data pos false w → pos ≤ data.size → data.size ≤ 2 ^ 47 → d + m = 101 → c ≤ 2000 →
  Calls Tryz.prog 51 #[.pointer (some ⟨g, 0, none⟩), .int .i64 d] w fun e w' => StEnd m g c data pos w e w'

/-- Behind taking k terms. -/
def SkEnd (m g c k : Nat) (data : ByteArray) (pos : Nat) (w : World) (e : Ending) (w' : World) : Prop :=
  But g w w' ∧ ((∃ ks c' pos' a cap, takeR (takeV m) k (suf data pos) c = some (ks, suf data pos', c') ∧ pos' ≤ data.size ∧ c + k ≤ c' ∧ c' ≤ 2000 ∧ ks.length = k ∧ e = .returned (.slice a k cap) ∧ SAt (Fresh w w') w' (TAt (Fresh w w') w' (m + 1)) ks (.slice a k cap) ∧ Tkr g c' data pos' false w') ∨
    (takeR (takeV m) k (suf data pos) c = none ∧ ∃ c' pos' a l cap, pos' ≤ data.size ∧ e = .returned (.slice a l cap) ∧ Tkr g c' data pos' true w'))

/-- A term that lies in new memory put behind an own row. -/
theorem row_put {n base : Nat} {w1 wz : World} {ls : List (Tm n)} {xs : List Value} {kv : Value} (hX : RowsX base w1 ls kv xs) (hl : ls.length ≤ 90000) {t : Tm n} {d0 d1 d2 d3 : Value} {S : Nat → Prop} (ht : TAt S w1 n t d0 d1 d2 d3) (hS : ∀ b, S b → Off base kv w1 b)
    (hz : wz.heap = (w1.alloc (.cells #[d0, d1, d2, d3] 26)).heap ∧ wz.os = w1.os ∧ wz.tape = w1.tape ∧ wz.output = w1.output) (hb : base ≤ w1.heap.size) (ty : TypeId) :
    ∃ R cap w', (Builtin.append_ #[24, 24] ty #[kv, .slice (some ⟨w1.heap.size, 0, none⟩) 1 1]).run Tryz.prog wz = .ok (.slice (some ⟨R, 0, none⟩) (ls.length + 1) cap) w' ∧
      RowsX base w' (ls ++ [t]) (.slice (some ⟨R, 0, none⟩) (ls.length + 1) cap) (xs ++ [d0, d1, d2, d3]) ∧ Below base w1 w' := by
  have hbz : Below w1.heap.size w1 wz := ⟨hz.2.1, hz.2.2.1, hz.2.2.2, by rw [hz.1]; simp, fun k hk => by rw [hz.1]; exact Below.heap_alloc _ _ _ hk⟩
  have hXz := hX.up hbz
  have hblk : wz.heap[w1.heap.size]? = some (.cells #[d0, d1, d2, d3] 26 (0, 0)) := by rw [hz.1]; exact heap_new _ _
  have g1 : TAt (Off base kv wz) wz n t d0 d1 d2 d3 := (ht.below hbz fun b hb => (hS b hb).2.1).mono fun b hb => ⟨(hS b hb).1, Nat.lt_of_lt_of_le (hS b hb).2.1 hbz.size, (hS b hb).2.2⟩
  obtain ⟨R, cap, w', hr, ho, hg, hR⟩ := run_append_terms base kv ls.length xs wz hXz.1 (by omega) ⟨w1.heap.size, 0, none⟩ 1 1 [d0, d1, d2, d3] rfl ⟨by omega, by omega⟩
    (fun j u hu => by rw [Go.WideShapes.add_plain, cell_of_heap hblk, Nat.zero_add, ← Array.getElem?_toList]; exact hu) (cells_shape ht) (Nat.le_trans hb hbz.size) ty
  exact ⟨R, cap, w', hr, hXz.push (CellsAt.one g1) (R := R) (cap := cap) ho hg hR, (hbz.mono hb).grown hg (Nat.le_trans hb hbz.size) fun k hk => (hXz.1.lt k hk).1⟩

/-- Any four cells put behind an own row. -/
theorem row_junk {n base : Nat} {w1 wz : World} {ls : List (Tm n)} {xs : List Value} {kv : Value} (hX : RowsX base w1 ls kv xs) (hl : ls.length ≤ 90000) {d0 d1 d2 d3 : Value} (hd : ∀ u ∈ [d0, d1, d2, d3], u.oneCell' = true)
    (hz : wz.heap = (w1.alloc (.cells #[d0, d1, d2, d3] 26)).heap ∧ wz.os = w1.os ∧ wz.tape = w1.tape ∧ wz.output = w1.output) (hb : base ≤ w1.heap.size) (ty : TypeId) :
    ∃ R cap w', (Builtin.append_ #[24, 24] ty #[kv, .slice (some ⟨w1.heap.size, 0, none⟩) 1 1]).run Tryz.prog wz = .ok (.slice (some ⟨R, 0, none⟩) (ls.length + 1) cap) w' ∧ Below base w1 w' := by
  have hbz : Below w1.heap.size w1 wz := ⟨hz.2.1, hz.2.2.1, hz.2.2.2, by rw [hz.1]; simp, fun k hk => by rw [hz.1]; exact Below.heap_alloc _ _ _ hk⟩
  have hXz := hX.up hbz
  have hblk : wz.heap[w1.heap.size]? = some (.cells #[d0, d1, d2, d3] 26 (0, 0)) := by rw [hz.1]; exact heap_new _ _
  obtain ⟨R, cap, w', hr, ho, hg, hR⟩ := run_append_terms base kv ls.length xs wz hXz.1 (by omega) ⟨w1.heap.size, 0, none⟩ 1 1 [d0, d1, d2, d3] rfl ⟨by omega, by omega⟩
    (fun j u hu => by rw [Go.WideShapes.add_plain, cell_of_heap hblk, Nat.zero_add, ← Array.getElem?_toList]; exact hu) hd (Nat.le_trans hb hbz.size) ty
  exact ⟨R, cap, w', hr, (hbz.mono hb).grown hg (Nat.le_trans hb hbz.size) fun k hk => (hXz.1.lt k hk).1⟩

theorem rows_lit {n : Nat} {base : Nat} (w : World) (hb : base ≤ w.heap.size) : RowsX base (w.alloc (.cells #[] 26)) ([] : List (Tm n)) (.slice (some ⟨w.heap.size, 0, none⟩) 0 0) [] :=
  ⟨World.ownsRow_lit (base := base) w #[] 0 hb (by unfold maxLen; omega) (by simp), CellsAt.nil⟩
theorem rows_form {n base : Nat} {w : World} {ks : List (Tm n)} {v : Value} {xs : List Value} (h : RowsX base w ks v xs) : ∃ a cap, v = .slice a ks.length cap := by
  rcases own_place h.1 with ⟨rfl, h3⟩ | ⟨g, cap, rfl, _⟩
  · exact ⟨none, 0, by rw [h3]⟩
  · exact ⟨_, cap, rfl⟩

set_option maxRecDepth 40000 in
set_option maxHeartbeats 2000000 in
theorem skids_any (m : Nat) (h : StSaid m) (g c k : Nat) (data : ByteArray) (pos d : Nat) (w : World) (hu : Tkr g c data pos false w) (hp : pos ≤ data.size) (hd : data.size ≤ 2 ^ 47) (hdm : d + m = 101) (hc : c ≤ 2000) (hk : k ≤ 200000) :
    Calls Tryz.prog 89 #[.pointer (some ⟨g, 0, none⟩), .int .i64 k, .int .i64 d] w fun e w' => SkEnd m g c k data pos w e w' := by
  have hgl := hu.lt
  have HU := hide (hu.below ((Below.refl w.heap.size w).alloc (Nat.le_refl _) (.cells #[] 26)))
  have HR0 := hide (rows_lit (n := m + 1) w (Nat.le_refl _))
  have HB0 := hide (show But g w (w.alloc (.cells #[] 26)) from ⟨rfl, rfl, rfl, by simp, fun k hk _ => Below.heap_alloc _ _ _ hk⟩)
  clear hu
  go_enter Tryz.func89, Tryz.ntmps89
  go_wp2_with fail
  go_loopw [7, 8] (fun rv iv wr => ∃ i : Nat, i ≤ k ∧ iv = .int .i64 i ∧ But g w wr ∧
      ((∃ (ks : List (Tm (m + 1))) (xs : List Value) (c' pos' : Nat), takeR (takeV m) i (suf data pos) c = some (ks, suf data pos', c') ∧ pos' ≤ data.size ∧ c' ≤ 2000 ∧ c + i ≤ c' ∧ ks.length = i ∧ RowsX w.heap.size wr ks rv xs ∧ Tkr g c' data pos' false wr) ∨
       (takeR (takeV m) k (suf data pos) c = none ∧ ∃ c' pos' a l cap, pos' ≤ data.size ∧ rv = .slice a l cap ∧ Tkr g c' data pos' true wr))) (fun _ iv _ => k - (intOf iv).toNat)
  case atStart => exact ⟨0, Nat.zero_le _, rfl, unhide HB0, .inl ⟨[], [], c, pos, rfl, hp, hc, Nat.le_refl _, rfl, unhide HR0, unhide HU⟩⟩
  case round =>
    obtain ⟨i, hi, rfl, hbut, ⟨ks, xs, c', pos', htk, hp', hc', hci, hkl, hX, hu'⟩ | ⟨hno, c', pos', a, l, cap, hpb, rfl, hu'⟩⟩ := hrel
    · obtain ⟨a, cap, rfl⟩ := rows_form hX
      rw [hkl] at hX ⊢
      obtain ⟨_, _, t2, _, _⟩ := hu'.cells
      by_cases hlt : i < k
      · have hcall := hide (h g c' data pos' d wr hu' hp' hd hdm hc')
        have HTK := hide htk
        have HX := hide hX
        have HBUT := hide hbut
        have HKL := hide hkl
        have HCI := hide (And.intro hci hc')
        clear hu' htk hX hbut hkl hci hp' hc'
        go_wp2_with fail
        refine (unhide hcall).mono ?_
        rintro e w2 ⟨hb2, ⟨t, c2, p2, d0, d1, d2, d3, ht, hp2, hcc, hc2, rfl, hv, hu2⟩ | ⟨hno, c2, p2, k1, k2, s, a2, l2, cap2, hpb, rfl, hu2⟩⟩
        · obtain ⟨tk, tm, ts, ta, tl, tc, rfl, rfl, rfl, rfl⟩ := hv.shape
          have hX2 := (unhide HX).kept hb2.kept hgl
          have hbw := (unhide HBUT).size
          obtain ⟨R, cp, w4, hr4, hX4, hB4⟩ := row_put hX2 (by have := unhide HKL; have := (unhide HCI).1; have := (unhide HCI).2; omega) hv (fun b hb => ⟨by have := hb.1; omega, hb.2, fun e => by have := ((unhide HX).1.lt b e).2; have := hb.1; omega⟩) (wz := w2.alloc _) ⟨rfl, rfl, rfl, rfl⟩ (Nat.le_trans hbw hb2.size) 24
          rw [unhide HKL] at hr4 hX4
          have hbw2 := (unhide HBUT).trans hb2
          have HB4 := hide (show But g w w4 from ⟨hB4.os.trans hbw2.os, hB4.tape.trans hbw2.tape, hB4.output.trans hbw2.output, Nat.le_trans hbw2.size hB4.size, fun b hb hn => (hB4.block b hb).trans (hbw2.block b hb hn)⟩)
          have HU4 := hide (show Tkr g c2 data p2 false w4 from (hB4.block g hgl).trans hu2)
          have htk2 := hide (show takeR (takeV m) (i + 1) (suf data pos) c = some (ks ++ [t], suf data p2, c2) by
            rw [takeR, unhide HTK]
            dsimp only
            rw [ht])
          have HR4 := hide hr4
          have HX4 := hide hX4
          have HCC := hide (And.intro hp2 (And.intro hcc hc2))
          clear hX2 hbw hr4 hX4 hB4 hbw2 hv hu2 ht hp2 hcc hc2 hb2
          go_wp2_with (at_builtin; refine Go.Lib.wpList_append_run _ rfl (.tmp 22) (.tmp 26) 24 24 rfl _ _ rfl rfl _ _ (unhide HR4) ?_)
          go_roundw
          case rel =>
            obtain ⟨q1, q2, q3⟩ := unhide HCC
            exact ⟨i + 1, hlt, by go_num, unhide HB4, .inl ⟨ks ++ [t], _, c2, p2, unhide htk2, q1, q3, by have := (unhide HCI).1; have := (unhide HCI).2; omega, by rw [List.length_append, unhide HKL]; rfl, unhide HX4, unhide HU4⟩⟩
          case measure => simp [intOf]; omega
        · have hX2 := (unhide HX).kept hb2.kept hgl
          have hbw := (unhide HBUT).size
          obtain ⟨R, cp, w4, hr4, hB4⟩ := row_junk hX2 (by have := unhide HKL; have := (unhide HCI).1; have := (unhide HCI).2; omega) (d0 := .int .i64 k1) (d1 := .int .i64 k2) (d2 := .string s) (d3 := .slice a2 l2 cap2) (by intro u hu; simp at hu; rcases hu with rfl | rfl | rfl | rfl <;> rfl) (wz := w2.alloc _) ⟨rfl, rfl, rfl, rfl⟩ (Nat.le_trans hbw hb2.size) 24
          rw [unhide HKL] at hr4
          have hbw2 := (unhide HBUT).trans hb2
          have HB4 := hide (show But g w w4 from ⟨hB4.os.trans hbw2.os, hB4.tape.trans hbw2.tape, hB4.output.trans hbw2.output, Nat.le_trans hbw2.size hB4.size, fun b hb hn => (hB4.block b hb).trans (hbw2.block b hb hn)⟩)
          have HU4 := hide (show Tkr g c2 data p2 true w4 from (hB4.block g hgl).trans hu2)
          have HNO := hide (show takeR (takeV m) k (suf data pos) c = none by
            refine takeR_none _ (i + 1) _ _ ?_ k hlt
            rw [takeR, unhide HTK]
            dsimp only
            rw [hno])
          have HR4 := hide hr4
          have HPB := hide hpb
          clear hX2 hbw hr4 hB4 hbw2 hu2 hno hb2 hpb
          go_wp2_with (at_builtin; refine Go.Lib.wpList_append_run _ rfl (.tmp 22) (.tmp 26) 24 24 rfl _ _ rfl rfl _ _ (unhide HR4) ?_)
          go_roundw
          case rel => exact ⟨i + 1, hlt, by go_num, unhide HB4, .inr ⟨unhide HNO, c2, p2, _, _, _, unhide HPB, rfl, unhide HU4⟩⟩
          case measure => simp [intOf]; omega
      · have hkk : i = k := by omega
        subst hkk
        have HTK := hide htk
        have HX := hide hX
        have HBUT := hide hbut
        have HKL := hide hkl
        have HCI := hide (And.intro hp' (And.intro hci hc'))
        have HU' := hide hu'
        clear hu' htk hX hbut hkl hci hp' hc'
        go_wp2_with fail
        go_ret
        obtain ⟨q1, q2, q3⟩ := unhide HCI
        refine ⟨unhide HBUT, .inl ⟨ks, c', pos', a, cap, unhide HTK, q1, q2, q3, unhide HKL, rfl, ?_, unhide HU'⟩⟩
        have := (unhide HX).sat (by have := unhide HKL; omega)
        exact this
    · obtain ⟨_, _, t2, _, _⟩ := hu'.cells
      have HBUT := hide hbut
      have HNO := hide hno
      have HU' := hide hu'
      have HPB := hide hpb
      clear hbut hno hu' hpb
      by_cases hlt : i < k
      all_goals
        go_wp2_with fail
        go_ret
        exact ⟨unhide HBUT, .inr ⟨unhide HNO, c', pos', a, l, cap, unhide HPB, rfl, unhide HU'⟩⟩

set_option maxRecDepth 40000 in
set_option maxHeartbeats 1000000 in
theorem skids_bad (g c k : Nat) (data : ByteArray) (pos : Nat) (d : Int) (w : World) (hu : Tkr g c data pos true w) :
    Calls Tryz.prog 89 #[.pointer (some ⟨g, 0, none⟩), .int .i64 k, .int .i64 d] w fun e w' => But g w w' ∧ ∃ a l cap, e = .returned (.slice a l cap) ∧ Tkr g c data pos true w' := by
  have hgl := hu.lt
  obtain ⟨w0, hw0⟩ : ∃ w0, w0 = w.alloc (.cells #[] 26) := ⟨_, rfl⟩
  have hb0 : Below w.heap.size w w0 := by rw [hw0]; exact (Below.refl w.heap.size w).alloc (Nat.le_refl _) _
  have hu0 := hu.below hb0
  have t2 := hu0.cells.2.2.1
  have HU := hide hu0
  have HB := hide (But.below (g := g) hb0)
  have HW := hide hw0
  clear hu hb0 hu0 hw0
  by_cases hk : 0 < k
  all_goals
    go_enter Tryz.func89, Tryz.ntmps89
    go_upto_region 2 with fail
    rw [← unhide HW]
    go_wp2_with fail
    go_loopw [7, 8] (fun rv iv wr => rv = .slice (some ⟨w.heap.size, 0, none⟩) 0 0 ∧ iv = .int .i64 0 ∧ wr = w0) (fun _ _ _ => 0)
    case atStart => exact ⟨rfl, rfl, rfl⟩
    case round =>
      obtain ⟨rfl, rfl, rfl⟩ := hrel
      go_wp2_with fail
      go_ret
      exact ⟨unhide HB, _, _, _, rfl, unhide HU⟩

end Go.Proofs.YthfjgffhncogaaaGreat
/- The laws' markText: a function of its number. -/
namespace Go.Proofs.YthfjgffhncogaaaGreat
open Go.RowKit Go.Deep

/-- The digits ahead of a text. -/
def digF : Nat → Nat → ByteArray → ByteArray
  | 0, _, o => o
  | f + 1, k, o => if k = 0 then o else digF f (k / 10) (strOfNums [((48 + k % 10 : Nat) : Int)] ++ o)
theorem digF_zero (f : Nat) (o : ByteArray) : digF f 0 o = o := by
  cases f with
  | zero => rfl
  | succ f => simp [digF]
/-- The mark of a number. -/
def mtext (k : Nat) : ByteArray := if k = 0 then ⟨#[109, 48]⟩ else ⟨#[109]⟩ ++ digF k k ⟨#[]⟩

theorem one_size (b : Int) : (strOfNums [b]).size = 1 := by simp [strOfNums, ByteArray.size]

set_option maxRecDepth 40000 in
set_option maxHeartbeats 1000000 in
theorem mtext_any (k : Nat) (w : World) (hk : k ≤ 1000000) :
    Calls Tryz.prog 86 #[.int .i64 k] w fun e w' => e = .returned (.string (mtext k)) ∧ Below w.heap.size w w' := by
  by_cases h0 : k = 0
  · subst h0
    go_enter Tryz.func86, Tryz.ntmps86
    go_wp2_with fail
    go_ret
    exact ⟨rfl, Below.refl _ _⟩
  · have h1 : ¬ (k : Int) ≤ 0 := by omega
    have hm : mtext k = ⟨#[109]⟩ ++ digF k k ⟨#[]⟩ := if_neg h0
    have HM := hide hm
    clear hm
    go_enter Tryz.func86, Tryz.ntmps86
    go_wp2_with fail
    go_loopw [0, 3] (fun kv ov wr => ∃ (q f : Nat) (o : ByteArray), kv = .int .i64 q ∧ ov = .string o ∧ q ≤ f ∧ digF f q o = digF k k ⟨#[]⟩ ∧ o.size + q ≤ k ∧ Below w.heap.size w wr) (fun kv _ _ => (intOf kv).toNat)
    case atStart => exact ⟨k, k, ⟨#[]⟩, rfl, rfl, Nat.le_refl _, rfl, by show 0 + k ≤ k; omega, Below.refl _ _⟩
    case round =>
      obtain ⟨q, f, o, rfl, rfl, hqf, hdig, hsz, hb⟩ := hrel
      by_cases hq : q = 0
      · subst hq
        rw [digF_zero] at hdig
        have HD := hide hdig
        have HB := hide hb
        have hlim : ¬ 9223372036854775807 < (⟨#[109]⟩ : ByteArray).size + o.size := by show ¬ 9223372036854775807 < 1 + o.size; omega
        clear hdig hb
        go_wp2_with fail
        go_ret
        exact ⟨by rw [unhide HM, ← unhide HD]; rfl, unhide HB⟩
      · have hq2 : (0 : Int) < (q : Int) := by omega
        obtain ⟨f', rfl⟩ : ∃ f', f = f' + 1 := ⟨f - 1, by omega⟩
        have hd2 : digF f' (q / 10) (strOfNums [((48 + q % 10 : Nat) : Int)] ++ o) = digF k k ⟨#[]⟩ := by
          rw [← hdig, digF, if_neg hq]
        obtain ⟨b, hbd⟩ : ∃ b : Int, b = ((48 + q % 10 : Nat) : Int) := ⟨_, rfl⟩
        have hbe : 48 + (q : Int) % 10 = b := by omega
        have hb8 : IntKind.u8.wrap b = b := by rw [IntKind.wrap_u8]; omega
        have hcv := run_convert_bytes_arg (P := Tryz.prog) (wr.alloc (.cells #[.int .u8 b] 5)) 22 5 Tryz.underlying22 Tryz.underlying5 wr.heap.size 0 1 1 [b] rfl (fun i hi => by
          have : i = 0 := by omega
          subst this
          exact cell_of_heap (heap_new _ _) 0) 9 Tryz.underlying9
        have hs1 := one_size b
        rw [← hbd] at hd2
        obtain ⟨S, hS⟩ : ∃ S, S = strOfNums [b] := ⟨_, rfl⟩
        rw [← hS] at hcv hd2 hs1
        have hlim : ¬ 9223372036854775807 < S.size + o.size := by omega
        have HD := hide hd2
        have HB := hide (hb.alloc hb.size (.cells #[.int .u8 b] 5))
        have HBD := hide hbd
        clear hdig hd2 hb hbd hS
        go_wp2_with fail

        go_roundw
        case rel => exact ⟨q / 10, f', S ++ o, by go_num, rfl, by omega, unhide HD, by rw [ByteArray.size_append]; omega, unhide HB⟩
        case measure => simp [intOf]; omega

end Go.Proofs.YthfjgffhncogaaaGreat
