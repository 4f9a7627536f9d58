/- impl's way inward: goIn.rising, the pairs of a map whose keys must rise. -/
import Derived.Test.YthfjgffhncogaaaGreatQ23
namespace Go.Proofs.YthfjgffhncogaaaGreat
open Go.RowKit

/-- From count c on, at depth d, a map's row is taken. -/
def riseOK {n : Nat} (ks : List (Tm n)) (c d : Nat) : Prop := rowOK ks c d ∧ risesB (cmpT n n) ks = true
def RiseEnd {n : Nat} (ks : List (Tm n)) (g c d : Nat) (w : World) (e : Ending) (w' : World) : Prop :=
  But g w w' ∧ ((riseOK ks c d ∧ ∃ R, e = .returned (.slice (some ⟨R, 0, none⟩) (ks.length / 2) (ks.length / 2)) ∧ w.heap.size ≤ R ∧ KAt (Fresh w w') w' (VAt (Fresh w w') w' n) ks (some ⟨R, 0, none⟩) ∧ Ctr g (c + sizS ks) w') ∨
    (¬ riseOK ks c d ∧ e = faultE))

theorem KAt.list {α : Type} {S : Nat → Prop} {w : World} {R : α → Value → Prop} {ks : List α} {r : Nat} (h : KAt S w R ks (some ⟨r, 0, none⟩)) :
    ∃ vs : List Value, vs.length = ks.length ∧ ∀ j (hj : j < ks.length) (hj' : j < vs.length), S r ∧ w.cell? ⟨r, j, none⟩ = some vs[j] ∧ R ks[j] vs[j] := by
  have hx : ∀ j : Fin ks.length, ∃ v, S r ∧ w.cell? ⟨r, j.1, none⟩ = some v ∧ R (ks[j.1]'j.2) v := fun ⟨j, hj⟩ => by
    obtain ⟨b, off, v, e, hS, hc, hR⟩ := h j hj
    cases e
    exact ⟨v, hS, by simpa using hc, hR⟩
  refine ⟨List.ofFn fun j => (hx j).choose, by simp, fun j hj hj' => ?_⟩
  have := (hx ⟨j, hj⟩).choose_spec
  simpa using this

set_option maxRecDepth 40000 in
set_option maxHeartbeats 4000000 in
theorem rising_of {n : Nat} (h : RowSaid n) (ks : List (Tm n)) (v : Value) (p g c d : Nat) (w : World) (hp : ks.length = 2 * p) (hc : Ctr g c w) (hv : SAt (Inp w g) w (TAt (Inp w g) w n) ks v) (hc1 : c ≤ 2000) (hd1 : 1 ≤ d) (hd2 : d ≤ 101) :
    Calls Tryz.prog 98 #[.pointer (some ⟨g, 0, none⟩), v, .int .i64 d] w fun e w' => RiseEnd ks g c d w e w' := by
  have hcc := hide (h ks v g c d w hc hv hc1 hd1 hd2)
  have hgl := hc.lt
  obtain ⟨a, cap, rfl, hlen, hcap, hel⟩ := hv
  clear hel
  have HP := hide hp
  clear hp
  go_enter Tryz.func98, Tryz.ntmps98
  go_wp2_with fail
  refine (unhide hcc).mono ?_
  rintro e w1 ⟨hb1, ⟨hok, R, cap1, rfl, hR, hcap1, hcap2, hK, hct⟩ | ⟨hno, rfl⟩⟩
  · obtain ⟨vs, hvs, hel⟩ := hK.list
    have hp1 : p ≤ 1000 := by
      have q1 := sizS_len ks ks.length (Nat.le_refl _)
      rw [List.take_length] at q1
      have := hok.2.1; have := unhide HP; omega
    have hpo := hide (pairsOf_any vs ks.length p R cap1 w1 hvs (unhide HP) hp1 hcap1 (fun hl => (hel 0 hl (by omega)).1.2) (fun j hj => (hel j (by omega) hj).2.1)
      (fun v hv => by
        obtain ⟨j, hj, rfl⟩ := List.getElem_of_mem hv
        exact (hel j (by omega) hj).2.2.shape))
    have HOK := hide hok
    have HEL := hide hel
    have HVS := hide hvs
    have HCT := hide hct
    clear hok hel hvs hK hcc hct
    go_wp2_with fail
    refine (unhide hpo).mono ?_
    rintro e w2 ⟨rfl, hsz2, hcell2, hb2⟩
    have hbw : But g w w2 := hb1.trans (But.below hb2)
    have hK2 : ∀ j (hj : j < ks.length) (hj' : j < vs.length), w2.cell? ⟨w1.heap.size, j, none⟩ = some vs[j] ∧ VAt (Fresh w w2) w2 n ks[j] vs[j] := fun j hj hj' => by
      have hx := ((unhide HEL) j hj hj').2.2
      exact ⟨hcell2 j hj', (hx.keep fun b hb => hb2.block b hb.2).mono fun b hb => ⟨hb.1, Nat.lt_of_lt_of_le hb.2 hb2.size⟩⟩
    have HK2 := hide hK2
    have hct2 := hide ((unhide HCT).below hb2)
    have h1s := hb1.size
    clear hcell2 hK2 HEL hpo
    go_wp2_with fail
    go_loopw [8] (fun iv wr => ∃ y : Nat, (y + 1 ≤ p ∨ y = 0) ∧ iv = .int .i64 ((y : Int) + 1) ∧ Below w2.heap.size w2 wr ∧ Hid (∀ i (h : 2 * i + 2 < ks.length), i < y → cmpT n n ks[2 * i] ks[2 * i + 2] < 0)) (fun iv _ => p - (intOf iv).toNat)
    case atStart =>
      exact ⟨0, .inr rfl, rfl, Below.refl _ _, hide fun i _ h => absurd h (by omega)⟩
    case round =>
      obtain ⟨y, hy, rfl, hbr, HR⟩ := hrel
      by_cases hlt : y + 1 < p
      · have hI1 : 2 * y < ks.length := by have := unhide HP; omega
        have hI2 : 2 * y + 2 < ks.length := by have := unhide HP; omega
        obtain ⟨c1, v1⟩ := (unhide HK2) (2 * y) hI1 (by have := unhide HVS; omega)
        obtain ⟨c2, v2⟩ := (unhide HK2) (2 * y + 2) hI2 (by have := unhide HVS; omega)
        obtain ⟨u1, x1, e1⟩ := v1.shape
        obtain ⟨u2, x2, e2⟩ := v2.shape
        rw [e1] at c1 v1
        rw [e2] at c2 v2
        have r1 := (unhide HOK).1 _ (List.getElem_mem (l := ks) (n := 2 * y) hI1)
        have r2 := (unhide HOK).1 _ (List.getElem_mem (l := ks) (n := 2 * y + 2) hI2)
        have F1 : ∀ x : LaterW w2.heap.size wr, x.wd.cell? ⟨w1.heap.size, y * 2, none⟩ = some (.iface u1 x1) := fun x => by
          rw [World.cell?_of_block ((hbr.trans x.be).block _ hsz2), Nat.mul_comm]; exact c1
        have F2 : ∀ x : LaterW w2.heap.size wr, x.wd.cell? ⟨w1.heap.size, (y + 1) * 2, none⟩ = some (.iface u2 x2) := fun x => by
          rw [World.cell?_of_block ((hbr.trans x.be).block _ hsz2), show (y + 1) * 2 = 2 * y + 2 from by omega]; exact c2
        have O : ∀ x : LaterW w2.heap.size wr, Calls Tryz.prog 120 #[.iface u1 x1, .iface u2 x2] x.wd fun e w' => e = .returned (.int .i64 (cmpT n n ks[2 * y] ks[2 * y + 2])) ∧ Below x.wd.heap.size x.wd w' := fun x =>
          ord_any n n _ _ _ _ x.wd (VAt.up ((hbr.trans x.be).mono (Nat.le_refl _)) (v1.mono fun b hb => hb.2)) (VAt.up ((hbr.trans x.be).mono (Nat.le_refl _)) (v2.mono fun b hb => hb.2)) r1 r2
        have w0 : IntKind.i64.wrap ((y : Int) + 1 - 1) = (y : Int) := by simp [IntKind.wrap, IntKind.bits, IntKind.signed]; omega
        have hO := hide O
        clear c1 c2 v1 v2 e1 e2 O
        obtain ⟨z, hz⟩ : ∃ z, z = cmpT n n ks[2 * y] ks[2 * y + 2] := ⟨_, rfl⟩
        rw [← hz] at hO
        have HZ := hide hz
        clear hz r1 r2
        go_wp2_with fail
        haveI hne : Nonempty (LaterW w2.heap.size wr) := ⟨⟨wr, Below.refl _ _⟩⟩
        refine wp_region_later w2.heap.size (by kernel_rfl) (by kernel_rfl) ?_
        repeat (go_big_quiet_step ((go_at_call 120; rename_i x; refine Calls.later (v := .int .i64 z) hbr.size ((unhide hO) x))))
        refine wpQuiet_nil ?_
        rintro _ ⟨⟨wq, hq⟩, rfl⟩
        clear F1 F2 hne
        by_cases hz : 0 ≤ z
        · go_wp2_with fail
          exact ⟨rfl, hbw.trans (But.below ((hbr.trans hq).mono (Nat.le_refl _))), .inr ⟨fun hr => by
            have h1 := risesB_true.1 hr.2 y hI2
            have := unhide HZ
            omega, rfl⟩⟩
        · go_wp2_with fail
          go_roundw
          case rel =>
            refine ⟨y + 1, by omega, by go_num, hbr.trans hq, hide fun i hi hiy => ?_⟩
            by_cases hiy2 : i < y
            · exact (unhide HR) i hi hiy2
            · have hie : i = y := by omega
              subst hie
              have := unhide HZ
              omega
          case measure => simp [intOf]; omega
      · go_wp2_with fail
        go_ret
        have hpe := unhide HP
        have hq : p = ks.length / 2 := by omega
        refine ⟨hbw.trans (But.below hbr), .inl ⟨⟨unhide HOK, risesB_true.2 fun i hi => (unhide HR) i hi (by omega)⟩, w1.heap.size, by rw [← hq]; rfl, h1s, fun i hi => ?_, ?_⟩⟩
        · have hj' : i < vs.length := by have := unhide HVS; omega
          obtain ⟨e1, e2⟩ := (unhide HK2) i hi hj'
          exact ⟨w1.heap.size, 0, vs[i], rfl, ⟨h1s, Nat.lt_of_lt_of_le hsz2 hbr.size⟩, by rw [World.cell?_of_block (hbr.block _ (by omega)), Nat.zero_add]; exact e1,
            (e2.keep fun b hb => hbr.block b hb.2).mono fun b hb => ⟨hb.1, Nat.lt_of_lt_of_le hb.2 hbr.size⟩⟩
        · exact (unhide hct2).below hbr
  · exact ⟨rfl, hb1, .inr ⟨fun hr => hno hr.1, rfl⟩⟩

end Go.Proofs.YthfjgffhncogaaaGreat
/- impl's way inward: goIn.value, and all of it. -/
namespace Go.Proofs.YthfjgffhncogaaaGreat
open Go.RowKit

theorem fit_kinds {k m : Int} {s : ByteArray} {l : Nat} (h : fitB k m s l = true) : k = 1 ∨ k = 2 ∨ k = 3 ∨ k = 4 ∨ k = 5 ∨ k = 6 ∨ k = 7 ∨ k = 8 ∨ k = 9 := by
  refine Decidable.byContradiction fun hn => ?_
  have := fit_else (i := m) (s := s) (l := l) (k := k) (by omega) (by omega) (by omega) (by omega) (by omega) (by omega) (by omega) (by omega) (by omega)
  rw [this] at h; cases h

theorem box_block (w : World) (g : Nat) (v : Value) (arr : Array Value) (e : TypeId) (hg : g < w.heap.size) :
    ((w.alloc (.cells arr e)).setCell ⟨g, 0, none⟩ v).heap[w.heap.size]? = some (.cells arr e (0, 0)) :=
  (Below.heap_setCell _ _ _ _ (by show w.heap.size ≠ g; omega)).trans (heap_new _ _)

theorem valOK_fit {n : Nat} {k m : Int} {s : ByteArray} {ks : List (Tm n)} {c d : Nat} (h : valOK (n + 1) (k, m, s, ks) c d) : c + 1 ≤ 2000 ∧ d ≤ 100 ∧ fitB k m s ks.length = true := by
  obtain ⟨h1, h2, h3⟩ := h
  have h2' : c + (1 + (ks.map (siz n)).sum) ≤ 2000 := h2
  have h3' : d + (1 + (ks.map (dep n)).foldl max 0) ≤ 101 := h3
  have h1' : (fitB k m s ks.length && ks.all (rightB n) && (if k = 7 then risesB (cmpT n n) ks else true)) = true := h1
  rw [Bool.and_eq_true, Bool.and_eq_true] at h1'
  exact ⟨by omega, by omega, h1'.1.1⟩
theorem valOK_row {n : Nat} {k m : Int} {s : ByteArray} {ks : List (Tm n)} {c d : Nat} (hf : fitB k m s ks.length = true) : valOK (n + 1) (k, m, s, ks) c d ↔ (rowOK ks (c + 1) (d + 1) ∧ (k = 7 → risesB (cmpT n n) ks = true)) := by
  have e1 : rightB (n + 1) (k, m, s, ks) = (fitB k m s ks.length && ks.all (rightB n) && (if k = 7 then risesB (cmpT n n) ks else true)) := rfl
  have e2 : siz (n + 1) (k, m, s, ks) = 1 + sizS ks := rfl
  have e3 : dep (n + 1) (k, m, s, ks) = 1 + depS ks := rfl
  unfold valOK rowOK
  rw [e1, e2, e3, hf, Bool.true_and, Bool.and_eq_true, List.all_eq_true]
  constructor
  · rintro ⟨⟨h1, h2⟩, h3, h4⟩
    refine ⟨⟨h1, by omega, by omega⟩, fun hk => ?_⟩
    rwa [if_pos hk] at h2
  · rintro ⟨⟨h1, h3, h4⟩, h2⟩
    refine ⟨⟨h1, ?_⟩, by omega, by omega⟩
    split
    · next hk => exact h2 hk
    · rfl

theorem rowOK_nil {n : Nat} {ks : List (Tm n)} (hl : ks.length = 0) {c d : Nat} (hc : c ≤ 2000) (hd : d ≤ 101) : rowOK ks c d := by
  have : ks = [] := List.eq_nil_of_length_eq_zero hl
  subst this
  exact ⟨fun t ht => absurd ht (by simp), by simp [sizS]; omega, by simp [depS]; omega⟩
theorem leaf_end {n : Nat} {k m : Int} {s : ByteArray} {ks : List (Tm n)} {g c d : Nat} {w w' : World} {v : Value} (hf : fitB k m s ks.length = true) (hl : ks.length = 0) (hk : k ≠ 7) (hp : c + 1 ≤ 2000 ∧ d ≤ 100)
    (hb : But g w w') (hct : Ctr g (c + 1) w') (hm : In64 m) (hs : s.size ≤ 2 ^ 47)
    (hv : (k = 1 ∧ v = .iface 101 (.int .i64 m)) ∨ (k = 2 ∧ v = .iface 100 (.string s)) ∨ (k = 3 ∧ v = .iface 102 (.int .i64 m)) ∨
     (k = 5 ∧ v = .iface 103 (.int .i64 m)) ∨ (k = 9 ∧ v = .iface 116 (.string s))) : ValEnd (n + 1) (k, m, s, ks) g c d w (.returned v) w' := by
  refine ⟨hb, .inl ⟨(valOK_row hf).2 ⟨rowOK_nil hl hp.1 (by omega), fun h => absurd h hk⟩, v, rfl, ⟨hm, hs, ?_⟩, ?_⟩⟩
  · rcases hv with h | h | h | h | h
    · exact .inl h
    · exact .inr (.inl h)
    · exact .inr (.inr (.inl h))
    · exact .inr (.inr (.inr (.inl h)))
    · exact .inr (.inr (.inr (.inr (.inl h))))
  · have : ks = [] := List.eq_nil_of_length_eq_zero hl
    subst this
    exact hct
theorem kids_end {n : Nat} {k m : Int} {s : ByteArray} {ks : List (Tm n)} {g c d : Nat} {w w2 w' : World} {v : Value} (hf : fitB k m s ks.length = true) (hok : rowOK ks (c + 1) (d + 1)) (hr : k = 7 → risesB (cmpT n n) ks = true)
    (hb : But g w w2) (hb' : But g w2 w') {R cap : Nat} (hK : KAt (Fresh w2 w') w' (VAt (Fresh w2 w') w' n) ks (some ⟨R, 0, none⟩)) (hcap : ks.length / 2 ≤ cap) (hcap2 : cap ≤ 2 ^ 47) (hct : Ctr g (c + 1 + sizS ks) w') (hm : In64 m) (hs : s.size ≤ 2 ^ 47)
    (hv : (k = 4 ∧ v = .iface 108 (.agg #[.int .i64 m, .slice (some ⟨R, 0, none⟩) ks.length cap])) ∨ (k = 6 ∧ v = .iface 111 (.slice (some ⟨R, 0, none⟩) ks.length cap)) ∨
        (k = 8 ∧ v = .iface 115 (.slice (some ⟨R, 0, none⟩) ks.length cap)) ∨ (k = 7 ∧ v = .iface 113 (.slice (some ⟨R, 0, none⟩) (ks.length / 2) cap))) :
    ValEnd (n + 1) (k, m, s, ks) g c d w (.returned v) w' := by
  refine ⟨hb.trans hb', .inl ⟨(valOK_row hf).2 ⟨hok, hr⟩, v, rfl, ⟨hm, hs, .inr (.inr (.inr (.inr (.inr ⟨some ⟨R, 0, none⟩, cap, ?_, hcap, hcap2, hv⟩))))⟩, ?_⟩⟩
  · exact hK.mono (fun b hb1 => ⟨Nat.le_trans hb.size hb1.1, hb1.2⟩) fun _ _ _ h => h.mono fun b hb1 => ⟨Nat.le_trans hb.size hb1.1, hb1.2⟩
  · have : siz (n + 1) (k, m, s, ks) = 1 + sizS ks := rfl
    rw [this, ← Nat.add_assoc]; exact hct
theorem kids_fault {n : Nat} {k m : Int} {s : ByteArray} {ks : List (Tm n)} {g c d : Nat} {w w2 w' : World} (hf : fitB k m s ks.length = true) (hb : But g w w2) (hb' : But g w2 w')
    (hno : ¬ (rowOK ks (c + 1) (d + 1) ∧ (k = 7 → risesB (cmpT n n) ks = true))) : ValEnd (n + 1) (k, m, s, ks) g c d w faultE w' :=
  ⟨hb.trans hb', .inr ⟨fun hv => hno ((valOK_row hf).1 hv), rfl⟩⟩
theorem fit_leaf {k m : Int} {s : ByteArray} {l : Nat} (h : fitB k m s l = true) (hk : k = 1 ∨ k = 2 ∨ k = 3 ∨ k = 5 ∨ k = 9) : l = 0 := by
  rcases hk with rfl | rfl | rfl | rfl | rfl <;> simp [fitB] at h <;> omega
theorem fit_even {m : Int} {s : ByteArray} {l : Nat} (h : fitB 7 m s l = true) : ∃ p, l = 2 * p := by
  simp [fitB] at h
  exact ⟨l / 2, by omega⟩

set_option maxRecDepth 40000 in
set_option maxHeartbeats 4000000 in
theorem val_of {n : Nat} (h : RowSaid n) : ValSaid (n + 1) := by
  rintro ⟨k, m, s, ks⟩ c0 c1 c2 c3 g c d w hc ⟨rfl, rfl, rfl, hk64, hm, hs, hS⟩ hc1 hd1 hd2
  have HS := hide hS
  obtain ⟨a, cap, rfl, hlen, hcap, hel⟩ := hS
  have hgl := hc.lt
  have HP := hide (fun x : Obj => passed_any g c d (w.alloc x) (hc.below ((Below.refl _ _).alloc (Nat.le_refl _) x)) hc1 (by omega))
  have HC := hide hc
  clear hel hc
  by_cases hpass : c + 1 ≤ 2000 ∧ d ≤ 100
  case neg =>
    have hb : (decide (2000 < c + 1) || decide (100 < d)) = true := by simp; omega
    go_enter Tryz.func63, Tryz.ntmps63
    go_wp2_with (go_at_call 65; refine ((unhide HP) _).mono ?_; rintro e w' ⟨rfl, rfl⟩; rw [hb])
    exact ⟨rfl, ((But.refl g w).set _ _).alloc _, .inr ⟨fun hv => hpass ⟨(valOK_fit hv).1, (valOK_fit hv).2.1⟩, rfl⟩⟩
  case pos =>
    have hb : (decide (2000 < c + 1) || decide (100 < d)) = false := by simp; omega
    by_cases hfit : fitB k m s ks.length = true
    case neg =>
      have hfit' : fitB k m s ks.length = false := by simpa using hfit
      go_enter Tryz.func63, Tryz.ntmps63
      go_wp2_with fail
      refine ((unhide HP) _).mono ?_
      rintro e w1 ⟨rfl, hw1⟩
      have HB : w1.heap[w.heap.size]? = some _ := hw1 ▸ box_block w g _ _ _ hgl
      have hbw : But g w w1 := hw1 ▸ ((But.refl g w).alloc _).set _ _
      have f0 := cell_of_heap HB 0
      have f1 := cell_of_heap HB 1
      have f2 := cell_of_heap HB 2
      have f3 := cell_of_heap HB 3
      simp at f0 f1 f2 f3
      clear hw1 HB
      rw [hb]
      go_wp2_with fail
      refine (fieldsFit_any k m s a ks.length cap w1 hs hlen hcap).mono ?_
      rintro e w2 ⟨rfl, hb2⟩
      rw [hfit']
      go_wp2_with fail
      exact ⟨rfl, hbw.trans (But.below hb2), .inr ⟨fun hv => hfit (valOK_fit hv).2.2, rfl⟩⟩
    case pos =>
      have hk := fit_kinds hfit
      go_enter Tryz.func63, Tryz.ntmps63
      go_wp2_with fail
      refine ((unhide HP) _).mono ?_
      rintro e w1 ⟨rfl, hw1⟩
      have HB : w1.heap[w.heap.size]? = some _ := hw1 ▸ box_block w g _ _ _ hgl
      have hbw : But g w w1 := hw1 ▸ ((But.refl g w).alloc _).set _ _
      have f0 := cell_of_heap HB 0
      have f1 := cell_of_heap HB 1
      have f2 := cell_of_heap HB 2
      have f3 := cell_of_heap HB 3
      simp at f0 f1 f2 f3
      have hlt : w.heap.size < w1.heap.size := by rw [hw1]; simp
      have HCT := hide (hw1 ▸ ((unhide HC).below ((Below.refl _ _).alloc (Nat.le_refl _) _)).set (c + 1) : Ctr g (c + 1) w1)
      clear hw1 HB
      rw [hb]
      go_wp2_with fail
      refine (fieldsFit_any k m s a ks.length cap w1 hs hlen hcap).mono ?_
      rintro e w2 ⟨rfl, hb2⟩
      rw [hfit]
      have F0 := (World.cell?_of_block (hb2.block _ hlt) : w2.cell? ⟨w.heap.size, 0, none⟩ = _).trans f0
      have F1 := (World.cell?_of_block (hb2.block _ hlt) : w2.cell? ⟨w.heap.size, 1, none⟩ = _).trans f1
      have F2 := (World.cell?_of_block (hb2.block _ hlt) : w2.cell? ⟨w.heap.size, 2, none⟩ = _).trans f2
      have F3 := (World.cell?_of_block (hb2.block _ hlt) : w2.cell? ⟨w.heap.size, 3, none⟩ = _).trans f3
      clear f0 f1 f2 f3
      have hbw2 := hbw.trans (But.below hb2)
      have HCT2 := hide ((unhide HCT).below hb2)
      have HF := hide hfit
      clear hfit hb
      have hW := hide ((unhide HS).but hbw2)
      have hcast : ((d + 1 : Nat) : Int) = (d : Int) + 1 := by omega
      have hrow := h ks _ g (c + 1) (d + 1) w2 (unhide HCT2) (unhide hW) hpass.1 (by omega) (by omega)
      rw [hcast] at hrow
      have HROW := hide hrow
      clear hrow
      rcases hk with rfl | rfl | rfl | rfl | rfl | rfl | rfl | rfl | rfl
      · have hl := fit_leaf (unhide HF) (by simp)
        go_wp2_with fail
        go_ret
        exact leaf_end (unhide HF) hl (by decide) hpass hbw2 (unhide HCT2) hm hs (by simp)
      · have hl := fit_leaf (unhide HF) (by simp)
        go_wp2_with fail
        go_ret
        exact leaf_end (unhide HF) hl (by decide) hpass hbw2 (unhide HCT2) hm hs (by simp)
      · have hl := fit_leaf (unhide HF) (by simp)
        go_wp2_with fail
        go_ret
        exact leaf_end (unhide HF) hl (by decide) hpass hbw2 (unhide HCT2) hm hs (by simp)
      · go_wp2_with fail
        have hbd : But g w w2.drew := ⟨hbw2.os, hbw2.tape, hbw2.output, hbw2.size, hbw2.block⟩
        have hctd : Ctr g (c + 1) w2.drew := unhide HCT2
        have hrd := h ks _ g (c + 1) (d + 1) w2.drew hctd ((unhide HS).but hbd) hpass.1 (by omega) (by omega)
        rw [hcast] at hrd
        have HRD := hide hrd
        have hsz : w.heap.size < w2.heap.size := Nat.lt_of_lt_of_le hlt hb2.size
        have hgB : w.heap.size ≠ g := by omega
        have w0 : IntKind.i64.wrap ((d : Int) + 1) = (d : Int) + 1 := by simp [IntKind.wrap, IntKind.bits, IntKind.signed]; omega
        clear hrd hctd
        go_region_with (go_at_call 97; refine (unhide HRD).mono ?_; rintro e w3 ⟨hb3, ⟨hok, R, cap3, rfl, hR, hcap3, hcap4, hK, hct3⟩ | ⟨hno, rfl⟩⟩; rotate_left; exact ⟨rfl, kids_fault (unhide HF) hbd hb3 fun h => hno h.1⟩; have HOK := hide hok; have HK := hide hK; have HCT3 := hide hct3; have G1 := (World.cell?_of_block (hb3.block _ hsz hgB) : w3.cell? ⟨w.heap.size, 1, none⟩ = _).trans F1; clear hok hK hct3)
        all_goals
          go_wp2_with fail
          go_ret
          exact kids_end (cap := cap3) (unhide HF) (unhide HOK) (fun h => absurd h (by decide)) hbd hb3 (unhide HK) (by omega) (by omega) (unhide HCT3) hm hs (.inl ⟨rfl, rfl⟩)
      · have hl := fit_leaf (unhide HF) (by simp)
        go_wp2_with fail
        go_ret
        exact leaf_end (unhide HF) hl (by decide) hpass hbw2 (unhide HCT2) hm hs (by simp)
      · go_wp2_with fail
        refine (unhide HROW).mono ?_
        rintro e w3 ⟨hb3, ⟨hok, R, cap3, rfl, hR, hcap3, hcap4, hK, hct3⟩ | ⟨hno, rfl⟩⟩
        · have HOK := hide hok
          have HK := hide hK
          have HCT3 := hide hct3
          clear hok hK hct3
          go_wp2_with fail
          go_ret
          exact kids_end (cap := cap3) (unhide HF) (unhide HOK) (fun h => absurd h (by decide)) hbw2 hb3 (unhide HK) (by omega) (by omega) (unhide HCT3) hm hs (by simp)
        · exact ⟨rfl, kids_fault (unhide HF) hbw2 hb3 fun h => hno h.1⟩
      · obtain ⟨p, hp⟩ := fit_even (unhide HF)
        have hrise := rising_of h ks _ p g (c + 1) (d + 1) w2 hp (unhide HCT2) (unhide hW) hpass.1 (by omega) (by omega)
        rw [hcast] at hrise
        have HRISE := hide hrise
        clear hrise hp
        go_wp2_with fail
        refine (unhide HRISE).mono ?_
        rintro e w3 ⟨hb3, ⟨hok, R, rfl, hR, hK, hct3⟩ | ⟨hno, rfl⟩⟩
        · have HOK := hide hok
          have HK := hide hK
          have HCT3 := hide hct3
          clear hok hK hct3
          go_wp2_with fail
          go_ret
          exact kids_end (unhide HF) (unhide HOK).1 (fun _ => (unhide HOK).2) hbw2 hb3 (unhide HK) (Nat.le_refl _) (by omega) (unhide HCT3) hm hs (by simp)
        · exact ⟨rfl, kids_fault (unhide HF) hbw2 hb3 fun h => hno ⟨h.1, h.2 rfl⟩⟩
      · go_wp2_with fail
        refine (unhide HROW).mono ?_
        rintro e w3 ⟨hb3, ⟨hok, R, cap3, rfl, hR, hcap3, hcap4, hK, hct3⟩ | ⟨hno, rfl⟩⟩
        · have HOK := hide hok
          have HK := hide hK
          have HCT3 := hide hct3
          clear hok hK hct3
          go_wp2_with fail
          go_ret
          exact kids_end (cap := cap3) (unhide HF) (unhide HOK) (fun h => absurd h (by decide)) hbw2 hb3 (unhide HK) (by omega) (by omega) (unhide HCT3) hm hs (by simp)
        · exact ⟨rfl, kids_fault (unhide HF) hbw2 hb3 fun h => hno h.1⟩
      · have hl := fit_leaf (unhide HF) (by simp)
        go_wp2_with fail
        go_ret
        exact leaf_end (unhide HF) hl (by decide) hpass hbw2 (unhide HCT2) hm hs (by simp)

theorem val_any : ∀ n, ValSaid n
  | 0 => fun t => t.elim
  | n + 1 => val_of (row_of (val_any n))

end Go.Proofs.YthfjgffhncogaaaGreat
