/- impl's way inward: goIn.rising, the pairs of a map whose keys must rise. -/
import Derived.Test.YthikciimaegphaaGreatDoorQ19
namespace Go.Proofs.YthikciimaegphaaGreatDoor
open Go.RowKit

/-- From count c on, at depth d, a map's row is taken. -/
def riseOK {n : Nat} (ks : List (Tm n)) (c d : Nat) : Prop := rowOK ks c d ∧ risesB (cmpT n n) ks = true
def RiseEnd {n : Nat} (ks : List (Tm n)) (g c d : Nat) (w : World) (e : Ending) (w' : World) : Prop :=
  But g w w' ∧ ((riseOK ks c d ∧ ∃ R, e = .returned (.slice (some ⟨R, 0, none⟩) (ks.length / 2) (ks.length / 2)) ∧ w.heap.size ≤ R ∧ KAt (Fresh w w') w' (VAt (Fresh w w') w' n) ks (some ⟨R, 0, none⟩) ∧ Ctr g (c + sizS ks) w') ∨
    (¬ riseOK ks c d ∧ e = faultE))

theorem KAt.list {α : Type} {S : Nat → Prop} {w : World} {R : α → Value → Prop} {ks : List α} {r : Nat} (h : KAt S w R ks (some ⟨r, 0, none⟩)) :
    ∃ vs : List Value, vs.length = ks.length ∧ ∀ j (hj : j < ks.length) (hj' : j < vs.length), S r ∧ w.cell? ⟨r, j, none⟩ = some vs[j] ∧ R ks[j] vs[j] := by
  have hx : ∀ j : Fin ks.length, ∃ v, S r ∧ w.cell? ⟨r, j.1, none⟩ = some v ∧ R (ks[j.1]'j.2) v := fun ⟨j, hj⟩ => by
    obtain ⟨b, off, v, e, hS, hc, hR⟩ := h j hj
    cases e
    exact ⟨v, hS, by simpa using hc, hR⟩
  refine ⟨List.ofFn fun j => (hx j).choose, by simp, fun j hj hj' => ?_⟩
  have := (hx ⟨j, hj⟩).choose_spec
  simpa using this

set_option maxRecDepth 40000 in
set_option maxHeartbeats 4000000 in
theorem rising_of {n : Nat} (h : RowSaid n) (ks : List (Tm n)) (v : Value) (p g c d : Nat) (w : World) (hp : ks.length = 2 * p) (hc : Ctr g c w) (hv : SAt (Inp w g) w (TAt (Inp w g) w n) ks v) (hc1 : c ≤ 2000) (hd1 : 1 ≤ d) (hd2 : d ≤ 101) :
    Calls Tryz.prog 86 #[.pointer (some ⟨g, 0, none⟩), v, .int .i64 d] w fun e w' => RiseEnd ks g c d w e w' := by
  have hcc := hide (h ks v g c d w hc hv hc1 hd1 hd2)
  have hgl := hc.lt
  obtain ⟨a, cap, rfl, hlen, hcap, hel⟩ := hv
  clear hel
  have HP := hide hp
  clear hp
  go_enter Tryz.func86, Tryz.ntmps86
  go_wp2_with fail
  refine (unhide hcc).mono ?_
  rintro e w1 ⟨hb1, ⟨hok, R, cap1, rfl, hR, hcap1, hcap2, hK, hct⟩ | ⟨hno, rfl⟩⟩
  · obtain ⟨vs, hvs, hel⟩ := hK.list
    have hp1 : p ≤ 1000 := by
      have q1 := sizS_len ks ks.length (Nat.le_refl _)
      rw [List.take_length] at q1
      have := hok.2.1; have := unhide HP; omega
    have hpo := hide (pairsOf_any vs ks.length p R cap1 w1 hvs (unhide HP) hp1 hcap1 (fun hl => (hel 0 hl (by omega)).1.2) (fun j hj => (hel j (by omega) hj).2.1)
      (fun v hv => by
        obtain ⟨j, hj, rfl⟩ := List.getElem_of_mem hv
        exact (hel j (by omega) hj).2.2.shape))
    have HOK := hide hok
    have HEL := hide hel
    have HVS := hide hvs
    have HCT := hide hct
    clear hok hel hvs hK hcc hct
    go_wp2_with fail
    refine (unhide hpo).mono ?_
    rintro e w2 ⟨rfl, hsz2, hcell2, hb2⟩
    have hbw : But g w w2 := hb1.trans (But.below hb2)
    have hK2 : ∀ j (hj : j < ks.length) (hj' : j < vs.length), w2.cell? ⟨w1.heap.size, j, none⟩ = some vs[j] ∧ VAt (Fresh w w2) w2 n ks[j] vs[j] := fun j hj hj' => by
      have hx := ((unhide HEL) j hj hj').2.2
      exact ⟨hcell2 j hj', (hx.keep fun b hb => hb2.block b hb.2).mono fun b hb => ⟨hb.1, Nat.lt_of_lt_of_le hb.2 hb2.size⟩⟩
    have HK2 := hide hK2
    have hct2 := hide ((unhide HCT).below hb2)
    have h1s := hb1.size
    clear hcell2 hK2 HEL hpo
    go_wp2_with fail
    go_loopw [8] (fun iv wr => ∃ y : Nat, (y + 1 ≤ p ∨ y = 0) ∧ iv = .int .i64 ((y : Int) + 1) ∧ Below w2.heap.size w2 wr ∧ Hid (∀ i (h : 2 * i + 2 < ks.length), i < y → cmpT n n ks[2 * i] ks[2 * i + 2] < 0)) (fun iv _ => p - (intOf iv).toNat)
    case atStart =>
      exact ⟨0, .inr rfl, rfl, Below.refl _ _, hide fun i _ h => absurd h (by omega)⟩
    case round =>
      obtain ⟨y, hy, rfl, hbr, HR⟩ := hrel
      by_cases hlt : y + 1 < p
      · have hI1 : 2 * y < ks.length := by have := unhide HP; omega
        have hI2 : 2 * y + 2 < ks.length := by have := unhide HP; omega
        obtain ⟨c1, v1⟩ := (unhide HK2) (2 * y) hI1 (by have := unhide HVS; omega)
        obtain ⟨c2, v2⟩ := (unhide HK2) (2 * y + 2) hI2 (by have := unhide HVS; omega)
        obtain ⟨u1, x1, e1⟩ := v1.shape
        obtain ⟨u2, x2, e2⟩ := v2.shape
        rw [e1] at c1 v1
        rw [e2] at c2 v2
        have r1 := (unhide HOK).1 _ (List.getElem_mem (l := ks) (n := 2 * y) hI1)
        have r2 := (unhide HOK).1 _ (List.getElem_mem (l := ks) (n := 2 * y + 2) hI2)
        have F1 : ∀ x : LaterW w2.heap.size wr, x.wd.cell? ⟨w1.heap.size, y * 2, none⟩ = some (.iface u1 x1) := fun x => by
          rw [World.cell?_of_block ((hbr.trans x.be).block _ hsz2), Nat.mul_comm]; exact c1
        have F2 : ∀ x : LaterW w2.heap.size wr, x.wd.cell? ⟨w1.heap.size, (y + 1) * 2, none⟩ = some (.iface u2 x2) := fun x => by
          rw [World.cell?_of_block ((hbr.trans x.be).block _ hsz2), show (y + 1) * 2 = 2 * y + 2 from by omega]; exact c2
        have O : ∀ x : LaterW w2.heap.size wr, Calls Tryz.prog 89 #[.iface u1 x1, .iface u2 x2] x.wd fun e w' => e = .returned (.int .i64 (cmpT n n ks[2 * y] ks[2 * y + 2])) ∧ Below x.wd.heap.size x.wd w' := fun x =>
          ord_any n n _ _ _ _ x.wd (VAt.up ((hbr.trans x.be).mono (Nat.le_refl _)) (v1.mono fun b hb => hb.2)) (VAt.up ((hbr.trans x.be).mono (Nat.le_refl _)) (v2.mono fun b hb => hb.2)) r1 r2
        have w0 : IntKind.i64.wrap ((y : Int) + 1 - 1) = (y : Int) := by simp [IntKind.wrap, IntKind.bits, IntKind.signed]; omega
        have hO := hide O
        clear c1 c2 v1 v2 e1 e2 O
        obtain ⟨z, hz⟩ : ∃ z, z = cmpT n n ks[2 * y] ks[2 * y + 2] := ⟨_, rfl⟩
        rw [← hz] at hO
        have HZ := hide hz
        clear hz r1 r2
        go_wp2_with fail
        haveI hne : Nonempty (LaterW w2.heap.size wr) := ⟨⟨wr, Below.refl _ _⟩⟩
        refine wp_region_later w2.heap.size (by kernel_rfl) (by kernel_rfl) ?_
        repeat (go_big_quiet_step ((go_at_call 89; rename_i x; refine Calls.later (v := .int .i64 z) hbr.size ((unhide hO) x))))
        refine wpQuiet_nil ?_
        rintro _ ⟨⟨wq, hq⟩, rfl⟩
        clear F1 F2 hne
        by_cases hz : 0 ≤ z
        · go_wp2_with fail
          exact ⟨rfl, hbw.trans (But.below ((hbr.trans hq).mono (Nat.le_refl _))), .inr ⟨fun hr => by
            have h1 := risesB_true.1 hr.2 y hI2
            have := unhide HZ
            omega, rfl⟩⟩
        · go_wp2_with fail
          go_roundw
          case rel =>
            refine ⟨y + 1, by omega, by go_num, hbr.trans hq, hide fun i hi hiy => ?_⟩
            by_cases hiy2 : i < y
            · exact (unhide HR) i hi hiy2
            · have hie : i = y := by omega
              subst hie
              have := unhide HZ
              omega
          case measure => simp [intOf]; omega
      · go_wp2_with fail
        go_ret
        have hpe := unhide HP
        have hq : p = ks.length / 2 := by omega
        refine ⟨hbw.trans (But.below hbr), .inl ⟨⟨unhide HOK, risesB_true.2 fun i hi => (unhide HR) i hi (by omega)⟩, w1.heap.size, by rw [← hq]; rfl, h1s, fun i hi => ?_, ?_⟩⟩
        · have hj' : i < vs.length := by have := unhide HVS; omega
          obtain ⟨e1, e2⟩ := (unhide HK2) i hi hj'
          exact ⟨w1.heap.size, 0, vs[i], rfl, ⟨h1s, Nat.lt_of_lt_of_le hsz2 hbr.size⟩, by rw [World.cell?_of_block (hbr.block _ (by omega)), Nat.zero_add]; exact e1,
            (e2.keep fun b hb => hbr.block b hb.2).mono fun b hb => ⟨hb.1, Nat.lt_of_lt_of_le hb.2 hbr.size⟩⟩
        · exact (unhide hct2).below hbr
  · exact ⟨rfl, hb1, .inr ⟨fun hr => hno hr.1, rfl⟩⟩

end Go.Proofs.YthikciimaegphaaGreatDoor
