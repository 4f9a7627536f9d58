/- spec's l02DrawSeg, as a function of the code: its walk. -/
import Derived.Test.YtcgbonlffcpofaaGreatDoorQ34
import Derived.Deep.RegionWith
import Derived.Deep.DeepCutAuto
namespace Go.Proofs.YtcgbonlffcpofaaGreatDoor
open Go.RowKit Go.Deep

set_option maxRecDepth 100000 in
set_option maxHeartbeats 100000000 in
theorem segD_any (g N : Nat) (q : Src) (v : Value) (σ : Sig) (w : World) (hc : CurD g q v N σ w) (hN : N ≤ 1000000) :
    Calls Tryz.prog 26 #[.pointer (some ⟨g, 0, none⟩), .bool true] w fun e w' => SegEndD g q v N σ w e w' := by
  have hg := hc.lt
  obtain ⟨w0, hw0⟩ : ∃ w0, w0 = w.alloc (.cells #[.int .i64 0, .int .i64 0, .int .i64 0, .bool false, .bool false, .int .i64 0, .int .i64 0, .string ⟨#[]⟩, .slice none 0 0] 34) := ⟨_, rfl⟩
  have hS0 : StG g q v N σ w w0 := by
    rw [hw0]
    refine ⟨hc.alloc _, (Kept.refl g w).alloc _, ?_, hg⟩
    exact Row.new (e := 34) w zero9
  have HS0 := hide hS0
  have HN := hide hN
  have hgl := hS0.lt
  have HGL := hide hgl
  have HW0 := hide hw0
  clear hc hS0 hN hw0
  go_enter Tryz.func26, Tryz.ntmps26
  go_upto_region 1 with fail
  rw [← unhide HW0]
  have HZ : Hid (w0.heap.size = w.heap.size + 1) := hide (by rw [unhide HW0]; simp)
  go_cut [5] (fun s5 wc => ∃ (a b c : Nat) (m : Int) (σ1 σ2 σ3 : Sig) (B : Nat), s5 = .pointer (some ⟨B, 0, none⟩) ∧ pickF q 10 σ = (a, σ1) ∧ pickF q 3 σ1 = (b, σ2) ∧ pickF q 3 σ2 = (c, σ3) ∧ intV sz10[a]? = m ∧
    BoxG g q v (N + 2 + 2 + 2) σ3 w B wc ((1, m, 1, (b : Int) == 0, (c : Int) == 0, tZ) : SgT 2) 0 0 ⟨#[]⟩ (.slice none 0 0))
  case first =>
    have hlit : ∀ a : Nat, (a : Int) < 10 → ∃ n : Int, (#[.int .i64 1, .int .i64 3, .int .i64 4, .int .i64 8, .int .i64 8, .int .i64 12, .int .i64 16, .int .i64 0, .int .i64 49, .int .i64 7] : Array Value)[a]? = some (.int .i64 n) ∧ intV sz10[a]? = n ∧ In64 n := fun a ha => by
      have hx : ∀ a : Fin 10, ∃ n : Int, (#[.int .i64 1, .int .i64 3, .int .i64 4, .int .i64 8, .int .i64 8, .int .i64 12, .int .i64 16, .int .i64 0, .int .i64 49, .int .i64 7] : Array Value)[a.1]? = some (.int .i64 n) ∧ intV sz10[a.1]? = n ∧ 0 ≤ n ∧ n ≤ 49 := by
        intro a
        match a with
        | 0 => exact ⟨1, rfl, rfl, by omega⟩
        | 1 => exact ⟨3, rfl, rfl, by omega⟩
        | 2 => exact ⟨4, rfl, rfl, by omega⟩
        | 3 => exact ⟨8, rfl, rfl, by omega⟩
        | 4 => exact ⟨8, rfl, rfl, by omega⟩
        | 5 => exact ⟨12, rfl, rfl, by omega⟩
        | 6 => exact ⟨16, rfl, rfl, by omega⟩
        | 7 => exact ⟨0, rfl, rfl, by omega⟩
        | 8 => exact ⟨49, rfl, rfl, by omega⟩
        | 9 => exact ⟨7, rfl, rfl, by omega⟩
      obtain ⟨n, h1, h2, h3, h4⟩ := hx ⟨a, by omega⟩
      exact ⟨n, h1, h2, by omega, by omega⟩
    have HLIT := hide hlit
    clear hlit
    go_region_with (first
        | (go_at_call 27; have hprobe := HS2; clear hprobe; refine (stG_pick (M := N + 2 + 2) (g := g) (q := q) (v := v) (σ := σ2) (w := w) (by first | with_reducible exact (unhide HS2) | with_reducible exact ((unhide HS2).alloc _) | with_reducible exact (((unhide HS2).alloc _).alloc _)) 3 (by have := unhide HN; omega) (by omega) (by omega)).mono ?_; rintro e w3 ⟨c, σ3, hp3, rfl, hc, hs3, hk3⟩; have HP3 := hide hp3; have hj3 : Kept g w2 w3 := (by with_reducible first | exact hk3 | exact ((Kept.refl g w2).alloc _).trans hk3 | exact (((Kept.refl g w2).alloc _).alloc _).trans hk3); have Z3 := hide hj3.size; (first | (have hl3 := hj3.lit hl2 (by have := unhide Z1; have := unhide Z2; have := unhide Z3; omega)) | (with_reducible have hq := lb1 (W := w2) (arr := #[.int .i64 1, .int .i64 3, .int .i64 4, .int .i64 8, .int .i64 8, .int .i64 12, .int .i64 16, .int .i64 0, .int .i64 49, .int .i64 7]) (e := 3) (unhide HS2).lt hk3 a; have hl3 := hq.trans hn1; clear hq) | (with_reducible have hq := lb2 (W := w2) (arr := #[.int .i64 1, .int .i64 3, .int .i64 4, .int .i64 8, .int .i64 8, .int .i64 12, .int .i64 16, .int .i64 0, .int .i64 49, .int .i64 7]) (e := 3) (unhide HS2).lt hk3 a; have hl3 := hq.trans hn1; clear hq) | (with_reducible have hq := lb3 (W := w2) (arr := #[.int .i64 1, .int .i64 3, .int .i64 4, .int .i64 8, .int .i64 8, .int .i64 12, .int .i64 16, .int .i64 0, .int .i64 49, .int .i64 7]) (e := 3) (unhide HS2).lt hk3 a; have hl3 := hq.trans hn1; clear hq) | skip); (first | (have hl3a := fun o : Obj => (World.cell?_of_block (w := w3) (Below.heap_alloc w3 o _ (World.block_lt_of_cell? _ _ hl3))).trans hl3) | skip); (first | (have HB3 := hide ((unhide HB2).keep (hj3.block _ (unhide HB2).lt (by have := unhide HA2; have := unhide Z1; have := unhide Z2; have := unhide Z3; omega))); have HA3 := HA2) | (with_reducible have hq := bx1 (W := w2) (unhide HS2).lt hk3; have HB3 := hide hq; clear hq; have HA3 : Hid (w.heap.size + 1 ≤ w2.heap.size) := hide (by have := unhide HZ; have := unhide Z1; have := unhide Z2; have := unhide Z3; omega)) | (with_reducible have hq := bx2 (W := w2) (unhide HS2).lt hk3; have HB3 := hide hq; clear hq; have HA3 : Hid (w.heap.size + 1 ≤ w2.heap.size) := hide (by have := unhide HZ; have := unhide Z1; have := unhide Z2; have := unhide Z3; omega)) | (with_reducible have hq := bx3 (W := w2) (unhide HS2).lt hk3; have HB3 := hide hq; clear hq; have HA3 : Hid (w.heap.size + 1 ≤ w2.heap.size + 1) := hide (by have := unhide HZ; have := unhide Z1; have := unhide Z2; have := unhide Z3; omega)) | skip); (first | (have hprobe := HB3; clear hprobe; obtain ⟨⟨v0, v1, v2, v3, v4, v5, v6, v7, v8⟩, vz⟩ := box_open (unhide HB3); obtain ⟨y0, y1, y2, y3, y4, y5, y6, y7, y8, yz⟩ := box_past (unhide HB3)) | skip); have HS3 := hide hs3; clear hs3 hk3 hj3 hp3)
        | (go_at_call 27; have hprobe := HS1; clear hprobe; refine (stG_pick (M := N + 2) (g := g) (q := q) (v := v) (σ := σ1) (w := w) (by first | with_reducible exact (unhide HS1) | with_reducible exact ((unhide HS1).alloc _) | with_reducible exact (((unhide HS1).alloc _).alloc _)) 3 (by have := unhide HN; omega) (by omega) (by omega)).mono ?_; rintro e w2 ⟨b, σ2, hp2, rfl, hb, hs2, hk2⟩; have HP2 := hide hp2; have hj2 : Kept g w1 w2 := (by with_reducible first | exact hk2 | exact ((Kept.refl g w1).alloc _).trans hk2 | exact (((Kept.refl g w1).alloc _).alloc _).trans hk2); have Z2 := hide hj2.size; (first | (have hl2 := hj2.lit hl1 (by have := unhide Z1; have := unhide Z2; omega)) | (with_reducible have hq := lb1 (W := w1) (arr := #[.int .i64 1, .int .i64 3, .int .i64 4, .int .i64 8, .int .i64 8, .int .i64 12, .int .i64 16, .int .i64 0, .int .i64 49, .int .i64 7]) (e := 3) (unhide HS1).lt hk2 a; have hl2 := hq.trans hn1; clear hq) | (with_reducible have hq := lb2 (W := w1) (arr := #[.int .i64 1, .int .i64 3, .int .i64 4, .int .i64 8, .int .i64 8, .int .i64 12, .int .i64 16, .int .i64 0, .int .i64 49, .int .i64 7]) (e := 3) (unhide HS1).lt hk2 a; have hl2 := hq.trans hn1; clear hq) | (with_reducible have hq := lb3 (W := w1) (arr := #[.int .i64 1, .int .i64 3, .int .i64 4, .int .i64 8, .int .i64 8, .int .i64 12, .int .i64 16, .int .i64 0, .int .i64 49, .int .i64 7]) (e := 3) (unhide HS1).lt hk2 a; have hl2 := hq.trans hn1; clear hq) | skip); (first | (have hl2a := fun o : Obj => (World.cell?_of_block (w := w2) (Below.heap_alloc w2 o _ (World.block_lt_of_cell? _ _ hl2))).trans hl2) | skip); (first | (have HB2 := hide ((unhide HB1).keep (hj2.block _ (unhide HB1).lt (by have := unhide HA1; have := unhide Z1; have := unhide Z2; omega))); have HA2 := HA1) | (with_reducible have hq := bx1 (W := w1) (unhide HS1).lt hk2; have HB2 := hide hq; clear hq; have HA2 : Hid (w.heap.size + 1 ≤ w1.heap.size) := hide (by have := unhide HZ; have := unhide Z1; have := unhide Z2; omega)) | (with_reducible have hq := bx2 (W := w1) (unhide HS1).lt hk2; have HB2 := hide hq; clear hq; have HA2 : Hid (w.heap.size + 1 ≤ w1.heap.size) := hide (by have := unhide HZ; have := unhide Z1; have := unhide Z2; omega)) | (with_reducible have hq := bx3 (W := w1) (unhide HS1).lt hk2; have HB2 := hide hq; clear hq; have HA2 : Hid (w.heap.size + 1 ≤ w1.heap.size + 1) := hide (by have := unhide HZ; have := unhide Z1; have := unhide Z2; omega)) | skip); have HS2 := hide hs2; clear hs2 hk2 hj2 hp2)
        | (go_at_call 27; refine (stG_pick (M := N) (g := g) (q := q) (v := v) (σ := σ) (w := w) (by first | with_reducible exact (unhide HS0).drew | with_reducible exact ((unhide HS0).alloc _).drew | with_reducible exact (((unhide HS0).alloc _).alloc _).drew) 10 (by have := unhide HN; omega) (by omega) (by omega)).mono ?_; rintro e w1 ⟨a, σ1, hp1, rfl, ha, hs1, hk1⟩; have HP1 := hide hp1; replace hk1 := hk1.undrew; have hj1 : Kept g w0 w1 := (by with_reducible first | exact hk1 | exact ((Kept.refl g w0).alloc _).trans hk1 | exact (((Kept.refl g w0).alloc _).alloc _).trans hk1); have Z1 := hide hj1.size; have ha : (a : Int) < 10 := (by omega); obtain ⟨n, hn1, hnv, hn2⟩ := unhide HLIT a ha; have HNV := hide hnv; have HN2 := hide hn2; clear hnv hn2; (first | (with_reducible have hq := lb1 (W := w0) (arr := #[.int .i64 1, .int .i64 3, .int .i64 4, .int .i64 8, .int .i64 8, .int .i64 12, .int .i64 16, .int .i64 0, .int .i64 49, .int .i64 7]) (e := 3) (unhide HS0).lt hk1 a; have hl1 := hq.trans hn1; clear hq) | (with_reducible have hq := lb2 (W := w0) (arr := #[.int .i64 1, .int .i64 3, .int .i64 4, .int .i64 8, .int .i64 8, .int .i64 12, .int .i64 16, .int .i64 0, .int .i64 49, .int .i64 7]) (e := 3) (unhide HS0).lt hk1 a; have hl1 := hq.trans hn1; clear hq) | (with_reducible have hq := lb3 (W := w0) (arr := #[.int .i64 1, .int .i64 3, .int .i64 4, .int .i64 8, .int .i64 8, .int .i64 12, .int .i64 16, .int .i64 0, .int .i64 49, .int .i64 7]) (e := 3) (unhide HS0).lt hk1 a; have hl1 := hq.trans hn1; clear hq) | skip); (first | (have hl1a := fun o : Obj => (World.cell?_of_block (w := w1) (Below.heap_alloc w1 o _ (World.block_lt_of_cell? _ _ hl1))).trans hl1) | skip); (first | (with_reducible have hq := bx1 (W := w0) (unhide HS0).lt hk1; have HB1 := hide hq; clear hq; have HA1 : Hid (w.heap.size + 1 ≤ w0.heap.size) := hide (by have := unhide HZ; have := unhide Z1; omega)) | (with_reducible have hq := bx2 (W := w0) (unhide HS0).lt hk1; have HB1 := hide hq; clear hq; have HA1 : Hid (w.heap.size + 1 ≤ w0.heap.size) := hide (by have := unhide HZ; have := unhide Z1; omega)) | (with_reducible have hq := bx3 (W := w0) (unhide HS0).lt hk1; have HB1 := hide hq; clear hq; have HA1 : Hid (w.heap.size + 1 ≤ w0.heap.size + 1) := hide (by have := unhide HZ; have := unhide Z1; omega)) | skip); have HS1 := hide hs1; clear hs1 hk1 hj1 hp1))
    all_goals
      go_wp2_with fail
      go_meet
      refine ⟨a, b, c, n, σ1, σ2, σ3, _, rfl, unhide HP1, unhide HP2, unhide HP3, unhide HNV, ?_⟩
      first
        | with_reducible exact box_made rfl (unhide HS3) (unhide HN2)
        | with_reducible exact (box_made rfl (unhide HS3) (unhide HN2)).past _
        | with_reducible exact box_made (World.size_alloc _ _).symm ((unhide HS3).alloc _) (unhide HN2)
        | exact box_early (unhide HS3) (unhide HB3) (unhide HA3) (unhide HN2)
        | exact box_early ((unhide HS3).alloc _) ((unhide HB3).past _) (unhide HA3) (unhide HN2)
  case rest =>
    obtain ⟨a, b, c, m, σ1, σ2, σ3, B, rfl, hp1, hp2, hp3, hm, hX⟩ := hcut
    rename World => w1
    have H1 := hide hX
    have HS1 := hide (fun (d : Nat) (σ4 : Sig) (hp4 : pickF q 300 σ3 = (d, σ4)) => s1_of hp1 hp2 hp3 hp4 hm)
    clear hX hp1 hp2 hp3 hm
    generalize ((b : Int) == 0) = b1 at H1 HS1
    generalize ((c : Int) == 0) = b2 at H1 HS1
    go_wp2_with fail
    refine (stG_pickW (unhide H1).st 300 (by have := unhide HN; omega) (by omega) (by omega)).mono ?_
    rintro e w2 ⟨d, σ4, hp4, rfl, hd, hs2, hk2⟩
    have H2 := hide ((unhide H1).go hs2 hk2)
    have HF1 := hide (unhide HS1 d σ4 hp4)
    clear hp4 hs2 hk2 HS1 H1
    have v1 : IntKind.i64.wrap ((d : Int) - 40) = (d : Int) - 40 := by rw [IntKind.wrap_i64]; omega
    go_wp2_with fail
    refine (mk_int ((d : Int) - 40) w2).mono ?_
    rintro e w3 ⟨rfl, hb3⟩
    have H3 := hide ((unhide H2).below hb3)
    clear hb3 H2
    obtain ⟨⟨c0, c1, c2, c3, c4, c5, c6, c7, c8⟩, z⟩ := (unhide H3).cells
    have z5 := z 5
    have z6 := z 6
    have z7 := z 7
    have z8 := z 8
    clear z
    obtain ⟨w4, hset⟩ : ∃ w4, w4 = setL w3 B 5 [.int .i64 1, .int .i64 ((d : Int) - 40), .string ⟨#[]⟩, .slice none 0 0] := ⟨_, rfl⟩
    have H4 : BoxG g q v (N + 2 + 2 + 2 + 2) σ4 w B w4 ((1, m, 1, b1, b2, tI ((d : Int) - 40)) : SgT 2) 1 ((d : Int) - 40) ⟨#[]⟩ (.slice none 0 0) := by
      rw [hset]
      exact (unhide H3).put (p' := ((1, m, 1, b1, b2, tI ((d : Int) - 40)) : SgT 2)) (by simp) put_tail (put_head _ _ _ _ _) (unhide H3).i1 (unhide H3).i2 (unhide H3).i3 (leaf2 _ _ (in64_by (by omega) (by omega)) (in64_by (by omega) (by omega)) (by decide))
    replace H4 := hide H4
    have hset' : w4 = (((w3.setCell ⟨B, 5, none⟩ (.int .i64 1)).setCell ⟨B, 6, none⟩ (.int .i64 ((d : Int) - 40))).setCell ⟨B, 7, none⟩ (.string ⟨#[]⟩)).setCell ⟨B, 8, none⟩ (.slice none 0 0) := hset
    have HSET := hide hset'
    clear hset hset' H3
    go_wp2_with fail
    rw [← unhide HSET]
    clear c0 c1 c2 c3 c4 c5 c6 c7 c8 z5 z6 z7 z8
    clear HSET
    generalize ((1, m, 1, b1, b2, tI ((d : Int) - 40)) : SgT 2) = p1 at H4 HF1
    refine (stG_pick (unhide H4).st 8 (by have := unhide HN; omega) (by omega) (by omega)).mono ?_
    rintro e w5 ⟨e1, σ5, hp5, rfl, he, hs5, hk5⟩
    have H5 := hide ((unhide H4).go hs5 hk5)
    have HP5 := hide hp5
    clear hp5 hs5 hk5 H4
    go_upto_if 26 with fail
    go_cut [] (fun wc => ∃ (p : SgT 2) (k m : Int) (s : ByteArray) (c : Value) (σ' : Sig), s2F q (s1F q σ) = (p, σ') ∧ BoxG g q v (N + 160) σ' w B wc p k m s c)
    case first =>
      by_cases he0 : e1 = 0
      · have hb : ((e1 : Int) == 0) = true := by simp [he0]
        have hd1 : N + 2 + 2 + 2 + 2 + 2 + cost 1 ≤ 1000000000 := by have := unhide HN; have : cost 1 = 140 := rfl; omega
        have HE := hide he0
        clear he0
        go_wp2_with fail
        refine (drawD_any 1 1 g q v _ σ5 w5 rfl (unhide H5).st.cur hd1).mono ?_
        rintro e w6 hde
        obtain ⟨t, tk, tm, ts, ta, tl, tc, σ6, hfa, rfl, ht, hc6, hk6⟩ := hde.opened
        have H6 := hide ((unhide H5).go ((unhide H5).st.go hk6 hc6) hk6)
        have ht6 : TAt (Sb w B w6) w6 2 t (.int .i64 tk) (.int .i64 tm) (.string ts) (.slice ta tl tc) := ht.mono fun b hb => ⟨by have := (unhide H5).st.room; have := hb.1; omega, hb.2, by have := (unhide H5).box.lt; have := hb.1; omega⟩
        have HT6 := hide ht6
        have HF2 := hide (s2_yes (unhide HF1) (unhide HP5) (unhide HE) hfa)
        clear hde ht hc6 hk6 ht6 hfa
        obtain ⟨⟨c0, c1, c2, c3, c4, c5, c6, c7, c8⟩, z⟩ := (unhide H6).cells
        have z5 := z 5
        have z6 := z 6
        have z7 := z 7
        have z8 := z 8
        clear z
        obtain ⟨w7, hset⟩ : ∃ w7, w7 = setL w6 B 5 [.int .i64 tk, .int .i64 tm, .string ts, .slice ta tl tc] := ⟨_, rfl⟩
        have H7 : BoxG g q v (N + 2 + 2 + 2 + 2 + 2 + cost 1) σ6 w B w7 (withV p1 t) tk tm ts (.slice ta tl tc) := by
          rw [hset]
          exact (unhide H6).put (p' := withV p1 t) (by simp) put_tail (put_head _ _ _ _ _) (unhide H6).i1 (unhide H6).i2 (unhide H6).i3 (unhide HT6)
        replace H7 := hide H7
        have hset' : w7 = (((w6.setCell ⟨B, 5, none⟩ (.int .i64 tk)).setCell ⟨B, 6, none⟩ (.int .i64 tm)).setCell ⟨B, 7, none⟩ (.string ts)).setCell ⟨B, 8, none⟩ (.slice ta tl tc) := hset
        have HSET := hide hset'
        clear hset hset' H6
        go_wp2_with fail
        rw [← unhide HSET]
        go_meet
        case rel => exact ⟨_, _, _, _, _, _, unhide HF2, (unhide H7).more (by have : cost 1 = 140 := rfl; omega)⟩
      · have hb : ((e1 : Int) == 0) = false := by simp [he0]
        go_wp2_with fail
        go_meet
        case rel => exact ⟨_, _, _, _, _, _, s2_no (unhide HF1) (unhide HP5) he0, (unhide H5).more (by omega)⟩
    case rest =>
      obtain ⟨p2, k2, m2, s2, x2, σ6, hf2, hX⟩ := hcut
      rename World => w6
      have H6 := hide hX
      have HF2 := hide hf2
      clear hX hf2 HF1 H5 HP5 he hd v1
      go_wp2_with fail
      refine (stG_pick (unhide H6).st 3 (by have := unhide HN; omega) (by omega) (by omega)).mono ?_
      rintro e w7 ⟨e2, σ7, hp7, rfl, he, hs7, hk7⟩
      have H7 := hide ((unhide H6).go hs7 hk7)
      have HP7 := hide hp7
      clear hp7 hs7 hk7 H6
      go_upto_if 32 with fail
      go_cut [] (fun wc => ∃ (p : SgT 2) (k m : Int) (s : ByteArray) (c : Value) (σ' : Sig), s3F q (s2F q (s1F q σ)) = (p, σ') ∧ BoxG g q v (N + 180) σ' w B wc p k m s c)
      case first =>
        by_cases he0 : e2 = 0
        · have hb : ((e2 : Int) == 0) = true := by simp [he0]
          have HE := hide he0
          clear he0
          go_wp2_with fail
          refine (stG_pick (unhide H7).st 4 (by have := unhide HN; omega) (by omega) (by omega)).mono ?_
          rintro e w8 ⟨a8, σ8, hp8, rfl, ha8, hs8, hk8⟩
          have H8 := hide ((unhide H7).go hs8 hk8)
          have HP8 := hide hp8
          clear hp8 hs8 hk8 H7
          go_wp2_with fail
          refine (stG_pick ((unhide H8).st.alloc _) 4 (by have := unhide HN; omega) (by omega) (by omega)).mono ?_
          rintro e w9 ⟨b9, σ9, hp9, rfl, hb9, hs9, hk9⟩
          have hb9 : (b9 : Int) < 4 := by omega
          obtain ⟨n9, hnv, hn1, hn2⟩ := lit_intD (r := b9) (unhide H8).st.lt hk9 rfl (by show b9 < 4; omega)
          have H9 := hide ((unhide H8).go hs9 (((Kept.refl g w8).alloc _).trans hk9))
          have HP9 := hide hp9
          have HN9 := hide hn2
          have HV9 := hide (show intV un4[b9]? = n9 from hnv)
          clear hp9 hs9 hk9 hn2 hnv H8
          obtain ⟨⟨c0, c1, c2, c3, c4, c5, c6, c7, c8⟩, z⟩ := (unhide H9).cells
          have z0 := z 0
          have z1 := z 1
          have z2 := z 2
          have z3 := z 3
          have z4 := z 4
          have z5 := z 5
          have z6 := z 6
          have z7 := z 7
          have z8 := z 8
          clear z
          obtain ⟨wa, hset⟩ : ∃ wa, wa = setL w9 B 0 [.int .i64 2, .int .i64 a8, .int .i64 n9, .bool false, .bool false, .int .i64 0, .int .i64 0, .string ⟨#[]⟩, .slice none 0 0] := ⟨_, rfl⟩
          have Ha : BoxG g q v (N + 160 + 2 + 2 + 2) σ9 w B wa ((2, (a8 : Int), n9, false, false, tZ) : SgT 2) 0 0 ⟨#[]⟩ (.slice none 0 0) := by
            rw [hset]
            exact (unhide H9).put (p' := ((2, (a8 : Int), n9, false, false, tZ) : SgT 2)) (by simp) (put_all (ds := []) rfl).1 (put_all rfl).2 (in64_by (by show (-9000000000000000000 : Int) ≤ 2; omega) (by show (2 : Int) ≤ 9000000000000000000; omega)) (in64_by (by show (-9000000000000000000 : Int) ≤ (a8 : Int); omega) (by show (a8 : Int) ≤ 9000000000000000000; omega)) (unhide HN9) (leaf2 _ _ (in64_by (by omega) (by omega)) (in64_by (by omega) (by omega)) (by decide))
          replace Ha := hide Ha
          have hset' : wa = ((((((((w9.setCell ⟨B, 0, none⟩ (.int .i64 2)).setCell ⟨B, 1, none⟩ (.int .i64 a8)).setCell ⟨B, 2, none⟩ (.int .i64 n9)).setCell ⟨B, 3, none⟩ (.bool false)).setCell ⟨B, 4, none⟩ (.bool false)).setCell ⟨B, 5, none⟩ (.int .i64 0)).setCell ⟨B, 6, none⟩ (.int .i64 0)).setCell ⟨B, 7, none⟩ (.string ⟨#[]⟩)).setCell ⟨B, 8, none⟩ (.slice none 0 0) := hset
          have HSET := hide hset'
          clear hset hset' H9
          go_wp2_with fail
          rw [← unhide HSET]
          clear hn1 c0 c1 c2 c3 c4 c5 c6 c7 c8 z0 z1 z2 z3 z4 z5 z6 z7 z8
          refine (stG_pick ((unhide Ha).st.alloc _) 4 (by have := unhide HN; omega) (by omega) (by omega)).mono ?_
          rintro e wb ⟨cb, σb, hpb, rfl, hcb, hsb, hkb⟩
          have hcb : (cb : Int) < 4 := by omega
          obtain ⟨sb, hsv, hn1, hn2⟩ := lit_strD (r := cb) (unhide Ha).st.lt hkb rfl (by show cb < 4; omega)
          have Hb := hide ((unhide Ha).go hsb (((Kept.refl g wa).alloc _).trans hkb))
          have HPb := hide hpb
          rw [show wa.heap.size = w9.heap.size from by rw [unhide HSET]; simp] at hn1
          have HNb := hide hn2
          have HVb := hide (show strV bin4[cb]? = sb from hsv)
          clear hpb hsb hkb hn2 hsv Ha HSET
          go_wp2_with fail
          refine (mk_bin sb wb).mono ?_
          rintro e wc ⟨rfl, hbc⟩
          have Hc := hide ((unhide Hb).below hbc)
          clear hbc Hb hn1
          obtain ⟨⟨c0, c1, c2, c3, c4, c5, c6, c7, c8⟩, z⟩ := (unhide Hc).cells
          have z5 := z 5
          have z6 := z 6
          have z7 := z 7
          have z8 := z 8
          clear z
          obtain ⟨wd, hset⟩ : ∃ wd, wd = setL wc B 5 [.int .i64 9, .int .i64 0, .string sb, .slice none 0 0] := ⟨_, rfl⟩
          have Hd : BoxG g q v (N + 160 + 2 + 2 + 2 + 2) σb w B wd ((2, (a8 : Int), n9, false, false, tB sb) : SgT 2) 9 0 sb (.slice none 0 0) := by
            rw [hset]
            exact (unhide Hc).put (p' := ((2, (a8 : Int), n9, false, false, tB sb) : SgT 2)) (by simp) put_tail (put_head _ _ _ _ _) (unhide Hc).i1 (unhide Hc).i2 (unhide Hc).i3 (leaf2 _ _ (in64_by (by omega) (by omega)) (in64_by (by omega) (by omega)) (by have := unhide HNb; omega))
          replace Hd := hide Hd
          have hset' : wd = (((wc.setCell ⟨B, 5, none⟩ (.int .i64 9)).setCell ⟨B, 6, none⟩ (.int .i64 0)).setCell ⟨B, 7, none⟩ (.string sb)).setCell ⟨B, 8, none⟩ (.slice none 0 0) := hset
          have HSET := hide hset'
          clear hset hset' Hc
          go_wp2_with fail
          rw [← unhide HSET]
          clear HSET c0 c1 c2 c3 c4 c5 c6 c7 c8 z5 z6 z7 z8
          refine (stG_pick (unhide Hd).st 3 (by have := unhide HN; omega) (by omega) (by omega)).mono ?_
          rintro e we ⟨de, σe, hpe, rfl, hde, hse, hke⟩
          have He := hide ((unhide Hd).go hse hke)
          have HF3 := hide (s3_yes (unhide HF2) (unhide HP7) (unhide HE) (unhide HP8) (unhide HP9) (unhide HV9) (unhide HPb) (unhide HVb) hpe)
          clear hpe hse hke Hd
          by_cases hd0 : de = 0
          · have hb : ((de : Int) == 0) = true := by simp [hd0]
            replace HF3 := unhide HF3
            rw [if_pos hd0] at HF3
            replace HF3 := hide HF3
            clear hd0
            obtain ⟨⟨c0, c1, c2, c3, c4, c5, c6, c7, c8⟩, z⟩ := (unhide He).cells
            have z1 := z 1
            clear z
            obtain ⟨wf, hset⟩ : ∃ wf, wf = setL we B 1 [.int .i64 (-1)] := ⟨_, rfl⟩
            have Hf : BoxG g q v (N + 160 + 2 + 2 + 2 + 2 + 2) σe w B wf ((2, -1, n9, false, false, tB sb) : SgT 2) 9 0 sb (.slice none 0 0) := by
              rw [hset]
              exact (unhide He).put (p' := ((2, -1, n9, false, false, tB sb) : SgT 2)) (by simp) put_1a put_1b (unhide He).i1 (in64_by (by show (-9000000000000000000 : Int) ≤ -1; omega) (by show (-1 : Int) ≤ 9000000000000000000; omega)) (unhide He).i3 (unhide He).val
            replace Hf := hide Hf
            have hset' : wf = we.setCell ⟨B, 1, none⟩ (.int .i64 (-1)) := hset
            have HSET := hide hset'
            clear hset hset' He
            go_wp2_with fail
            rw [← unhide HSET]
            go_meet
            case rel => exact ⟨_, _, _, _, _, _, unhide HF3, (unhide Hf).more (by omega)⟩
          · have hb : ((de : Int) == 0) = false := by simp [hd0]
            replace HF3 := unhide HF3
            rw [if_neg hd0] at HF3
            replace HF3 := hide HF3
            go_wp2_with fail
            go_meet
            case rel => exact ⟨_, _, _, _, _, _, unhide HF3, (unhide He).more (by omega)⟩
        · have hb : ((e2 : Int) == 0) = false := by simp [he0]
          go_wp2_with fail
          go_meet
          case rel => exact ⟨_, _, _, _, _, _, s3_no (unhide HF2) (unhide HP7) he0, (unhide H7).more (by omega)⟩
      case rest =>
        obtain ⟨p3, k3, m3, s3, x3, σ8, hf3, hX⟩ := hcut
        rename World => w8
        have H8 := hide hX
        have HF3 := hide hf3
        clear hX hf3 HF2 H7 HP7 he
        go_wp2_with fail
        refine (stG_pick (unhide H8).st 40 (by have := unhide HN; omega) (by omega) (by omega)).mono ?_
        rintro e w9 ⟨e3, σ9, hp9, rfl, he, hs9, hk9⟩
        have H9 := hide ((unhide H8).go hs9 hk9)
        have HP9 := hide hp9
        clear hp9 hs9 hk9 H8
        go_upto_if 55 with fail
        go_cut [] (fun wc => ∃ (p : SgT 2) (k m : Int) (s : ByteArray) (c : Value) (σ' : Sig), segF q σ = (p, σ') ∧ BoxG g q v (N + 200) σ' w B wc p k m s c)
        case first =>
          by_cases he0 : e3 = 0
          · have hb : ((e3 : Int) == 0) = true := by simp [he0]
            have HE := hide he0
            clear he0
            go_wp2_with fail
            refine (stG_pick (unhide H9).st 4 (by have := unhide HN; omega) (by omega) (by omega)).mono ?_
            rintro e wa ⟨xa, σa, hpa, rfl, hxa, hsa, hka⟩
            have Ha := hide ((unhide H9).go hsa hka)
            have HPa := hide hpa
            clear hpa hsa hka H9
            have hxa : (xa : Int) < 4 := by omega
            rcases (show xa = 0 ∨ xa = 1 ∨ xa = 2 ∨ xa = 3 by omega) with hx | hx | hx | hx
            · have y0 : ((xa : Int) == 0) = true := by simp [hx]
              have y1 : ((xa : Int) == 1) = false := by simp [hx]
              have HX := hide hx
              clear hx
              go_wp2_with fail
              refine (stG_pick ((unhide Ha).st.alloc _) 3 (by have := unhide HN; omega) (by omega) (by omega)).mono ?_
              rintro e wb ⟨bb, σb, hpb, rfl, hbb, hsb, hkb⟩
              have hbb : (bb : Int) < 3 := by omega
              obtain ⟨nb, hnv, hn1, hn2⟩ := lit_intD (r := bb) (unhide Ha).st.lt hkb rfl (by show bb < 3; omega)
              have Hb := hide ((unhide Ha).go hsb (((Kept.refl g wa).alloc _).trans hkb))
              have HNb := hide hn2
              have HF4 := hide (s4_unit (unhide HF3) (unhide HP9) (unhide HE) (unhide HPa) (unhide HX) hpb (show intV un3[bb]? = nb from hnv))
              clear hpb hsb hkb hn2 hnv Ha
              obtain ⟨⟨c0, c1, c2, c3, c4, c5, c6, c7, c8⟩, z⟩ := (unhide Hb).cells
              have z2 := z 2
              clear z
              obtain ⟨wc, hset⟩ : ∃ wc, wc = setL wb B 2 [.int .i64 nb] := ⟨_, rfl⟩
              have Hc : BoxG g q v (N + 180 + 2 + 2 + 2) σb w B wc ((p3.1, p3.2.1, nb, p3.2.2.2) : SgT 2) k3 m3 s3 x3 := by
                rw [hset]
                exact (unhide Hb).put (p' := ((p3.1, p3.2.1, nb, p3.2.2.2) : SgT 2)) (by simp) put_2a put_2b (unhide Hb).i1 (unhide Hb).i2 (unhide HNb) (unhide Hb).val
              replace Hc := hide Hc
              have hset' : wc = wb.setCell ⟨B, 2, none⟩ (.int .i64 nb) := hset
              have HSET := hide hset'
              clear hset hset' Hb
              go_wp2_with fail
              rw [← unhide HSET]
              go_meet
              case rel => exact ⟨_, _, _, _, _, _, unhide HF4, (unhide Hc).more (by omega)⟩
            · have y0 : ((xa : Int) == 0) = false := by simp [hx]
              have y1 : ((xa : Int) == 1) = true := by simp [hx]
              have HX := hide hx
              clear hx
              go_wp2_with fail
              refine (stG_pick ((unhide Ha).st.alloc _) 5 (by have := unhide HN; omega) (by omega) (by omega)).mono ?_
              rintro e wb ⟨bb, σb, hpb, rfl, hbb, hsb, hkb⟩
              have hbb : (bb : Int) < 5 := by omega
              obtain ⟨nb, hnv, hn1, hn2⟩ := lit_intD (r := bb) (unhide Ha).st.lt hkb rfl (by show bb < 5; omega)
              have Hb := hide ((unhide Ha).go hsb (((Kept.refl g wa).alloc _).trans hkb))
              have HNb := hide hn2
              have HF4 := hide (s4_size (unhide HF3) (unhide HP9) (unhide HE) (unhide HPa) (unhide HX) hpb (show intV sz5[bb]? = nb from hnv))
              clear hpb hsb hkb hn2 hnv Ha
              obtain ⟨⟨c0, c1, c2, c3, c4, c5, c6, c7, c8⟩, z⟩ := (unhide Hb).cells
              have z1 := z 1
              clear z
              obtain ⟨wc, hset⟩ : ∃ wc, wc = setL wb B 1 [.int .i64 nb] := ⟨_, rfl⟩
              have Hc : BoxG g q v (N + 180 + 2 + 2 + 2) σb w B wc ((p3.1, nb, p3.2.2) : SgT 2) k3 m3 s3 x3 := by
                rw [hset]
                exact (unhide Hb).put (p' := ((p3.1, nb, p3.2.2) : SgT 2)) (by simp) put_1a put_1b (unhide Hb).i1 (unhide HNb) (unhide Hb).i3 (unhide Hb).val
              replace Hc := hide Hc
              have hset' : wc = wb.setCell ⟨B, 1, none⟩ (.int .i64 nb) := hset
              have HSET := hide hset'
              clear hset hset' Hb
              go_wp2_with fail
              rw [← unhide HSET]
              go_meet
              case rel => exact ⟨_, _, _, _, _, _, unhide HF4, (unhide Hc).more (by omega)⟩
            · have y0 : ((xa : Int) == 0) = false := by simp [hx]
              have y1 : ((xa : Int) == 1) = false := by simp [hx]
              have y2 : ((xa : Int) == 2) = true := by simp [hx]
              have HX := hide hx
              clear hx
              go_wp2_with fail
              refine (stG_pick (unhide Ha).st 4 (by have := unhide HN; omega) (by omega) (by omega)).mono ?_
              rintro e wb ⟨bb, σb, hpb, rfl, hbb, hsb, hkb⟩
              have hbb : (bb : Int) < 4 := by omega
              have Hb := hide ((unhide Ha).go hsb hkb)
              have HF4 := hide (s4_type (unhide HF3) (unhide HP9) (unhide HE) (unhide HPa) (unhide HX) hpb)
              clear hpb hsb hkb Ha
              obtain ⟨⟨c0, c1, c2, c3, c4, c5, c6, c7, c8⟩, z⟩ := (unhide Hb).cells
              have z0 := z 0
              clear z
              obtain ⟨wc, hset⟩ : ∃ wc, wc = setL wb B 0 [.int .i64 bb] := ⟨_, rfl⟩
              have Hc : BoxG g q v (N + 180 + 2 + 2 + 2) σb w B wc (((bb : Int), p3.2) : SgT 2) k3 m3 s3 x3 := by
                rw [hset]
                exact (unhide Hb).put (p' := (((bb : Int), p3.2) : SgT 2)) (by simp) put_0a put_0b (in64_by (by show (-9000000000000000000 : Int) ≤ (bb : Int); omega) (by show (bb : Int) ≤ 9000000000000000000; omega)) (unhide Hb).i2 (unhide Hb).i3 (unhide Hb).val
              replace Hc := hide Hc
              have hset' : wc = wb.setCell ⟨B, 0, none⟩ (.int .i64 bb) := hset
              have HSET := hide hset'
              clear hset hset' Hb
              go_wp2_with fail
              rw [← unhide HSET]
              go_meet
              case rel => exact ⟨_, _, _, _, _, _, unhide HF4, (unhide Hc).more (by omega)⟩
            · have y0 : ((xa : Int) == 0) = false := by simp [hx]
              have y1 : ((xa : Int) == 1) = false := by simp [hx]
              have y2 : ((xa : Int) == 2) = false := by simp [hx]
              have y3 : ((xa : Int) == 3) = true := by simp [hx]
              have HF4 := hide (s4_val (unhide HF3) (unhide HP9) (unhide HE) (unhide HPa) (by omega))
              clear hx
              obtain ⟨⟨c0, c1, c2, c3, c4, c5, c6, c7, c8⟩, z⟩ := (unhide Ha).cells
              have z6 := z 6
              clear z
              obtain ⟨wc, hset⟩ : ∃ wc, wc = setL wa B 6 [.int .i64 1000000000000001] := ⟨_, rfl⟩
              have Hc : BoxG g q v (N + 180 + 2 + 2) σa w B wc (withV p3 (overN p3.2.2.2.2.2)) k3 1000000000000001 s3 x3 := by
                rw [hset]
                exact (unhide Ha).put (p' := withV p3 (overN p3.2.2.2.2.2)) (by simp) put_6a put_6b (unhide Ha).i1 (unhide Ha).i2 (unhide Ha).i3 (unhide Ha).val.over
              replace Hc := hide Hc
              have hset' : wc = wa.setCell ⟨B, 6, none⟩ (.int .i64 1000000000000001) := hset
              have HSET := hide hset'
              clear hset hset' Ha
              go_wp2_with fail
              rw [← unhide HSET]
              go_meet
              case rel => exact ⟨_, _, _, _, _, _, unhide HF4, (unhide Hc).more (by omega)⟩
          · have hb : ((e3 : Int) == 0) = false := by simp [he0]
            go_wp2_with fail
            go_meet
            case rel => exact ⟨_, _, _, _, _, _, s4_no (unhide HF3) (unhide HP9) he0, (unhide H9).more (by omega)⟩
        case rest =>
          obtain ⟨p4, k4, m4, s4, x4, σa, hf4, hX⟩ := hcut
          rename World => wa
          obtain ⟨_, _, _, ua, ul, uc, e1', e2', e3', rfl⟩ := hX.val.shape
          clear e1' e2' e3'
          have Ha := hide hX
          have HF4 := hide hf4
          have hM : N + 200 ≤ N + segCost := by unfold segCost; omega
          have hres := hX.st.res
          clear hX hf4 HF3 H9 HP9 he
          obtain ⟨⟨c0, c1, c2, c3, c4, c5, c6, c7, c8⟩, z⟩ := (unhide Ha).cells
          clear z
          obtain ⟨r0, y0⟩ := hres.cell (o := 0) (by decide)
          obtain ⟨r1, y1⟩ := hres.cell (o := 1) (by decide)
          obtain ⟨r2, y2⟩ := hres.cell (o := 2) (by decide)
          obtain ⟨r3, y3⟩ := hres.cell (o := 3) (by decide)
          obtain ⟨r4, y4⟩ := hres.cell (o := 4) (by decide)
          obtain ⟨r5, y5⟩ := hres.cell (o := 5) (by decide)
          obtain ⟨r6, y6⟩ := hres.cell (o := 6) (by decide)
          obtain ⟨r7, y7⟩ := hres.cell (o := 7) (by decide)
          obtain ⟨r8, y8⟩ := hres.cell (o := 8) (by decide)
          have z := hres.frozen
          have HEND := hide (seg_end (unhide Ha) (unhide HF4) hM)
          clear hres Ha HF4 hM
          go_wp2_with fail
          exact bodyPost_ret (v := .agg #[.int .i64 p4.1, .int .i64 p4.2.1, .int .i64 p4.2.2.1, .bool p4.2.2.2.1, .bool p4.2.2.2.2.1, .int .i64 k4, .int .i64 m4, .string s4, .slice ua ul uc]) (by simp [results, Tryz.results26, go_sem, y0, y1, y2, y3, y4, y5, y6, y7, y8]) rfl (unhide HEND)

end Go.Proofs.YtcgbonlffcpofaaGreatDoor
