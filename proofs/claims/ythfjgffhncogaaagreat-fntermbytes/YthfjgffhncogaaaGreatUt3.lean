/- spec's taker: term, a theorem a tag. -/
import Derived.Test.YthfjgffhncogaaaGreatQ34
namespace Go.Proofs.YthfjgffhncogaaaGreat
open Go.RowKit Go.Deep
set_option linter.unusedSimpArgs false
set_option linter.unusedVariables false

theorem kids_up {m : Nat} {w wr w4 w5 : World} {ks : List (Tm (m + 1))} {v : Value} (hS : SAt (Fresh wr w4) w4 (TAt (Fresh wr w4) w4 (m + 1)) ks v) (hb : Below w4.heap.size w4 w5) (hl : w.heap.size < wr.heap.size) :
    SAt (fun b => w.heap.size < b ∧ b < w5.heap.size) w5 (TAt (fun b => w.heap.size < b ∧ b < w5.heap.size) w5 (m + 1)) ks v := by
  have hs : ∀ b, Fresh wr w4 b → w.heap.size < b ∧ b < w5.heap.size := fun b h => ⟨Nat.lt_of_lt_of_le hl h.1, Nat.lt_of_lt_of_le h.2 hb.size⟩
  exact (hS.keep (fun b h => hb.block b h.2) fun t _ _ _ _ _ ht => (ht.keep fun b h => hb.block b h.2)).mono hs fun _ _ _ _ _ _ ht => ht.mono hs

section
variable (m g c : Nat) (data : ByteArray) (pos d : Nat) (w : World)

set_option maxRecDepth 40000 in
set_option maxHeartbeats 1000000 in
theorem st98 (hu : Tkr g c data pos false w) (hp : pos ≤ data.size) (hd : data.size ≤ 2 ^ 47) (hdm : d + (m + 1) = 101) (hc : c + 1 ≤ 2000) (htag : takeN 1 (suf data pos) = some (98, suf data (pos + 1))) :
    Calls Tryz.prog 51 #[.pointer (some ⟨g, 0, none⟩), .int .i64 d] w fun e w' => StEnd (m + 1) g c data pos w e w' := by
  have HV := hide (takeV_tag (m := m) hc htag)
  obtain ⟨hfit, _, S, hz, hS, hel⟩ := first_byte hp htag
  have hgl := hu.lt
  obtain ⟨w0, hw0⟩ : ∃ w0, w0 = w.alloc (.cells #[.int .i64 0, .int .i64 0, .string ⟨#[]⟩, .slice none 0 0] 26) := ⟨_, rfl⟩
  have hb0 : Below w.heap.size w w0 := by rw [hw0]; exact (Below.refl w.heap.size w).alloc (Nat.le_refl _) _
  have hr0 : Four w.heap.size w0 := by rw [hw0]; exact ⟨_, _, _, _, heap_new w _⟩
  have hu0 := hu.below hb0
  have HW0 := hide hw0
  have a3 := hu0.cells.2.2.2.1
  have af := frozen_of_heap hu0 3
  have hu1 := hu0.setCount (c + 1)
  have hb1 := ((But.refl g w).below' hb0).set 3 (.int .i64 ((c + 1 : Nat) : Int))
  have hr1 : Four w.heap.size (w0.setCell ⟨g, 3, none⟩ (.int .i64 ((c + 1 : Nat) : Int))) := hr0.keep (Below.heap_setCell _ _ _ _ (by show w.heap.size ≠ g; omega))
  have HS1 := hide (show Sw g (c + 1) data w _ pos false from ⟨hb1, hu1, hr1, hgl, hp⟩)
  have b3 := hu1.cells.2.2.2.1
  rw [show ((c + 1 : Nat) : Int) = (c : Int) + 1 by omega] at b3 HS1
  have hc2 : ¬ (2000 : Int) < (c : Int) + 1 := by omega
  have hd2 : ¬ (100 : Int) < (d : Int) := by omega
  clear hu hu0 hu1 hb1 hr1 hw0 hb0 hr0
  go_enter Tryz.func51, Tryz.ntmps51
  go_upto_region 1 with fail
  rw [← unhide HW0]
  go_wp2_with fail
  obtain ⟨w1, hw1⟩ : ∃ w1, w1 = w0.setCell ⟨g, 3, none⟩ (.int .i64 ((c : Int) + 1)) := ⟨_, rfl⟩
  rw [← hw1] at HS1 ⊢
  clear hw1 a3 af b3 HW0
  have hs1 := unhide HS1
  refine (take_cut g (c + 1) data pos 1 w1 hs1.tk hp hd (by omega)).mono ?_
  rintro e w2 ⟨hb2, ⟨_, rfl, ht2⟩ | ⟨hno, _, _⟩⟩
  rotate_left
  · exact absurd hfit hno
  rw [hS]
  have h2 := ht2.cells.2.2.1
  have HS2 := hide (hs1.go hb2 ht2 hfit)
  clear hb2 ht2 hs1 HS1 htag
  go_wp2_with fail
  refine (sw_take (unhide HS2) 1 hd (by omega)).mono ?_
  rintro e w3 ⟨S3, p3, bad3, rfl, hs3, z3, k3⟩
  obtain ⟨q3, hq3, l3, n3⟩ := took_num k3 z3
  have HS3 := hide hs3
  have HN3 := hide n3
  have L3 : q3 < 256 := l3
  clear hs3 k3 n3 l3
  go_wp2_with fail
  refine (snumber_any S3 w3 (by omega)).mono ?_
  rintro e _ ⟨rfl, rfl⟩
  rw [hq3]
  clear hq3
  go_wp2_with fail
  refine (sw_take (unhide HS3) 7 hd (by omega)).mono ?_
  rintro e w4 ⟨S4, p4, bad4, rfl, hs4, z4, k4⟩
  obtain ⟨q4, hq4, l4, n4⟩ := took_num k4 z4
  have HS4 := hide hs4
  have HN4 := hide n4
  have L4 : q4 < 72057594037927936 := l4
  clear hs4 k4 n4 l4
  go_wp2_with fail
  refine (snumber_any S4 w4 (by omega)).mono ?_
  rintro e _ ⟨rfl, rfl⟩
  rw [hq4]
  clear hq4
  by_cases hq : q3 = 1
  · subst hq
    go_wp2_with fail
    refine (mk_int _ _).mono ?_
    rintro e w5 ⟨rfl, hb5⟩
    have HB5 := hide hb5
    have HS5 := hide ((unhide HS4).below hb5)
    clear hb5
    obtain ⟨y0, y1, y2, y3, f0, f1, f2, f3, g0, g1, g2, g3⟩ := (unhide HS5).res.cells
    go_wp2_with fail
    exact bodyPost_ret (v := .agg #[.int .i64 1, .int .i64 (-(q4 : Int)), .string ⟨#[]⟩, .slice none 0 0]) (by simp [results, Tryz.results51, go_sem, f0, f1, f2, f3]) rfl (sw_end (unhide HS5) (by
      intro hbad
      rcases unhide HN4 with ⟨_, eb4, e4⟩ | ⟨x4, _⟩
      rotate_left
      · rw [hbad] at x4; cases x4
      rcases unhide HN3 with ⟨_, eb3, e3⟩ | ⟨x3, _⟩
      rotate_left
      · rw [eb4] at x3; cases x3
      refine ⟨leafT (m + 1) 1 (-(q4 : Int)) noText, ?_, Nat.lt_succ_self c, hc, rfl, rfl, rfl, ⟨by omega, by omega⟩, ⟨by omega, by omega⟩, by decide, sat_none⟩
      rw [unhide HV]
      simp [takeT, takeK, e3, e4]) (by
      intro hbad
      rw [unhide HV]
      rcases unhide HN4 with ⟨x4, _⟩ | ⟨_, y4 | y4⟩
      · rw [hbad] at x4; cases x4
      ·
        rcases unhide HN3 with ⟨x3, _⟩ | ⟨_, y3 | y3⟩
        · rw [y4] at x3; cases x3
        · cases y3
        · simp [takeT, takeK, y3]
      ·
        rcases unhide HN3 with ⟨_, v3, u3⟩ | ⟨_, y3 | y3⟩
        · simp [takeT, takeK, y4, u3]
        · cases y3
        · simp [takeT, takeK, y3]
    ))
  · have hq2 : ¬ (q3 : Int) = 1 := by omega
    go_wp2_with fail
    refine (mk_int _ _).mono ?_
    rintro e w5 ⟨rfl, hb5⟩
    have HB5 := hide hb5
    have HS5 := hide ((unhide HS4).below hb5)
    clear hb5
    obtain ⟨y0, y1, y2, y3, f0, f1, f2, f3, g0, g1, g2, g3⟩ := (unhide HS5).res.cells
    go_wp2_with fail
    exact bodyPost_ret (v := .agg #[.int .i64 1, .int .i64 q4, .string ⟨#[]⟩, .slice none 0 0]) (by simp [results, Tryz.results51, go_sem, f0, f1, f2, f3]) rfl (sw_end (unhide HS5) (by
      intro hbad
      rcases unhide HN4 with ⟨_, eb4, e4⟩ | ⟨x4, _⟩
      rotate_left
      · rw [hbad] at x4; cases x4
      rcases unhide HN3 with ⟨_, eb3, e3⟩ | ⟨x3, _⟩
      rotate_left
      · rw [eb4] at x3; cases x3
      refine ⟨leafT (m + 1) 1 q4 noText, ?_, Nat.lt_succ_self c, hc, rfl, rfl, rfl, ⟨by omega, by omega⟩, ⟨by omega, by omega⟩, by decide, sat_none⟩
      rw [unhide HV]
      simp [takeT, takeK, e3, e4, hq]) (by
      intro hbad
      rw [unhide HV]
      rcases unhide HN4 with ⟨x4, _⟩ | ⟨_, y4 | y4⟩
      · rw [hbad] at x4; cases x4
      ·
        rcases unhide HN3 with ⟨x3, _⟩ | ⟨_, y3 | y3⟩
        · rw [y4] at x3; cases x3
        · cases y3
        · simp [takeT, takeK, y3, hq]
      ·
        rcases unhide HN3 with ⟨_, v3, u3⟩ | ⟨_, y3 | y3⟩
        · simp [takeT, takeK, y4, u3, hq]
        · cases y3
        · simp [takeT, takeK, y3, hq]
    ))

set_option maxRecDepth 40000 in
set_option maxHeartbeats 1000000 in
theorem st119 (hu : Tkr g c data pos false w) (hp : pos ≤ data.size) (hd : data.size ≤ 2 ^ 47) (hdm : d + (m + 1) = 101) (hc : c + 1 ≤ 2000) (htag : takeN 1 (suf data pos) = some (119, suf data (pos + 1))) :
    Calls Tryz.prog 51 #[.pointer (some ⟨g, 0, none⟩), .int .i64 d] w fun e w' => StEnd (m + 1) g c data pos w e w' := by
  have HV := hide (takeV_tag (m := m) hc htag)
  obtain ⟨hfit, _, S, hz, hS, hel⟩ := first_byte hp htag
  have hgl := hu.lt
  obtain ⟨w0, hw0⟩ : ∃ w0, w0 = w.alloc (.cells #[.int .i64 0, .int .i64 0, .string ⟨#[]⟩, .slice none 0 0] 26) := ⟨_, rfl⟩
  have hb0 : Below w.heap.size w w0 := by rw [hw0]; exact (Below.refl w.heap.size w).alloc (Nat.le_refl _) _
  have hr0 : Four w.heap.size w0 := by rw [hw0]; exact ⟨_, _, _, _, heap_new w _⟩
  have hu0 := hu.below hb0
  have HW0 := hide hw0
  have a3 := hu0.cells.2.2.2.1
  have af := frozen_of_heap hu0 3
  have hu1 := hu0.setCount (c + 1)
  have hb1 := ((But.refl g w).below' hb0).set 3 (.int .i64 ((c + 1 : Nat) : Int))
  have hr1 : Four w.heap.size (w0.setCell ⟨g, 3, none⟩ (.int .i64 ((c + 1 : Nat) : Int))) := hr0.keep (Below.heap_setCell _ _ _ _ (by show w.heap.size ≠ g; omega))
  have HS1 := hide (show Sw g (c + 1) data w _ pos false from ⟨hb1, hu1, hr1, hgl, hp⟩)
  have b3 := hu1.cells.2.2.2.1
  rw [show ((c + 1 : Nat) : Int) = (c : Int) + 1 by omega] at b3 HS1
  have hc2 : ¬ (2000 : Int) < (c : Int) + 1 := by omega
  have hd2 : ¬ (100 : Int) < (d : Int) := by omega
  clear hu hu0 hu1 hb1 hr1 hw0 hb0 hr0
  go_enter Tryz.func51, Tryz.ntmps51
  go_upto_region 1 with fail
  rw [← unhide HW0]
  go_wp2_with fail
  obtain ⟨w1, hw1⟩ : ∃ w1, w1 = w0.setCell ⟨g, 3, none⟩ (.int .i64 ((c : Int) + 1)) := ⟨_, rfl⟩
  rw [← hw1] at HS1 ⊢
  clear hw1 a3 af b3 HW0
  have hs1 := unhide HS1
  refine (take_cut g (c + 1) data pos 1 w1 hs1.tk hp hd (by omega)).mono ?_
  rintro e w2 ⟨hb2, ⟨_, rfl, ht2⟩ | ⟨hno, _, _⟩⟩
  rotate_left
  · exact absurd hfit hno
  rw [hS]
  have h2 := ht2.cells.2.2.1
  have HS2 := hide (hs1.go hb2 ht2 hfit)
  clear hb2 ht2 hs1 HS1 htag
  go_wp2_with fail
  refine (sw_take (unhide HS2) 1 hd (by omega)).mono ?_
  rintro e w3 ⟨S3, p3, bad3, rfl, hs3, z3, k3⟩
  obtain ⟨q3, hq3, l3, n3⟩ := took_num k3 z3
  have HS3 := hide hs3
  have HN3 := hide n3
  have L3 : q3 < 256 := l3
  clear hs3 k3 n3 l3
  go_wp2_with fail
  refine (snumber_any S3 w3 (by omega)).mono ?_
  rintro e _ ⟨rfl, rfl⟩
  rw [hq3]
  clear hq3
  go_wp2_with fail
  refine (sw_take (unhide HS3) q3 hd (by omega)).mono ?_
  rintro e w4 ⟨S4, p4, bad4, rfl, hs4, z4, k4⟩
  have HS4 := hide hs4
  have HN4 := hide k4
  clear hs4 k4
  go_wp2_with fail
  refine (mk_atom _ _).mono ?_
  rintro e w5 ⟨rfl, hb5⟩
  have HB5 := hide hb5
  have HS5 := hide ((unhide HS4).below hb5)
  clear hb5
  obtain ⟨y0, y1, y2, y3, f0, f1, f2, f3, g0, g1, g2, g3⟩ := (unhide HS5).res.cells
  go_wp2_with fail
  exact bodyPost_ret (v := .agg #[.int .i64 2, .int .i64 0, .string S4, .slice none 0 0]) (by simp [results, Tryz.results51, go_sem, f0, f1, f2, f3]) rfl (sw_end (unhide HS5) (by
    intro hbad
    rcases unhide HN4 with ⟨_, eb4, e4⟩ | ⟨x4, _⟩
    rotate_left
    · rw [hbad] at x4; cases x4
    rcases unhide HN3 with ⟨_, eb3, e3⟩ | ⟨x3, _⟩
    rotate_left
    · rw [eb4] at x3; cases x3
    refine ⟨leafT (m + 1) 2 0 S4, ?_, Nat.lt_succ_self c, hc, rfl, rfl, rfl, ⟨by omega, by omega⟩, ⟨by omega, by omega⟩, by omega, sat_none⟩
    rw [unhide HV]
    simp [takeT, takeK, e3, e4, txt_back]) (by
    intro hbad
    rw [unhide HV]
    rcases unhide HN4 with ⟨x4, _⟩ | ⟨_, _, y4 | y4⟩
    · rw [hbad] at x4; cases x4
    ·
      rcases unhide HN3 with ⟨x3, _⟩ | ⟨_, y3 | y3⟩
      · rw [y4] at x3; cases x3
      · cases y3
      · simp [takeT, takeK, y3, txt_back]
    ·
      rcases unhide HN3 with ⟨_, v3, u3⟩ | ⟨_, y3 | y3⟩
      · simp [takeT, takeK, y4, u3, txt_back]
      · cases y3
      · simp [takeT, takeK, y3, txt_back]
  ))

set_option maxRecDepth 40000 in
set_option maxHeartbeats 1000000 in
theorem st109 (hu : Tkr g c data pos false w) (hp : pos ≤ data.size) (hd : data.size ≤ 2 ^ 47) (hdm : d + (m + 1) = 101) (hc : c + 1 ≤ 2000) (htag : takeN 1 (suf data pos) = some (109, suf data (pos + 1))) :
    Calls Tryz.prog 51 #[.pointer (some ⟨g, 0, none⟩), .int .i64 d] w fun e w' => StEnd (m + 1) g c data pos w e w' := by
  have HV := hide (takeV_tag (m := m) hc htag)
  obtain ⟨hfit, _, S, hz, hS, hel⟩ := first_byte hp htag
  have hgl := hu.lt
  obtain ⟨w0, hw0⟩ : ∃ w0, w0 = w.alloc (.cells #[.int .i64 0, .int .i64 0, .string ⟨#[]⟩, .slice none 0 0] 26) := ⟨_, rfl⟩
  have hb0 : Below w.heap.size w w0 := by rw [hw0]; exact (Below.refl w.heap.size w).alloc (Nat.le_refl _) _
  have hr0 : Four w.heap.size w0 := by rw [hw0]; exact ⟨_, _, _, _, heap_new w _⟩
  have hu0 := hu.below hb0
  have HW0 := hide hw0
  have a3 := hu0.cells.2.2.2.1
  have af := frozen_of_heap hu0 3
  have hu1 := hu0.setCount (c + 1)
  have hb1 := ((But.refl g w).below' hb0).set 3 (.int .i64 ((c + 1 : Nat) : Int))
  have hr1 : Four w.heap.size (w0.setCell ⟨g, 3, none⟩ (.int .i64 ((c + 1 : Nat) : Int))) := hr0.keep (Below.heap_setCell _ _ _ _ (by show w.heap.size ≠ g; omega))
  have HS1 := hide (show Sw g (c + 1) data w _ pos false from ⟨hb1, hu1, hr1, hgl, hp⟩)
  have b3 := hu1.cells.2.2.2.1
  rw [show ((c + 1 : Nat) : Int) = (c : Int) + 1 by omega] at b3 HS1
  have hc2 : ¬ (2000 : Int) < (c : Int) + 1 := by omega
  have hd2 : ¬ (100 : Int) < (d : Int) := by omega
  clear hu hu0 hu1 hb1 hr1 hw0 hb0 hr0
  go_enter Tryz.func51, Tryz.ntmps51
  go_upto_region 1 with fail
  rw [← unhide HW0]
  go_wp2_with fail
  obtain ⟨w1, hw1⟩ : ∃ w1, w1 = w0.setCell ⟨g, 3, none⟩ (.int .i64 ((c : Int) + 1)) := ⟨_, rfl⟩
  rw [← hw1] at HS1 ⊢
  clear hw1 a3 af b3 HW0
  have hs1 := unhide HS1
  refine (take_cut g (c + 1) data pos 1 w1 hs1.tk hp hd (by omega)).mono ?_
  rintro e w2 ⟨hb2, ⟨_, rfl, ht2⟩ | ⟨hno, _, _⟩⟩
  rotate_left
  · exact absurd hfit hno
  rw [hS]
  have h2 := ht2.cells.2.2.1
  have HS2 := hide (hs1.go hb2 ht2 hfit)
  clear hb2 ht2 hs1 HS1 htag
  go_wp2_with fail
  refine (sw_take (unhide HS2) 2 hd (by omega)).mono ?_
  rintro e w3 ⟨S3, p3, bad3, rfl, hs3, z3, k3⟩
  obtain ⟨q3, hq3, l3, n3⟩ := took_num k3 z3
  have HS3 := hide hs3
  have HN3 := hide n3
  have L3 : q3 < 65536 := l3
  clear hs3 k3 n3 l3
  go_wp2_with fail
  refine (snumber_any S3 w3 (by omega)).mono ?_
  rintro e _ ⟨rfl, rfl⟩
  rw [hq3]
  clear hq3
  go_wp2_with fail
  refine (sw_take (unhide HS3) q3 hd (by omega)).mono ?_
  rintro e w4 ⟨S4, p4, bad4, rfl, hs4, z4, k4⟩
  have HS4 := hide hs4
  have HN4 := hide k4
  clear hs4 k4
  go_wp2_with fail
  refine (mk_bin _ _).mono ?_
  rintro e w5 ⟨rfl, hb5⟩
  have HB5 := hide hb5
  have HS5 := hide ((unhide HS4).below hb5)
  clear hb5
  obtain ⟨y0, y1, y2, y3, f0, f1, f2, f3, g0, g1, g2, g3⟩ := (unhide HS5).res.cells
  go_wp2_with fail
  exact bodyPost_ret (v := .agg #[.int .i64 9, .int .i64 0, .string S4, .slice none 0 0]) (by simp [results, Tryz.results51, go_sem, f0, f1, f2, f3]) rfl (sw_end (unhide HS5) (by
    intro hbad
    rcases unhide HN4 with ⟨_, eb4, e4⟩ | ⟨x4, _⟩
    rotate_left
    · rw [hbad] at x4; cases x4
    rcases unhide HN3 with ⟨_, eb3, e3⟩ | ⟨x3, _⟩
    rotate_left
    · rw [eb4] at x3; cases x3
    refine ⟨leafT (m + 1) 9 0 S4, ?_, Nat.lt_succ_self c, hc, rfl, rfl, rfl, ⟨by omega, by omega⟩, ⟨by omega, by omega⟩, by omega, sat_none⟩
    rw [unhide HV]
    simp [takeT, takeK, e3, e4, txt_back]) (by
    intro hbad
    rw [unhide HV]
    rcases unhide HN4 with ⟨x4, _⟩ | ⟨_, _, y4 | y4⟩
    · rw [hbad] at x4; cases x4
    ·
      rcases unhide HN3 with ⟨x3, _⟩ | ⟨_, y3 | y3⟩
      · rw [y4] at x3; cases x3
      · cases y3
      · simp [takeT, takeK, y3, txt_back]
    ·
      rcases unhide HN3 with ⟨_, v3, u3⟩ | ⟨_, y3 | y3⟩
      · simp [takeT, takeK, y4, u3, txt_back]
      · cases y3
      · simp [takeT, takeK, y3, txt_back]
  ))

set_option maxRecDepth 40000 in
set_option maxHeartbeats 1000000 in
theorem st114 (hu : Tkr g c data pos false w) (hp : pos ≤ data.size) (hd : data.size ≤ 2 ^ 47) (hdm : d + (m + 1) = 101) (hc : c + 1 ≤ 2000) (htag : takeN 1 (suf data pos) = some (114, suf data (pos + 1))) :
    Calls Tryz.prog 51 #[.pointer (some ⟨g, 0, none⟩), .int .i64 d] w fun e w' => StEnd (m + 1) g c data pos w e w' := by
  have HV := hide (takeV_tag (m := m) hc htag)
  obtain ⟨hfit, _, S, hz, hS, hel⟩ := first_byte hp htag
  have hgl := hu.lt
  obtain ⟨w0, hw0⟩ : ∃ w0, w0 = w.alloc (.cells #[.int .i64 0, .int .i64 0, .string ⟨#[]⟩, .slice none 0 0] 26) := ⟨_, rfl⟩
  have hb0 : Below w.heap.size w w0 := by rw [hw0]; exact (Below.refl w.heap.size w).alloc (Nat.le_refl _) _
  have hr0 : Four w.heap.size w0 := by rw [hw0]; exact ⟨_, _, _, _, heap_new w _⟩
  have hu0 := hu.below hb0
  have HW0 := hide hw0
  have a3 := hu0.cells.2.2.2.1
  have af := frozen_of_heap hu0 3
  have hu1 := hu0.setCount (c + 1)
  have hb1 := ((But.refl g w).below' hb0).set 3 (.int .i64 ((c + 1 : Nat) : Int))
  have hr1 : Four w.heap.size (w0.setCell ⟨g, 3, none⟩ (.int .i64 ((c + 1 : Nat) : Int))) := hr0.keep (Below.heap_setCell _ _ _ _ (by show w.heap.size ≠ g; omega))
  have HS1 := hide (show Sw g (c + 1) data w _ pos false from ⟨hb1, hu1, hr1, hgl, hp⟩)
  have b3 := hu1.cells.2.2.2.1
  rw [show ((c + 1 : Nat) : Int) = (c : Int) + 1 by omega] at b3 HS1
  have hc2 : ¬ (2000 : Int) < (c : Int) + 1 := by omega
  have hd2 : ¬ (100 : Int) < (d : Int) := by omega
  clear hu hu0 hu1 hb1 hr1 hw0 hb0 hr0
  go_enter Tryz.func51, Tryz.ntmps51
  go_upto_region 1 with fail
  rw [← unhide HW0]
  go_wp2_with fail
  obtain ⟨w1, hw1⟩ : ∃ w1, w1 = w0.setCell ⟨g, 3, none⟩ (.int .i64 ((c : Int) + 1)) := ⟨_, rfl⟩
  rw [← hw1] at HS1 ⊢
  clear hw1 a3 af b3 HW0
  have hs1 := unhide HS1
  refine (take_cut g (c + 1) data pos 1 w1 hs1.tk hp hd (by omega)).mono ?_
  rintro e w2 ⟨hb2, ⟨_, rfl, ht2⟩ | ⟨hno, _, _⟩⟩
  rotate_left
  · exact absurd hfit hno
  rw [hS]
  have h2 := ht2.cells.2.2.1
  have HS2 := hide (hs1.go hb2 ht2 hfit)
  clear hb2 ht2 hs1 HS1 htag
  go_wp2_with fail
  refine (sw_take (unhide HS2) 7 hd (by omega)).mono ?_
  rintro e w3 ⟨S3, p3, bad3, rfl, hs3, z3, k3⟩
  obtain ⟨q3, hq3, l3, n3⟩ := took_num k3 z3
  have HS3 := hide hs3
  have HN3 := hide n3
  have L3 : q3 < 72057594037927936 := l3
  clear hs3 k3 n3 l3
  go_wp2_with fail
  refine (snumber_any S3 w3 (by omega)).mono ?_
  rintro e _ ⟨rfl, rfl⟩
  rw [hq3]
  clear hq3
  obtain ⟨y0, y1, y2, y3, f0, f1, f2, f3, g0, g1, g2, g3⟩ := (unhide HS3).res.cells
  go_wp2_with fail
  exact bodyPost_ret (v := .agg #[.int .i64 3, .int .i64 q3, .string ⟨#[]⟩, .slice none 0 0]) (by simp [results, Tryz.results51, go_sem, f0, f1, f2, f3]) rfl (sw_end (unhide HS3) (by
    intro hbad
    rcases unhide HN3 with ⟨_, eb3, e3⟩ | ⟨x3, _⟩
    rotate_left
    · rw [hbad] at x3; cases x3
    refine ⟨leafT (m + 1) 3 q3 noText, ?_, Nat.lt_succ_self c, hc, rfl, rfl, rfl, ⟨by omega, by omega⟩, ⟨by omega, by omega⟩, by decide, sat_none⟩
    rw [unhide HV]
    simp [takeT, takeK, e3]) (by
    intro hbad
    rw [unhide HV]
    rcases unhide HN3 with ⟨x3, _⟩ | ⟨_, y3 | y3⟩
    · rw [hbad] at x3; cases x3
    · cases y3
    · simp [takeT, takeK, y3]
  ))

set_option maxRecDepth 40000 in
set_option maxHeartbeats 1000000 in
theorem st103 (hu : Tkr g c data pos false w) (hp : pos ≤ data.size) (hd : data.size ≤ 2 ^ 47) (hdm : d + (m + 1) = 101) (hc : c + 1 ≤ 2000) (htag : takeN 1 (suf data pos) = some (103, suf data (pos + 1))) :
    Calls Tryz.prog 51 #[.pointer (some ⟨g, 0, none⟩), .int .i64 d] w fun e w' => StEnd (m + 1) g c data pos w e w' := by
  have HV := hide (takeV_tag (m := m) hc htag)
  obtain ⟨hfit, _, S, hz, hS, hel⟩ := first_byte hp htag
  have hgl := hu.lt
  obtain ⟨w0, hw0⟩ : ∃ w0, w0 = w.alloc (.cells #[.int .i64 0, .int .i64 0, .string ⟨#[]⟩, .slice none 0 0] 26) := ⟨_, rfl⟩
  have hb0 : Below w.heap.size w w0 := by rw [hw0]; exact (Below.refl w.heap.size w).alloc (Nat.le_refl _) _
  have hr0 : Four w.heap.size w0 := by rw [hw0]; exact ⟨_, _, _, _, heap_new w _⟩
  have hu0 := hu.below hb0
  have HW0 := hide hw0
  have a3 := hu0.cells.2.2.2.1
  have af := frozen_of_heap hu0 3
  have hu1 := hu0.setCount (c + 1)
  have hb1 := ((But.refl g w).below' hb0).set 3 (.int .i64 ((c + 1 : Nat) : Int))
  have hr1 : Four w.heap.size (w0.setCell ⟨g, 3, none⟩ (.int .i64 ((c + 1 : Nat) : Int))) := hr0.keep (Below.heap_setCell _ _ _ _ (by show w.heap.size ≠ g; omega))
  have HS1 := hide (show Sw g (c + 1) data w _ pos false from ⟨hb1, hu1, hr1, hgl, hp⟩)
  have b3 := hu1.cells.2.2.2.1
  rw [show ((c + 1 : Nat) : Int) = (c : Int) + 1 by omega] at b3 HS1
  have hc2 : ¬ (2000 : Int) < (c : Int) + 1 := by omega
  have hd2 : ¬ (100 : Int) < (d : Int) := by omega
  clear hu hu0 hu1 hb1 hr1 hw0 hb0 hr0
  go_enter Tryz.func51, Tryz.ntmps51
  go_upto_region 1 with fail
  rw [← unhide HW0]
  go_wp2_with fail
  obtain ⟨w1, hw1⟩ : ∃ w1, w1 = w0.setCell ⟨g, 3, none⟩ (.int .i64 ((c : Int) + 1)) := ⟨_, rfl⟩
  rw [← hw1] at HS1 ⊢
  clear hw1 a3 af b3 HW0
  have hs1 := unhide HS1
  refine (take_cut g (c + 1) data pos 1 w1 hs1.tk hp hd (by omega)).mono ?_
  rintro e w2 ⟨hb2, ⟨_, rfl, ht2⟩ | ⟨hno, _, _⟩⟩
  rotate_left
  · exact absurd hfit hno
  rw [hS]
  have h2 := ht2.cells.2.2.1
  have HS2 := hide (hs1.go hb2 ht2 hfit)
  clear hb2 ht2 hs1 HS1 htag
  go_wp2_with fail
  refine (sw_take (unhide HS2) 7 hd (by omega)).mono ?_
  rintro e w3 ⟨S3, p3, bad3, rfl, hs3, z3, k3⟩
  obtain ⟨q3, hq3, l3, n3⟩ := took_num k3 z3
  have HS3 := hide hs3
  have HN3 := hide n3
  have L3 : q3 < 72057594037927936 := l3
  clear hs3 k3 n3 l3
  go_wp2_with fail
  refine (snumber_any S3 w3 (by omega)).mono ?_
  rintro e _ ⟨rfl, rfl⟩
  rw [hq3]
  clear hq3
  obtain ⟨y0, y1, y2, y3, f0, f1, f2, f3, g0, g1, g2, g3⟩ := (unhide HS3).res.cells
  go_wp2_with fail
  exact bodyPost_ret (v := .agg #[.int .i64 5, .int .i64 q3, .string ⟨#[]⟩, .slice none 0 0]) (by simp [results, Tryz.results51, go_sem, f0, f1, f2, f3]) rfl (sw_end (unhide HS3) (by
    intro hbad
    rcases unhide HN3 with ⟨_, eb3, e3⟩ | ⟨x3, _⟩
    rotate_left
    · rw [hbad] at x3; cases x3
    refine ⟨leafT (m + 1) 5 q3 noText, ?_, Nat.lt_succ_self c, hc, rfl, rfl, rfl, ⟨by omega, by omega⟩, ⟨by omega, by omega⟩, by decide, sat_none⟩
    rw [unhide HV]
    simp [takeT, takeK, e3]) (by
    intro hbad
    rw [unhide HV]
    rcases unhide HN3 with ⟨x3, _⟩ | ⟨_, y3 | y3⟩
    · rw [hbad] at x3; cases x3
    · cases y3
    · simp [takeT, takeK, y3]
  ))

set_option maxRecDepth 40000 in
set_option maxHeartbeats 1000000 in
theorem st104 (h : StSaid m) (hu : Tkr g c data pos false w) (hp : pos ≤ data.size) (hd : data.size ≤ 2 ^ 47) (hdm : d + (m + 1) = 101) (hc : c + 1 ≤ 2000) (htag : takeN 1 (suf data pos) = some (104, suf data (pos + 1))) :
    Calls Tryz.prog 51 #[.pointer (some ⟨g, 0, none⟩), .int .i64 d] w fun e w' => StEnd (m + 1) g c data pos w e w' := by
  have HV := hide (takeV_tag (m := m) hc htag)
  obtain ⟨hfit, _, S, hz, hS, hel⟩ := first_byte hp htag
  have hgl := hu.lt
  obtain ⟨w0, hw0⟩ : ∃ w0, w0 = w.alloc (.cells #[.int .i64 0, .int .i64 0, .string ⟨#[]⟩, .slice none 0 0] 26) := ⟨_, rfl⟩
  have hb0 : Below w.heap.size w w0 := by rw [hw0]; exact (Below.refl w.heap.size w).alloc (Nat.le_refl _) _
  have hr0 : Four w.heap.size w0 := by rw [hw0]; exact ⟨_, _, _, _, heap_new w _⟩
  have hu0 := hu.below hb0
  have HW0 := hide hw0
  have a3 := hu0.cells.2.2.2.1
  have af := frozen_of_heap hu0 3
  have hu1 := hu0.setCount (c + 1)
  have hb1 := ((But.refl g w).below' hb0).set 3 (.int .i64 ((c + 1 : Nat) : Int))
  have hr1 : Four w.heap.size (w0.setCell ⟨g, 3, none⟩ (.int .i64 ((c + 1 : Nat) : Int))) := hr0.keep (Below.heap_setCell _ _ _ _ (by show w.heap.size ≠ g; omega))
  have HS1 := hide (show Sw g (c + 1) data w _ pos false from ⟨hb1, hu1, hr1, hgl, hp⟩)
  have b3 := hu1.cells.2.2.2.1
  rw [show ((c + 1 : Nat) : Int) = (c : Int) + 1 by omega] at b3 HS1
  have hc2 : ¬ (2000 : Int) < (c : Int) + 1 := by omega
  have hd2 : ¬ (100 : Int) < (d : Int) := by omega
  clear hu hu0 hu1 hb1 hr1 hw0 hb0 hr0
  go_enter Tryz.func51, Tryz.ntmps51
  go_upto_region 1 with fail
  rw [← unhide HW0]
  go_wp2_with fail
  obtain ⟨w1, hw1⟩ : ∃ w1, w1 = w0.setCell ⟨g, 3, none⟩ (.int .i64 ((c : Int) + 1)) := ⟨_, rfl⟩
  rw [← hw1] at HS1 ⊢
  clear hw1 a3 af b3 HW0
  have hs1 := unhide HS1
  refine (take_cut g (c + 1) data pos 1 w1 hs1.tk hp hd (by omega)).mono ?_
  rintro e w2 ⟨hb2, ⟨_, rfl, ht2⟩ | ⟨hno, _, _⟩⟩
  rotate_left
  · exact absurd hfit hno
  rw [hS]
  have h2 := ht2.cells.2.2.1
  have HS2 := hide (hs1.go hb2 ht2 hfit)
  clear hb2 ht2 hs1 HS1 htag
  go_wp2_with fail
  refine (sw_take (unhide HS2) 1 hd (by omega)).mono ?_
  rintro e w3 ⟨S3, p3, bad3, rfl, hs3, z3, k3⟩
  obtain ⟨q3, hq3, l3, n3⟩ := took_num k3 z3
  have HS3 := hide hs3
  have HN3 := hide n3
  have L3 : q3 < 256 := l3
  clear hs3 k3 n3 l3
  go_wp2_with fail
  refine (snumber_any S3 w3 (by omega)).mono ?_
  rintro e _ ⟨rfl, rfl⟩
  rw [hq3]
  clear hq3
  go_wp2_with fail
  refine (sw_kids m h (unhide HS3) (q3) (d + 1) _ _ (by omega) (by omega) hd (by omega) hc (by omega)).mono ?_
  rintro e w4 ⟨a4, l4, e4, p4, bad4, c4, rfl, hs4, k4⟩
  have HP4 := hide (unhide HS3).res.lt
  have HS4 := hide hs4
  have HN4 := hide k4
  clear hs4 k4
  go_wp2_with fail
  refine (mk_tuple _ _ _ _).mono ?_
  rintro e w5 ⟨rfl, hb5⟩
  have HB5 := hide hb5
  have HS5 := hide ((unhide HS4).below hb5)
  clear hb5
  obtain ⟨y0, y1, y2, y3, f0, f1, f2, f3, g0, g1, g2, g3⟩ := (unhide HS5).res.cells
  go_wp2_with fail
  exact bodyPost_ret (v := .agg #[.int .i64 6, .int .i64 0, .string ⟨#[]⟩, .slice a4 l4 e4]) (by simp [results, Tryz.results51, go_sem, f0, f1, f2, f3]) rfl (sw_end (unhide HS5) (by
    intro hbad
    rcases unhide HN4 with ⟨_, eb4, ks, e4, cc1, cc2, rfl, kl, hSA⟩ | ⟨x4, _⟩
    rotate_left
    · rw [hbad] at x4; cases x4
    rcases unhide HN3 with ⟨_, eb3, e3⟩ | ⟨x3, _⟩
    rotate_left
    · rw [eb4] at x3; cases x3
    refine ⟨(6, 0, noText, ks), ?_, by omega, cc2, rfl, rfl, rfl, ⟨by omega, by omega⟩, ⟨by omega, by omega⟩, by decide, by have hu5 := kids_up hSA (unhide HB5) (unhide HP4); exact hu5⟩
    rw [unhide HV]
    simp [takeT, takeK, e3, e4]) (by
    intro hbad
    rw [unhide HV]
    rcases unhide HN4 with ⟨x4, _⟩ | ⟨_, y4 | y4⟩
    · rw [hbad] at x4; cases x4
    ·
      rcases unhide HN3 with ⟨x3, _⟩ | ⟨_, y3 | y3⟩
      · rw [y4] at x3; cases x3
      · cases y3
      · simp [takeT, takeK, y3]
    ·
      rcases unhide HN3 with ⟨_, v3, u3⟩ | ⟨_, y3 | y3⟩
      · simp [takeT, takeK, y4, u3]
      · cases y3
      · simp [takeT, takeK, y3]
  ))

set_option maxRecDepth 40000 in
set_option maxHeartbeats 1000000 in
theorem st105 (h : StSaid m) (hu : Tkr g c data pos false w) (hp : pos ≤ data.size) (hd : data.size ≤ 2 ^ 47) (hdm : d + (m + 1) = 101) (hc : c + 1 ≤ 2000) (htag : takeN 1 (suf data pos) = some (105, suf data (pos + 1))) :
    Calls Tryz.prog 51 #[.pointer (some ⟨g, 0, none⟩), .int .i64 d] w fun e w' => StEnd (m + 1) g c data pos w e w' := by
  have HV := hide (takeV_tag (m := m) hc htag)
  obtain ⟨hfit, _, S, hz, hS, hel⟩ := first_byte hp htag
  have hgl := hu.lt
  obtain ⟨w0, hw0⟩ : ∃ w0, w0 = w.alloc (.cells #[.int .i64 0, .int .i64 0, .string ⟨#[]⟩, .slice none 0 0] 26) := ⟨_, rfl⟩
  have hb0 : Below w.heap.size w w0 := by rw [hw0]; exact (Below.refl w.heap.size w).alloc (Nat.le_refl _) _
  have hr0 : Four w.heap.size w0 := by rw [hw0]; exact ⟨_, _, _, _, heap_new w _⟩
  have hu0 := hu.below hb0
  have HW0 := hide hw0
  have a3 := hu0.cells.2.2.2.1
  have af := frozen_of_heap hu0 3
  have hu1 := hu0.setCount (c + 1)
  have hb1 := ((But.refl g w).below' hb0).set 3 (.int .i64 ((c + 1 : Nat) : Int))
  have hr1 : Four w.heap.size (w0.setCell ⟨g, 3, none⟩ (.int .i64 ((c + 1 : Nat) : Int))) := hr0.keep (Below.heap_setCell _ _ _ _ (by show w.heap.size ≠ g; omega))
  have HS1 := hide (show Sw g (c + 1) data w _ pos false from ⟨hb1, hu1, hr1, hgl, hp⟩)
  have b3 := hu1.cells.2.2.2.1
  rw [show ((c + 1 : Nat) : Int) = (c : Int) + 1 by omega] at b3 HS1
  have hc2 : ¬ (2000 : Int) < (c : Int) + 1 := by omega
  have hd2 : ¬ (100 : Int) < (d : Int) := by omega
  clear hu hu0 hu1 hb1 hr1 hw0 hb0 hr0
  go_enter Tryz.func51, Tryz.ntmps51
  go_upto_region 1 with fail
  rw [← unhide HW0]
  go_wp2_with fail
  obtain ⟨w1, hw1⟩ : ∃ w1, w1 = w0.setCell ⟨g, 3, none⟩ (.int .i64 ((c : Int) + 1)) := ⟨_, rfl⟩
  rw [← hw1] at HS1 ⊢
  clear hw1 a3 af b3 HW0
  have hs1 := unhide HS1
  refine (take_cut g (c + 1) data pos 1 w1 hs1.tk hp hd (by omega)).mono ?_
  rintro e w2 ⟨hb2, ⟨_, rfl, ht2⟩ | ⟨hno, _, _⟩⟩
  rotate_left
  · exact absurd hfit hno
  rw [hS]
  have h2 := ht2.cells.2.2.1
  have HS2 := hide (hs1.go hb2 ht2 hfit)
  clear hb2 ht2 hs1 HS1 htag
  go_wp2_with fail
  refine (sw_take (unhide HS2) 2 hd (by omega)).mono ?_
  rintro e w3 ⟨S3, p3, bad3, rfl, hs3, z3, k3⟩
  obtain ⟨q3, hq3, l3, n3⟩ := took_num k3 z3
  have HS3 := hide hs3
  have HN3 := hide n3
  have L3 : q3 < 65536 := l3
  clear hs3 k3 n3 l3
  go_wp2_with fail
  refine (snumber_any S3 w3 (by omega)).mono ?_
  rintro e _ ⟨rfl, rfl⟩
  rw [hq3]
  clear hq3
  go_wp2_with fail
  refine (sw_kids m h (unhide HS3) (q3) (d + 1) _ _ (by omega) (by omega) hd (by omega) hc (by omega)).mono ?_
  rintro e w4 ⟨a4, l4, e4, p4, bad4, c4, rfl, hs4, k4⟩
  have HP4 := hide (unhide HS3).res.lt
  have HS4 := hide hs4
  have HN4 := hide k4
  clear hs4 k4
  go_wp2_with fail
  refine (mk_tuple _ _ _ _).mono ?_
  rintro e w5 ⟨rfl, hb5⟩
  have HB5 := hide hb5
  have HS5 := hide ((unhide HS4).below hb5)
  clear hb5
  obtain ⟨y0, y1, y2, y3, f0, f1, f2, f3, g0, g1, g2, g3⟩ := (unhide HS5).res.cells
  go_wp2_with fail
  exact bodyPost_ret (v := .agg #[.int .i64 6, .int .i64 0, .string ⟨#[]⟩, .slice a4 l4 e4]) (by simp [results, Tryz.results51, go_sem, f0, f1, f2, f3]) rfl (sw_end (unhide HS5) (by
    intro hbad
    rcases unhide HN4 with ⟨_, eb4, ks, e4, cc1, cc2, rfl, kl, hSA⟩ | ⟨x4, _⟩
    rotate_left
    · rw [hbad] at x4; cases x4
    rcases unhide HN3 with ⟨_, eb3, e3⟩ | ⟨x3, _⟩
    rotate_left
    · rw [eb4] at x3; cases x3
    refine ⟨(6, 0, noText, ks), ?_, by omega, cc2, rfl, rfl, rfl, ⟨by omega, by omega⟩, ⟨by omega, by omega⟩, by decide, by have hu5 := kids_up hSA (unhide HB5) (unhide HP4); exact hu5⟩
    rw [unhide HV]
    simp [takeT, takeK, e3, e4]) (by
    intro hbad
    rw [unhide HV]
    rcases unhide HN4 with ⟨x4, _⟩ | ⟨_, y4 | y4⟩
    · rw [hbad] at x4; cases x4
    ·
      rcases unhide HN3 with ⟨x3, _⟩ | ⟨_, y3 | y3⟩
      · rw [y4] at x3; cases x3
      · cases y3
      · simp [takeT, takeK, y3]
    ·
      rcases unhide HN3 with ⟨_, v3, u3⟩ | ⟨_, y3 | y3⟩
      · simp [takeT, takeK, y4, u3]
      · cases y3
      · simp [takeT, takeK, y3]
  ))

set_option maxRecDepth 40000 in
set_option maxHeartbeats 1000000 in
theorem st108 (h : StSaid m) (hu : Tkr g c data pos false w) (hp : pos ≤ data.size) (hd : data.size ≤ 2 ^ 47) (hdm : d + (m + 1) = 101) (hc : c + 1 ≤ 2000) (htag : takeN 1 (suf data pos) = some (108, suf data (pos + 1))) :
    Calls Tryz.prog 51 #[.pointer (some ⟨g, 0, none⟩), .int .i64 d] w fun e w' => StEnd (m + 1) g c data pos w e w' := by
  have HV := hide (takeV_tag (m := m) hc htag)
  obtain ⟨hfit, _, S, hz, hS, hel⟩ := first_byte hp htag
  have hgl := hu.lt
  obtain ⟨w0, hw0⟩ : ∃ w0, w0 = w.alloc (.cells #[.int .i64 0, .int .i64 0, .string ⟨#[]⟩, .slice none 0 0] 26) := ⟨_, rfl⟩
  have hb0 : Below w.heap.size w w0 := by rw [hw0]; exact (Below.refl w.heap.size w).alloc (Nat.le_refl _) _
  have hr0 : Four w.heap.size w0 := by rw [hw0]; exact ⟨_, _, _, _, heap_new w _⟩
  have hu0 := hu.below hb0
  have HW0 := hide hw0
  have a3 := hu0.cells.2.2.2.1
  have af := frozen_of_heap hu0 3
  have hu1 := hu0.setCount (c + 1)
  have hb1 := ((But.refl g w).below' hb0).set 3 (.int .i64 ((c + 1 : Nat) : Int))
  have hr1 : Four w.heap.size (w0.setCell ⟨g, 3, none⟩ (.int .i64 ((c + 1 : Nat) : Int))) := hr0.keep (Below.heap_setCell _ _ _ _ (by show w.heap.size ≠ g; omega))
  have HS1 := hide (show Sw g (c + 1) data w _ pos false from ⟨hb1, hu1, hr1, hgl, hp⟩)
  have b3 := hu1.cells.2.2.2.1
  rw [show ((c + 1 : Nat) : Int) = (c : Int) + 1 by omega] at b3 HS1
  have hc2 : ¬ (2000 : Int) < (c : Int) + 1 := by omega
  have hd2 : ¬ (100 : Int) < (d : Int) := by omega
  clear hu hu0 hu1 hb1 hr1 hw0 hb0 hr0
  go_enter Tryz.func51, Tryz.ntmps51
  go_upto_region 1 with fail
  rw [← unhide HW0]
  go_wp2_with fail
  obtain ⟨w1, hw1⟩ : ∃ w1, w1 = w0.setCell ⟨g, 3, none⟩ (.int .i64 ((c : Int) + 1)) := ⟨_, rfl⟩
  rw [← hw1] at HS1 ⊢
  clear hw1 a3 af b3 HW0
  have hs1 := unhide HS1
  refine (take_cut g (c + 1) data pos 1 w1 hs1.tk hp hd (by omega)).mono ?_
  rintro e w2 ⟨hb2, ⟨_, rfl, ht2⟩ | ⟨hno, _, _⟩⟩
  rotate_left
  · exact absurd hfit hno
  rw [hS]
  have h2 := ht2.cells.2.2.1
  have HS2 := hide (hs1.go hb2 ht2 hfit)
  clear hb2 ht2 hs1 HS1 htag
  go_wp2_with fail
  refine (sw_take (unhide HS2) 2 hd (by omega)).mono ?_
  rintro e w3 ⟨S3, p3, bad3, rfl, hs3, z3, k3⟩
  obtain ⟨q3, hq3, l3, n3⟩ := took_num k3 z3
  have HS3 := hide hs3
  have HN3 := hide n3
  have L3 : q3 < 65536 := l3
  clear hs3 k3 n3 l3
  go_wp2_with fail
  refine (snumber_any S3 w3 (by omega)).mono ?_
  rintro e _ ⟨rfl, rfl⟩
  rw [hq3]
  clear hq3
  go_wp2_with fail
  refine (sw_kids m h (unhide HS3) (q3) (d + 1) _ _ (by omega) (by omega) hd (by omega) hc (by omega)).mono ?_
  rintro e w4 ⟨a4, l4, e4, p4, bad4, c4, rfl, hs4, k4⟩
  have HP4 := hide (unhide HS3).res.lt
  have HS4 := hide hs4
  have HN4 := hide k4
  clear hs4 k4
  go_wp2_with fail
  refine (mk_list _ _ _ _).mono ?_
  rintro e w5 ⟨rfl, hb5⟩
  have HB5 := hide hb5
  have HS5 := hide ((unhide HS4).below hb5)
  clear hb5
  obtain ⟨y0, y1, y2, y3, f0, f1, f2, f3, g0, g1, g2, g3⟩ := (unhide HS5).res.cells
  go_wp2_with fail
  exact bodyPost_ret (v := .agg #[.int .i64 8, .int .i64 0, .string ⟨#[]⟩, .slice a4 l4 e4]) (by simp [results, Tryz.results51, go_sem, f0, f1, f2, f3]) rfl (sw_end (unhide HS5) (by
    intro hbad
    rcases unhide HN4 with ⟨_, eb4, ks, e4, cc1, cc2, rfl, kl, hSA⟩ | ⟨x4, _⟩
    rotate_left
    · rw [hbad] at x4; cases x4
    rcases unhide HN3 with ⟨_, eb3, e3⟩ | ⟨x3, _⟩
    rotate_left
    · rw [eb4] at x3; cases x3
    refine ⟨(8, 0, noText, ks), ?_, by omega, cc2, rfl, rfl, rfl, ⟨by omega, by omega⟩, ⟨by omega, by omega⟩, by decide, by have hu5 := kids_up hSA (unhide HB5) (unhide HP4); exact hu5⟩
    rw [unhide HV]
    simp [takeT, takeK, e3, e4]) (by
    intro hbad
    rw [unhide HV]
    rcases unhide HN4 with ⟨x4, _⟩ | ⟨_, y4 | y4⟩
    · rw [hbad] at x4; cases x4
    ·
      rcases unhide HN3 with ⟨x3, _⟩ | ⟨_, y3 | y3⟩
      · rw [y4] at x3; cases x3
      · cases y3
      · simp [takeT, takeK, y3]
    ·
      rcases unhide HN3 with ⟨_, v3, u3⟩ | ⟨_, y3 | y3⟩
      · simp [takeT, takeK, y4, u3]
      · cases y3
      · simp [takeT, takeK, y3]
  ))

set_option maxRecDepth 40000 in
set_option maxHeartbeats 1000000 in
theorem st116 (h : StSaid m) (hu : Tkr g c data pos false w) (hp : pos ≤ data.size) (hd : data.size ≤ 2 ^ 47) (hdm : d + (m + 1) = 101) (hc : c + 1 ≤ 2000) (htag : takeN 1 (suf data pos) = some (116, suf data (pos + 1))) :
    Calls Tryz.prog 51 #[.pointer (some ⟨g, 0, none⟩), .int .i64 d] w fun e w' => StEnd (m + 1) g c data pos w e w' := by
  have HV := hide (takeV_tag (m := m) hc htag)
  obtain ⟨hfit, _, S, hz, hS, hel⟩ := first_byte hp htag
  have hgl := hu.lt
  obtain ⟨w0, hw0⟩ : ∃ w0, w0 = w.alloc (.cells #[.int .i64 0, .int .i64 0, .string ⟨#[]⟩, .slice none 0 0] 26) := ⟨_, rfl⟩
  have hb0 : Below w.heap.size w w0 := by rw [hw0]; exact (Below.refl w.heap.size w).alloc (Nat.le_refl _) _
  have hr0 : Four w.heap.size w0 := by rw [hw0]; exact ⟨_, _, _, _, heap_new w _⟩
  have hu0 := hu.below hb0
  have HW0 := hide hw0
  have a3 := hu0.cells.2.2.2.1
  have af := frozen_of_heap hu0 3
  have hu1 := hu0.setCount (c + 1)
  have hb1 := ((But.refl g w).below' hb0).set 3 (.int .i64 ((c + 1 : Nat) : Int))
  have hr1 : Four w.heap.size (w0.setCell ⟨g, 3, none⟩ (.int .i64 ((c + 1 : Nat) : Int))) := hr0.keep (Below.heap_setCell _ _ _ _ (by show w.heap.size ≠ g; omega))
  have HS1 := hide (show Sw g (c + 1) data w _ pos false from ⟨hb1, hu1, hr1, hgl, hp⟩)
  have b3 := hu1.cells.2.2.2.1
  rw [show ((c + 1 : Nat) : Int) = (c : Int) + 1 by omega] at b3 HS1
  have hc2 : ¬ (2000 : Int) < (c : Int) + 1 := by omega
  have hd2 : ¬ (100 : Int) < (d : Int) := by omega
  clear hu hu0 hu1 hb1 hr1 hw0 hb0 hr0
  go_enter Tryz.func51, Tryz.ntmps51
  go_upto_region 1 with fail
  rw [← unhide HW0]
  go_wp2_with fail
  obtain ⟨w1, hw1⟩ : ∃ w1, w1 = w0.setCell ⟨g, 3, none⟩ (.int .i64 ((c : Int) + 1)) := ⟨_, rfl⟩
  rw [← hw1] at HS1 ⊢
  clear hw1 a3 af b3 HW0
  have hs1 := unhide HS1
  refine (take_cut g (c + 1) data pos 1 w1 hs1.tk hp hd (by omega)).mono ?_
  rintro e w2 ⟨hb2, ⟨_, rfl, ht2⟩ | ⟨hno, _, _⟩⟩
  rotate_left
  · exact absurd hfit hno
  rw [hS]
  have h2 := ht2.cells.2.2.1
  have HS2 := hide (hs1.go hb2 ht2 hfit)
  clear hb2 ht2 hs1 HS1 htag
  go_wp2_with fail
  refine (sw_take (unhide HS2) 2 hd (by omega)).mono ?_
  rintro e w3 ⟨S3, p3, bad3, rfl, hs3, z3, k3⟩
  obtain ⟨q3, hq3, l3, n3⟩ := took_num k3 z3
  have HS3 := hide hs3
  have HN3 := hide n3
  have L3 : q3 < 65536 := l3
  clear hs3 k3 n3 l3
  go_wp2_with fail
  refine (snumber_any S3 w3 (by omega)).mono ?_
  rintro e _ ⟨rfl, rfl⟩
  rw [hq3]
  clear hq3
  go_wp2_with fail
  refine (sw_kids m h (unhide HS3) (2 * q3) (d + 1) _ _ (by omega) (by omega) hd (by omega) hc (by omega)).mono ?_
  rintro e w4 ⟨a4, l4, e4, p4, bad4, c4, rfl, hs4, k4⟩
  have HP4 := hide (unhide HS3).res.lt
  have HS4 := hide hs4
  have HN4 := hide k4
  clear hs4 k4
  obtain ⟨y0, y1, y2, y3, f0, f1, f2, f3, g0, g1, g2, g3⟩ := (unhide HS4).res.cells
  go_wp2_with fail
  exact bodyPost_ret (v := .agg #[.int .i64 7, .int .i64 0, .string ⟨#[]⟩, .slice a4 l4 e4]) (by simp [results, Tryz.results51, go_sem, f0, f1, f2, f3]) rfl (sw_end (unhide HS4) (by
    intro hbad
    rcases unhide HN4 with ⟨_, eb4, ks, e4, cc1, cc2, rfl, kl, hSA⟩ | ⟨x4, _⟩
    rotate_left
    · rw [hbad] at x4; cases x4
    rcases unhide HN3 with ⟨_, eb3, e3⟩ | ⟨x3, _⟩
    rotate_left
    · rw [eb4] at x3; cases x3
    refine ⟨(7, 0, noText, ks), ?_, by omega, cc2, rfl, rfl, rfl, ⟨by omega, by omega⟩, ⟨by omega, by omega⟩, by decide, by have hu5 := kids_up hSA (Below.refl _ _) (unhide HP4); exact hu5⟩
    rw [unhide HV]
    simp [takeT, takeK, e3, e4]) (by
    intro hbad
    rw [unhide HV]
    rcases unhide HN4 with ⟨x4, _⟩ | ⟨_, y4 | y4⟩
    · rw [hbad] at x4; cases x4
    ·
      rcases unhide HN3 with ⟨x3, _⟩ | ⟨_, y3 | y3⟩
      · rw [y4] at x3; cases x3
      · cases y3
      · simp [takeT, takeK, y3]
    ·
      rcases unhide HN3 with ⟨_, v3, u3⟩ | ⟨_, y3 | y3⟩
      · simp [takeT, takeK, y4, u3]
      · cases y3
      · simp [takeT, takeK, y3]
  ))

set_option maxRecDepth 40000 in
set_option maxHeartbeats 1000000 in
theorem st112 (h : StSaid m) (hu : Tkr g c data pos false w) (hp : pos ≤ data.size) (hd : data.size ≤ 2 ^ 47) (hdm : d + (m + 1) = 101) (hc : c + 1 ≤ 2000) (htag : takeN 1 (suf data pos) = some (112, suf data (pos + 1))) :
    Calls Tryz.prog 51 #[.pointer (some ⟨g, 0, none⟩), .int .i64 d] w fun e w' => StEnd (m + 1) g c data pos w e w' := by
  have HV := hide (takeV_tag (m := m) hc htag)
  obtain ⟨hfit, _, S, hz, hS, hel⟩ := first_byte hp htag
  have hgl := hu.lt
  obtain ⟨w0, hw0⟩ : ∃ w0, w0 = w.alloc (.cells #[.int .i64 0, .int .i64 0, .string ⟨#[]⟩, .slice none 0 0] 26) := ⟨_, rfl⟩
  have hb0 : Below w.heap.size w w0 := by rw [hw0]; exact (Below.refl w.heap.size w).alloc (Nat.le_refl _) _
  have hr0 : Four w.heap.size w0 := by rw [hw0]; exact ⟨_, _, _, _, heap_new w _⟩
  have hu0 := hu.below hb0
  have HW0 := hide hw0
  have a3 := hu0.cells.2.2.2.1
  have af := frozen_of_heap hu0 3
  have hu1 := hu0.setCount (c + 1)
  have hb1 := ((But.refl g w).below' hb0).set 3 (.int .i64 ((c + 1 : Nat) : Int))
  have hr1 : Four w.heap.size (w0.setCell ⟨g, 3, none⟩ (.int .i64 ((c + 1 : Nat) : Int))) := hr0.keep (Below.heap_setCell _ _ _ _ (by show w.heap.size ≠ g; omega))
  have HS1 := hide (show Sw g (c + 1) data w _ pos false from ⟨hb1, hu1, hr1, hgl, hp⟩)
  have b3 := hu1.cells.2.2.2.1
  rw [show ((c + 1 : Nat) : Int) = (c : Int) + 1 by omega] at b3 HS1
  have hc2 : ¬ (2000 : Int) < (c : Int) + 1 := by omega
  have hd2 : ¬ (100 : Int) < (d : Int) := by omega
  clear hu hu0 hu1 hb1 hr1 hw0 hb0 hr0
  go_enter Tryz.func51, Tryz.ntmps51
  go_upto_region 1 with fail
  rw [← unhide HW0]
  go_wp2_with fail
  obtain ⟨w1, hw1⟩ : ∃ w1, w1 = w0.setCell ⟨g, 3, none⟩ (.int .i64 ((c : Int) + 1)) := ⟨_, rfl⟩
  rw [← hw1] at HS1 ⊢
  clear hw1 a3 af b3 HW0
  have hs1 := unhide HS1
  refine (take_cut g (c + 1) data pos 1 w1 hs1.tk hp hd (by omega)).mono ?_
  rintro e w2 ⟨hb2, ⟨_, rfl, ht2⟩ | ⟨hno, _, _⟩⟩
  rotate_left
  · exact absurd hfit hno
  rw [hS]
  have h2 := ht2.cells.2.2.1
  have HS2 := hide (hs1.go hb2 ht2 hfit)
  clear hb2 ht2 hs1 HS1 htag
  go_wp2_with fail
  refine (sw_take (unhide HS2) 7 hd (by omega)).mono ?_
  rintro e w3 ⟨S3, p3, bad3, rfl, hs3, z3, k3⟩
  obtain ⟨q3, hq3, l3, n3⟩ := took_num k3 z3
  have HS3 := hide hs3
  have HN3 := hide n3
  have L3 : q3 < 72057594037927936 := l3
  clear hs3 k3 n3 l3
  go_wp2_with fail
  refine (snumber_any S3 w3 (by omega)).mono ?_
  rintro e _ ⟨rfl, rfl⟩
  rw [hq3]
  clear hq3
  go_wp2_with fail
  refine (sw_take (unhide HS3) 2 hd (by omega)).mono ?_
  rintro e w4 ⟨S4, p4, bad4, rfl, hs4, z4, k4⟩
  obtain ⟨q4, hq4, l4, n4⟩ := took_num k4 z4
  have HS4 := hide hs4
  have HN4 := hide n4
  have L4 : q4 < 65536 := l4
  clear hs4 k4 n4 l4
  go_wp2_with fail
  refine (snumber_any S4 w4 (by omega)).mono ?_
  rintro e _ ⟨rfl, rfl⟩
  rw [hq4]
  clear hq4
  go_wp2_with fail
  refine (sw_kids m h (unhide HS4) (q4) (d + 1) _ _ (by omega) (by omega) hd (by omega) hc (by omega)).mono ?_
  rintro e w5 ⟨a5, l5, e5, p5, bad5, c5, rfl, hs5, k5⟩
  have HP5 := hide (unhide HS4).res.lt
  have HS5 := hide hs5
  have HN5 := hide k5
  clear hs5 k5
  obtain ⟨y0, y1, y2, y3, f0, f1, f2, f3, g0, g1, g2, g3⟩ := (unhide HS5).res.cells
  go_wp2_with fail
  exact bodyPost_ret (v := .agg #[.int .i64 4, .int .i64 q3, .string ⟨#[]⟩, .slice a5 l5 e5]) (by simp [results, Tryz.results51, go_sem, f0, f1, f2, f3]) rfl (sw_end (unhide HS5) (by
    intro hbad
    rcases unhide HN5 with ⟨_, eb5, ks, e5, cc1, cc2, rfl, kl, hSA⟩ | ⟨x5, _⟩
    rotate_left
    · rw [hbad] at x5; cases x5
    rcases unhide HN4 with ⟨_, eb4, e4⟩ | ⟨x4, _⟩
    rotate_left
    · rw [eb5] at x4; cases x4
    rcases unhide HN3 with ⟨_, eb3, e3⟩ | ⟨x3, _⟩
    rotate_left
    · rw [eb4] at x3; cases x3
    refine ⟨(4, (q3 : Int), noText, ks), ?_, by omega, cc2, rfl, rfl, rfl, ⟨by omega, by omega⟩, ⟨by omega, by omega⟩, by decide, kids_up hSA (Below.refl _ _) (unhide HP5)⟩
    rw [unhide HV]
    simp [takeT, takeK, e3, e4, e5]) (by
    intro hbad
    rw [unhide HV]
    rcases unhide HN5 with ⟨x5, _⟩ | ⟨_, y5 | y5⟩
    · rw [hbad] at x5; cases x5
    ·
      rcases unhide HN4 with ⟨x4, _⟩ | ⟨_, y4 | y4⟩
      · rw [y5] at x4; cases x4
      ·
        rcases unhide HN3 with ⟨x3, _⟩ | ⟨_, y3 | y3⟩
        · rw [y4] at x3; cases x3
        · cases y3
        · simp [takeT, takeK, y3]
      ·
        rcases unhide HN3 with ⟨_, v3, u3⟩ | ⟨_, y3 | y3⟩
        · simp [takeT, takeK, y4, u3]
        · cases y3
        · simp [takeT, takeK, y3]
    ·
      rcases unhide HN4 with ⟨_, v4, u4⟩ | ⟨_, y4 | y4⟩
      ·
        rcases unhide HN3 with ⟨_, v3, u3⟩ | ⟨_, y3 | y3⟩
        · simp [takeT, takeK, y5, u4, u3]
        · cases y3
        · simp [takeT, takeK, y3]
      ·
        rcases unhide HN3 with ⟨x3, _⟩ | ⟨_, y3 | y3⟩
        · rw [y4] at x3; cases x3
        · cases y3
        · simp [takeT, takeK, y3]
      ·
        rcases unhide HN3 with ⟨_, v3, u3⟩ | ⟨_, y3 | y3⟩
        · simp [takeT, takeK, y4, u3]
        · cases y3
        · simp [takeT, takeK, y3]
  ))

end
end Go.Proofs.YthfjgffhncogaaaGreat
