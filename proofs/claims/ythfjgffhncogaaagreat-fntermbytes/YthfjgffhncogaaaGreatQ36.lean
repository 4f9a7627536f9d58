/- spec's taker: term at every byte. -/
import Derived.Test.YthfjgffhncogaaaGreatUt3
import Derived.Test.YthfjgffhncogaaaGreatQ31
namespace Go.Proofs.YthfjgffhncogaaaGreat
open Go.RowKit Go.Deep
set_option linter.unusedSimpArgs false
set_option linter.unusedVariables false

theorem Sw.setBad {g c pos : Nat} {data : ByteArray} {w wr : World} {bad : Bool} (h : Sw g c data w wr pos bad) : Sw g c data w (wr.setCell ⟨g, 2, none⟩ (.bool true)) pos true :=
  ⟨h.but.set 2 _, h.tk.setBad, h.res.keep (Below.heap_setCell _ _ _ _ (by show w.heap.size ≠ g; have := h.gl; omega)), h.gl, h.hp⟩
theorem Sw.setCount {g c pos : Nat} {data : ByteArray} {w wr : World} {bad : Bool} (h : Sw g c data w wr pos bad) (c' : Nat) : Sw g c' data w (wr.setCell ⟨g, 3, none⟩ (.int .i64 c')) pos bad :=
  ⟨h.but.set 3 _, h.tk.setCount c', h.res.keep (Below.heap_setCell _ _ _ _ (by show w.heap.size ≠ g; have := h.gl; omega)), h.gl, h.hp⟩
theorem Sw.start {g c pos : Nat} {data : ByteArray} {w : World} (hu : Tkr g c data pos false w) (hp : pos ≤ data.size) : Sw g c data w (w.alloc (.cells #[.int .i64 0, .int .i64 0, .string ⟨#[]⟩, .slice none 0 0] 26)) pos false :=
  have hb0 : Below w.heap.size w (w.alloc (.cells #[.int .i64 0, .int .i64 0, .string ⟨#[]⟩, .slice none 0 0] 26)) := (Below.refl w.heap.size w).alloc (Nat.le_refl _) _
  ⟨(But.refl g w).below' hb0, hu.below hb0, ⟨_, _, _, _, heap_new w _⟩, hu.lt, hp⟩

section
variable (m g c : Nat) (data : ByteArray) (pos d : Nat) (w : World)

set_option maxRecDepth 40000 in
set_option maxHeartbeats 1000000 in
theorem st_many (hu : Tkr g c data pos false w) (hp : pos ≤ data.size) (hc : c ≤ 2000) (hbig : 2000 < c + 1) (hv : takeV m (suf data pos) c = none) :
    Calls Tryz.prog 51 #[.pointer (some ⟨g, 0, none⟩), .int .i64 d] w fun e w' => StEnd m g c data pos w e w' := by
  obtain ⟨w0, hw0⟩ : ∃ w0, w0 = w.alloc (.cells #[.int .i64 0, .int .i64 0, .string ⟨#[]⟩, .slice none 0 0] 26) := ⟨_, rfl⟩
  have hs0 := Sw.start hu hp
  rw [← hw0] at hs0
  have HW0 := hide hw0
  have a3 := hs0.tk.cells.2.2.2.1
  have af := frozen_of_heap hs0.tk 3
  have hs1 := hs0.setCount (c + 1)
  have b3 := hs1.tk.cells.2.2.2.1
  have b2 := hs1.tk.cells.2.2.1
  have bf := frozen_of_heap hs1.tk 2
  rw [show ((c + 1 : Nat) : Int) = (c : Int) + 1 by omega] at b3 b2 bf hs1
  have hc2 : (2000 : Int) < (c : Int) + 1 := by omega
  have HS1 := hide hs1.setBad
  have HV := hide hv
  clear hu hs0 hs1 hw0 hv hbig
  go_enter Tryz.func51, Tryz.ntmps51
  go_upto_region 1 with fail
  rw [← unhide HW0]
  go_wp2_with fail
  refine (take_bad g _ data pos 1 _ (unhide HS1).tk).mono ?_
  rintro e w2 ⟨hb2, rfl, ht2⟩
  have HS2 := hide ((unhide HS1).go hb2 ht2 hp)
  have b5 := ht2.cells.2.2.1
  obtain ⟨y0, y1, y2, y3, f0, f1, f2, f3, g0, g1, g2, g3⟩ := (unhide HS2).res.cells
  clear hb2 ht2 b2 b3 bf a3 af HS1
  go_wp2_with fail
  exact bodyPost_ret (v := .agg #[.int .i64 0, .int .i64 0, .string ⟨#[]⟩, .slice none 0 0]) (by simp [results, Tryz.results51, go_sem, f0, f1, f2, f3]) rfl (sw_end (unhide HS2) (by intro hx; cases hx) (fun _ => unhide HV))

set_option maxRecDepth 40000 in
set_option maxHeartbeats 1000000 in
theorem st_deep (hu : Tkr g c data pos false w) (hp : pos ≤ data.size) (hc : c + 1 ≤ 2000) (hbig : 100 < d) (hv : takeV m (suf data pos) c = none) :
    Calls Tryz.prog 51 #[.pointer (some ⟨g, 0, none⟩), .int .i64 d] w fun e w' => StEnd m g c data pos w e w' := by
  obtain ⟨w0, hw0⟩ : ∃ w0, w0 = w.alloc (.cells #[.int .i64 0, .int .i64 0, .string ⟨#[]⟩, .slice none 0 0] 26) := ⟨_, rfl⟩
  have hs0 := Sw.start hu hp
  rw [← hw0] at hs0
  have HW0 := hide hw0
  have a3 := hs0.tk.cells.2.2.2.1
  have af := frozen_of_heap hs0.tk 3
  have hs1 := hs0.setCount (c + 1)
  have b3 := hs1.tk.cells.2.2.2.1
  have b2 := hs1.tk.cells.2.2.1
  have bf := frozen_of_heap hs1.tk 2
  rw [show ((c + 1 : Nat) : Int) = (c : Int) + 1 by omega] at b3 b2 bf hs1
  have hc2 : ¬ (2000 : Int) < (c : Int) + 1 := by omega
  have hd2 : (100 : Int) < (d : Int) := by omega
  have HS1 := hide hs1.setBad
  have HV := hide hv
  clear hu hs0 hs1 hw0 hv hbig
  go_enter Tryz.func51, Tryz.ntmps51
  go_upto_region 1 with fail
  rw [← unhide HW0]
  go_wp2_with fail
  refine (take_bad g _ data pos 1 _ (unhide HS1).tk).mono ?_
  rintro e w2 ⟨hb2, rfl, ht2⟩
  have HS2 := hide ((unhide HS1).go hb2 ht2 hp)
  have b5 := ht2.cells.2.2.1
  obtain ⟨y0, y1, y2, y3, f0, f1, f2, f3, g0, g1, g2, g3⟩ := (unhide HS2).res.cells
  clear hb2 ht2 b2 b3 bf a3 af HS1
  go_wp2_with fail
  exact bodyPost_ret (v := .agg #[.int .i64 0, .int .i64 0, .string ⟨#[]⟩, .slice none 0 0]) (by simp [results, Tryz.results51, go_sem, f0, f1, f2, f3]) rfl (sw_end (unhide HS2) (by intro hx; cases hx) (fun _ => unhide HV))

set_option maxRecDepth 40000 in
set_option maxHeartbeats 1000000 in
theorem st_out (hu : Tkr g c data pos false w) (hp : pos ≤ data.size) (hd : data.size ≤ 2 ^ 47) (hdm : d + (m + 1) = 101) (hc : c + 1 ≤ 2000) (hno : takeN 1 (suf data pos) = none) :
    Calls Tryz.prog 51 #[.pointer (some ⟨g, 0, none⟩), .int .i64 d] w fun e w' => StEnd (m + 1) g c data pos w e w' := by
  have HV := hide (show takeV (m + 1) (suf data pos) c = none by
    show (if 2000 < c + 1 then none else match takeN 1 (suf data pos) with | none => none | some (tag, r) => takeT (takeV m) tag r (c + 1)) = _
    rw [if_neg (by omega), hno])
  have hfit : ¬ pos + 1 ≤ data.size := by
    intro h
    unfold takeN at hno
    rw [take_yes h] at hno
    cases hno
  obtain ⟨w0, hw0⟩ : ∃ w0, w0 = w.alloc (.cells #[.int .i64 0, .int .i64 0, .string ⟨#[]⟩, .slice none 0 0] 26) := ⟨_, rfl⟩
  have hs0 := Sw.start hu hp
  rw [← hw0] at hs0
  have HW0 := hide hw0
  have a3 := hs0.tk.cells.2.2.2.1
  have af := frozen_of_heap hs0.tk 3
  have hs1 := hs0.setCount (c + 1)
  have b3 := hs1.tk.cells.2.2.2.1
  have b2 := hs1.tk.cells.2.2.1
  have bf := frozen_of_heap hs1.tk 2
  rw [show ((c + 1 : Nat) : Int) = (c : Int) + 1 by omega] at b3 b2 bf hs1
  have hc2 : ¬ (2000 : Int) < (c : Int) + 1 := by omega
  have hd2 : ¬ (100 : Int) < (d : Int) := by omega
  have HS1 := hide hs1
  clear hu hs0 hs1 hw0 hno
  go_enter Tryz.func51, Tryz.ntmps51
  go_upto_region 1 with fail
  rw [← unhide HW0]
  go_wp2_with fail
  refine (take_cut g (c + 1) data pos 1 _ (unhide HS1).tk hp hd (by omega)).mono ?_
  rintro e w2 ⟨hb2, ⟨hyes, _, _⟩ | ⟨_, rfl, ht2⟩⟩
  · exact absurd hyes hfit
  have HS2 := hide ((unhide HS1).go hb2 ht2 hp)
  have b5 := ht2.cells.2.2.1
  obtain ⟨y0, y1, y2, y3, f0, f1, f2, f3, g0, g1, g2, g3⟩ := (unhide HS2).res.cells
  clear hb2 ht2 b2 b3 bf a3 af HS1
  go_wp2_with fail
  exact bodyPost_ret (v := .agg #[.int .i64 0, .int .i64 0, .string ⟨#[]⟩, .slice none 0 0]) (by simp [results, Tryz.results51, go_sem, f0, f1, f2, f3]) rfl (sw_end (unhide HS2) (by intro hx; cases hx) (fun _ => unhide HV))

set_option maxRecDepth 40000 in
set_option maxHeartbeats 1000000 in
theorem st_else (tag : Nat) (n97 : ¬ (tag : Int) = 97) (n98 : ¬ (tag : Int) = 98) (n119 : ¬ (tag : Int) = 119) (n82 : ¬ (tag : Int) = 82) (n114 : ¬ (tag : Int) = 114) (n103 : ¬ (tag : Int) = 103) (n112 : ¬ (tag : Int) = 112) (n104 : ¬ (tag : Int) = 104) (n105 : ¬ (tag : Int) = 105) (n116 : ¬ (tag : Int) = 116) (n106 : ¬ (tag : Int) = 106) (n107 : ¬ (tag : Int) = 107) (n108 : ¬ (tag : Int) = 108) (n109 : ¬ (tag : Int) = 109) (hu : Tkr g c data pos false w) (hp : pos ≤ data.size) (hd : data.size ≤ 2 ^ 47) (hdm : d + (m + 1) = 101) (hc : c + 1 ≤ 2000) (htag : takeN 1 (suf data pos) = some (tag, suf data (pos + 1))) :
    Calls Tryz.prog 51 #[.pointer (some ⟨g, 0, none⟩), .int .i64 d] w fun e w' => StEnd (m + 1) g c data pos w e w' := by
  have HV := hide (show takeV (m + 1) (suf data pos) c = none by
    rw [takeV_tag hc htag]
    simp [takeT, n97, n98, n119, n114, n103, n112, n104, n105, n116, n106, n107, n108, n109])
  obtain ⟨hfit, _, S, hz, hS, hel⟩ := first_byte hp htag
  have hgl := hu.lt
  obtain ⟨w0, hw0⟩ : ∃ w0, w0 = w.alloc (.cells #[.int .i64 0, .int .i64 0, .string ⟨#[]⟩, .slice none 0 0] 26) := ⟨_, rfl⟩
  have hb0 : Below w.heap.size w w0 := by rw [hw0]; exact (Below.refl w.heap.size w).alloc (Nat.le_refl _) _
  have hr0 : Four w.heap.size w0 := by rw [hw0]; exact ⟨_, _, _, _, heap_new w _⟩
  have hu0 := hu.below hb0
  have HW0 := hide hw0
  have a3 := hu0.cells.2.2.2.1
  have af := frozen_of_heap hu0 3
  have hu1 := hu0.setCount (c + 1)
  have hb1 := ((But.refl g w).below' hb0).set 3 (.int .i64 ((c + 1 : Nat) : Int))
  have hr1 : Four w.heap.size (w0.setCell ⟨g, 3, none⟩ (.int .i64 ((c + 1 : Nat) : Int))) := hr0.keep (Below.heap_setCell _ _ _ _ (by show w.heap.size ≠ g; omega))
  have HS1 := hide (show Sw g (c + 1) data w _ pos false from ⟨hb1, hu1, hr1, hgl, hp⟩)
  have b3 := hu1.cells.2.2.2.1
  rw [show ((c + 1 : Nat) : Int) = (c : Int) + 1 by omega] at b3 HS1
  have hc2 : ¬ (2000 : Int) < (c : Int) + 1 := by omega
  have hd2 : ¬ (100 : Int) < (d : Int) := by omega
  clear hu hu0 hu1 hb1 hr1 hw0 hb0 hr0
  go_enter Tryz.func51, Tryz.ntmps51
  go_upto_region 1 with fail
  rw [← unhide HW0]
  go_wp2_with fail
  obtain ⟨w1, hw1⟩ : ∃ w1, w1 = w0.setCell ⟨g, 3, none⟩ (.int .i64 ((c : Int) + 1)) := ⟨_, rfl⟩
  rw [← hw1] at HS1 ⊢
  clear hw1 a3 af b3 HW0
  have hs1 := unhide HS1
  refine (take_cut g (c + 1) data pos 1 w1 hs1.tk hp hd (by omega)).mono ?_
  rintro e w2 ⟨hb2, ⟨_, rfl, ht2⟩ | ⟨hno, _, _⟩⟩
  rotate_left
  · exact absurd hfit hno
  rw [hS]
  have h2 := ht2.cells.2.2.1
  have HS2 := hide (hs1.go hb2 ht2 hfit)
  have h3 := frozen_of_heap ht2 2
  clear hb2 ht2 hs1 HS1 htag
  have hs3 := (unhide HS2).setBad
  obtain ⟨y0, y1, y2, y3, f0, f1, f2, f3, g0, g1, g2, g3⟩ := hs3.res.cells
  have HS3 := hide hs3
  clear hs3
  go_wp2_with fail
  exact bodyPost_ret (v := .agg #[.int .i64 0, .int .i64 0, .string ⟨#[]⟩, .slice none 0 0]) (by simp [results, Tryz.results51, go_sem, f0, f1, f2, f3]) rfl (sw_end (unhide HS3) (by intro hx; cases hx) (fun _ => unhide HV))

set_option maxRecDepth 40000 in
set_option maxHeartbeats 1000000 in
theorem st82 (hu : Tkr g c data pos false w) (hp : pos ≤ data.size) (hd : data.size ≤ 2 ^ 47) (hdm : d + (m + 1) = 101) (hc : c + 1 ≤ 2000) (htag : takeN 1 (suf data pos) = some (82, suf data (pos + 1))) :
    Calls Tryz.prog 51 #[.pointer (some ⟨g, 0, none⟩), .int .i64 d] w fun e w' => StEnd (m + 1) g c data pos w e w' := by
  have HV := hide (show takeV (m + 1) (suf data pos) c = none by
    rw [takeV_tag hc htag]
    simp [takeT])
  obtain ⟨hfit, _, S, hz, hS, hel⟩ := first_byte hp htag
  have hgl := hu.lt
  obtain ⟨w0, hw0⟩ : ∃ w0, w0 = w.alloc (.cells #[.int .i64 0, .int .i64 0, .string ⟨#[]⟩, .slice none 0 0] 26) := ⟨_, rfl⟩
  have hb0 : Below w.heap.size w w0 := by rw [hw0]; exact (Below.refl w.heap.size w).alloc (Nat.le_refl _) _
  have hr0 : Four w.heap.size w0 := by rw [hw0]; exact ⟨_, _, _, _, heap_new w _⟩
  have hu0 := hu.below hb0
  have HW0 := hide hw0
  have a3 := hu0.cells.2.2.2.1
  have af := frozen_of_heap hu0 3
  have hu1 := hu0.setCount (c + 1)
  have hb1 := ((But.refl g w).below' hb0).set 3 (.int .i64 ((c + 1 : Nat) : Int))
  have hr1 : Four w.heap.size (w0.setCell ⟨g, 3, none⟩ (.int .i64 ((c + 1 : Nat) : Int))) := hr0.keep (Below.heap_setCell _ _ _ _ (by show w.heap.size ≠ g; omega))
  have HS1 := hide (show Sw g (c + 1) data w _ pos false from ⟨hb1, hu1, hr1, hgl, hp⟩)
  have b3 := hu1.cells.2.2.2.1
  rw [show ((c + 1 : Nat) : Int) = (c : Int) + 1 by omega] at b3 HS1
  have hc2 : ¬ (2000 : Int) < (c : Int) + 1 := by omega
  have hd2 : ¬ (100 : Int) < (d : Int) := by omega
  clear hu hu0 hu1 hb1 hr1 hw0 hb0 hr0
  go_enter Tryz.func51, Tryz.ntmps51
  go_upto_region 1 with fail
  rw [← unhide HW0]
  go_wp2_with fail
  obtain ⟨w1, hw1⟩ : ∃ w1, w1 = w0.setCell ⟨g, 3, none⟩ (.int .i64 ((c : Int) + 1)) := ⟨_, rfl⟩
  rw [← hw1] at HS1 ⊢
  clear hw1 a3 af b3 HW0
  have hs1 := unhide HS1
  refine (take_cut g (c + 1) data pos 1 w1 hs1.tk hp hd (by omega)).mono ?_
  rintro e w2 ⟨hb2, ⟨_, rfl, ht2⟩ | ⟨hno, _, _⟩⟩
  rotate_left
  · exact absurd hfit hno
  rw [hS]
  have h2 := ht2.cells.2.2.1
  have HS2 := hide (hs1.go hb2 ht2 hfit)
  clear hb2 ht2 hs1 HS1 htag
  go_wp2_with fail
  refine (sw_take (unhide HS2) 1 hd (by omega)).mono ?_
  rintro e w3 ⟨S3, p3, bad3, rfl, hs3, z3, k3⟩
  obtain ⟨q3, hq3, l3, n3⟩ := took_num k3 z3
  have HS3 := hide hs3
  have HN3 := hide n3
  have L3 : q3 < 256 := l3
  clear hs3 k3 n3 l3
  go_wp2_with fail
  refine (snumber_any S3 w3 (by omega)).mono ?_
  rintro e _ ⟨rfl, rfl⟩
  rw [hq3]
  clear hq3
  have hq0 : ¬ (q3 : Int) < 0 := by omega
  have hs4 := (unhide HS3).setBad
  have b4 := (unhide HS3).tk.cells.2.2.2.2
  have b5 := (unhide HS3).tk.cells.2.2.1
  have b6 := frozen_of_heap (unhide HS3).tk 2
  obtain ⟨y0, y1, y2, y3, f0, f1, f2, f3, g0, g1, g2, g3⟩ := hs4.res.cells
  have HS4 := hide hs4
  clear hs4 h2
  go_wp2_with fail
  exact bodyPost_ret (v := .agg #[.int .i64 0, .int .i64 0, .string ⟨#[]⟩, .slice none 0 0]) (by simp [results, Tryz.results51, go_sem, f0, f1, f2, f3]) rfl (sw_end (unhide HS4) (by intro hx; cases hx) (fun _ => unhide HV))

set_option maxRecDepth 40000 in
set_option maxHeartbeats 1000000 in
theorem st106 (hu : Tkr g c data pos false w) (hp : pos ≤ data.size) (hd : data.size ≤ 2 ^ 47) (hdm : d + (m + 1) = 101) (hc : c + 1 ≤ 2000) (htag : takeN 1 (suf data pos) = some (106, suf data (pos + 1))) :
    Calls Tryz.prog 51 #[.pointer (some ⟨g, 0, none⟩), .int .i64 d] w fun e w' => StEnd (m + 1) g c data pos w e w' := by
  have HV := hide (takeV_tag (m := m) hc htag)
  obtain ⟨hfit, _, S, hz, hS, hel⟩ := first_byte hp htag
  have hgl := hu.lt
  obtain ⟨w0, hw0⟩ : ∃ w0, w0 = w.alloc (.cells #[.int .i64 0, .int .i64 0, .string ⟨#[]⟩, .slice none 0 0] 26) := ⟨_, rfl⟩
  have hb0 : Below w.heap.size w w0 := by rw [hw0]; exact (Below.refl w.heap.size w).alloc (Nat.le_refl _) _
  have hr0 : Four w.heap.size w0 := by rw [hw0]; exact ⟨_, _, _, _, heap_new w _⟩
  have hu0 := hu.below hb0
  have HW0 := hide hw0
  have a3 := hu0.cells.2.2.2.1
  have af := frozen_of_heap hu0 3
  have hu1 := hu0.setCount (c + 1)
  have hb1 := ((But.refl g w).below' hb0).set 3 (.int .i64 ((c + 1 : Nat) : Int))
  have hr1 : Four w.heap.size (w0.setCell ⟨g, 3, none⟩ (.int .i64 ((c + 1 : Nat) : Int))) := hr0.keep (Below.heap_setCell _ _ _ _ (by show w.heap.size ≠ g; omega))
  have HS1 := hide (show Sw g (c + 1) data w _ pos false from ⟨hb1, hu1, hr1, hgl, hp⟩)
  have b3 := hu1.cells.2.2.2.1
  rw [show ((c + 1 : Nat) : Int) = (c : Int) + 1 by omega] at b3 HS1
  have hc2 : ¬ (2000 : Int) < (c : Int) + 1 := by omega
  have hd2 : ¬ (100 : Int) < (d : Int) := by omega
  clear hu hu0 hu1 hb1 hr1 hw0 hb0 hr0
  go_enter Tryz.func51, Tryz.ntmps51
  go_upto_region 1 with fail
  rw [← unhide HW0]
  go_wp2_with fail
  obtain ⟨w1, hw1⟩ : ∃ w1, w1 = w0.setCell ⟨g, 3, none⟩ (.int .i64 ((c : Int) + 1)) := ⟨_, rfl⟩
  rw [← hw1] at HS1 ⊢
  clear hw1 a3 af b3 HW0
  have hs1 := unhide HS1
  refine (take_cut g (c + 1) data pos 1 w1 hs1.tk hp hd (by omega)).mono ?_
  rintro e w2 ⟨hb2, ⟨_, rfl, ht2⟩ | ⟨hno, _, _⟩⟩
  rotate_left
  · exact absurd hfit hno
  rw [hS]
  have h2 := ht2.cells.2.2.1
  have HS2 := hide (hs1.go hb2 ht2 hfit)
  clear hb2 ht2 hs1 HS1 htag
  have HS3 := hide ((unhide HS2).below ((Below.refl _ _).alloc (Nat.le_refl _) (.cells #[] 26)))
  go_wp2_with fail
  refine (mk_list _ _ _ _).mono ?_
  rintro e w4 ⟨rfl, hb4⟩
  have hs4 := (unhide HS3).below hb4
  obtain ⟨y0, y1, y2, y3, f0, f1, f2, f3, g0, g1, g2, g3⟩ := hs4.res.cells
  have HS4 := hide hs4
  clear hs4 hb4 h2
  go_wp2_with fail
  exact bodyPost_ret (v := .agg #[.int .i64 8, .int .i64 0, .string ⟨#[]⟩, .slice (some ⟨w2.heap.size, 0, none⟩) 0 0]) (by simp [results, Tryz.results51, go_sem, f0, f1, f2, f3]) rfl (sw_end (unhide HS4) (by
    intro _
    refine ⟨leafT (m + 1) 8 0 noText, ?_, Nat.lt_succ_self c, hc, rfl, rfl, rfl, ⟨by omega, by omega⟩, ⟨by omega, by omega⟩, by decide, sat_none⟩
    rw [unhide HV]
    simp [takeT]) (by intro hx; cases hx))

end
end Go.Proofs.YthfjgffhncogaaaGreat
/- spec's taker: term for a text of bytes; term as a whole. -/
namespace Go.Proofs.YthfjgffhncogaaaGreat
open Go.RowKit Go.Deep
set_option linter.unusedSimpArgs false
set_option linter.unusedVariables false

theorem Sw.low {g c pos : Nat} {data : ByteArray} {w w1 w2 : World} {bad : Bool} (h : Sw g c data w w1 pos bad) (hb : Below (w.heap.size + 1) w1 w2) : Sw g c data w w2 pos bad := by
  have hgl := h.gl
  have hl := h.res.lt
  exact ⟨⟨hb.os.trans h.but.os, hb.tape.trans h.but.tape, hb.output.trans h.but.output, Nat.le_trans h.but.size hb.size, fun k hk hn => (hb.block k (by omega)).trans (h.but.block k hk hn)⟩, (hb.block g (by omega)).trans h.tk, h.res.keep (hb.block _ (by omega)), hgl, h.hp⟩

section
variable (m g c : Nat) (data : ByteArray) (pos d : Nat) (w : World)

set_option maxRecDepth 40000 in
set_option maxHeartbeats 2000000 in
theorem st107 (hu : Tkr g c data pos false w) (hp : pos ≤ data.size) (hd : data.size ≤ 2 ^ 47) (hdm : d + (m + 1) = 101) (hc : c + 1 ≤ 2000) (htag : takeN 1 (suf data pos) = some (107, suf data (pos + 1))) :
    Calls Tryz.prog 51 #[.pointer (some ⟨g, 0, none⟩), .int .i64 d] w fun e w' => StEnd (m + 1) g c data pos w e w' := by
  have HV := hide (takeV_tag (m := m) hc htag)
  obtain ⟨hfit, _, S, hz, hS, hel⟩ := first_byte hp htag
  have hgl := hu.lt
  obtain ⟨w0, hw0⟩ : ∃ w0, w0 = w.alloc (.cells #[.int .i64 0, .int .i64 0, .string ⟨#[]⟩, .slice none 0 0] 26) := ⟨_, rfl⟩
  have hb0 : Below w.heap.size w w0 := by rw [hw0]; exact (Below.refl w.heap.size w).alloc (Nat.le_refl _) _
  have hr0 : Four w.heap.size w0 := by rw [hw0]; exact ⟨_, _, _, _, heap_new w _⟩
  have hu0 := hu.below hb0
  have HW0 := hide hw0
  have a3 := hu0.cells.2.2.2.1
  have af := frozen_of_heap hu0 3
  have hu1 := hu0.setCount (c + 1)
  have hb1 := ((But.refl g w).below' hb0).set 3 (.int .i64 ((c + 1 : Nat) : Int))
  have hr1 : Four w.heap.size (w0.setCell ⟨g, 3, none⟩ (.int .i64 ((c + 1 : Nat) : Int))) := hr0.keep (Below.heap_setCell _ _ _ _ (by show w.heap.size ≠ g; omega))
  have HS1 := hide (show Sw g (c + 1) data w _ pos false from ⟨hb1, hu1, hr1, hgl, hp⟩)
  have b3 := hu1.cells.2.2.2.1
  rw [show ((c + 1 : Nat) : Int) = (c : Int) + 1 by omega] at b3 HS1
  have hc2 : ¬ (2000 : Int) < (c : Int) + 1 := by omega
  have hd2 : ¬ (100 : Int) < (d : Int) := by omega
  clear hu hu0 hu1 hb1 hr1 hw0 hb0 hr0
  go_enter Tryz.func51, Tryz.ntmps51
  go_upto_region 1 with fail
  rw [← unhide HW0]
  go_wp2_with fail
  obtain ⟨w1, hw1⟩ : ∃ w1, w1 = w0.setCell ⟨g, 3, none⟩ (.int .i64 ((c : Int) + 1)) := ⟨_, rfl⟩
  rw [← hw1] at HS1 ⊢
  clear hw1 a3 af b3 HW0
  have hs1 := unhide HS1
  refine (take_cut g (c + 1) data pos 1 w1 hs1.tk hp hd (by omega)).mono ?_
  rintro e w2 ⟨hb2, ⟨_, rfl, ht2⟩ | ⟨hno, _, _⟩⟩
  rotate_left
  · exact absurd hfit hno
  rw [hS]
  have h2 := ht2.cells.2.2.1
  have HS2 := hide (hs1.go hb2 ht2 hfit)
  clear hb2 ht2 hs1 HS1 htag
  go_wp2_with fail
  refine (sw_take (unhide HS2) 2 hd (by omega)).mono ?_
  rintro e w3 ⟨S3, p3, bad3, rfl, hs3, z3, k3⟩
  obtain ⟨q3, hq3, l3, n3⟩ := took_num k3 z3
  have HS3 := hide hs3
  have HN3 := hide n3
  have L3 : q3 < 65536 := l3
  clear hs3 k3 n3 l3
  go_wp2_with fail
  refine (snumber_any S3 w3 (by omega)).mono ?_
  rintro e _ ⟨rfl, rfl⟩
  rw [hq3]
  clear hq3
  go_wp2_with fail
  refine (sw_take (unhide HS3) q3 hd (by omega)).mono ?_
  rintro e w4 ⟨S4, p4, bad4, rfl, hs4, z4, k4⟩
  have HS4 := hide hs4
  have HN4 := hide k4
  clear hs4 k4
  obtain ⟨x, hx⟩ : ∃ x, x = txtL S4 := ⟨_, rfl⟩
  have hxl : x.length = S4.size := by rw [hx, txtL_length]
  have HX := hide hx
  have HXL := hide hxl
  have HBS := hide (unhide HS4).res.lt
  have HR0 := hide (rows_lit (n := m + 1) (base := w.heap.size + 1) w4 (unhide HS4).res.lt)
  have HS5 := hide ((unhide HS4).below ((Below.refl _ _).alloc (Nat.le_refl _) (.cells #[] 26)))
  clear hx hxl h2
  go_wp2_with fail
  go_loopw [11, 12] (fun rv iv wr => ∃ (i : Nat) (xs : List Value), i ≤ S4.size ∧ iv = .int .i64 i ∧ RowsX (w.heap.size + 1) wr ((x.take i).map fun b => leafT m 1 b noText) rv xs ∧ Sw g (c + 1) data w wr p4 bad4) (fun _ iv _ => S4.size - (intOf iv).toNat)
  case atStart => exact ⟨0, [], Nat.zero_le _, rfl, unhide HR0, unhide HS5⟩
  case round =>
    obtain ⟨i, xs, hi, rfl, hX, hs⟩ := hrel
    have hxl := unhide HXL
    obtain ⟨a, cap, rfl⟩ := rows_form hX
    have hll : ((x.take i).map fun b => leafT m 1 b noText).length = i := by rw [List.length_map, List.length_take]; omega
    by_cases hlt : i < S4.size
    · have hel4 : ((S4[i]'(by omega)).toNat : Int) = x[i]'(by omega) := by
        have h1 := txtL_take S4 i (by omega)
        rw [← unhide HX, List.take_succ_eq_append_getElem (by omega)] at h1
        have h2 := List.append_cancel_left h1
        injection h2 with h3 h4
        exact h3.symm
      have hsi : (i : Int) < (S4.size : Int) := by omega
      have hb8 : (S4[i]'(by omega)).toNat < 256 := (S4[i]'(by omega)).toNat_lt
      have hts := hide (show ((x.take (i + 1)).map fun b => leafT m 1 b noText) = ((x.take i).map fun b => leafT m 1 b noText) ++ [leafT m 1 (x[i]'(by omega)) noText] by
        rw [List.take_succ_eq_append_getElem (by omega), List.map_append]; rfl)
      obtain ⟨b8, hb8e⟩ : ∃ b8, b8 = x[i]'(by omega) := ⟨_, rfl⟩
      rw [← hb8e] at hel4 hts
      have hbv : 0 ≤ b8 ∧ b8 < 256 := by omega
      have HBV := hide hbv
      have HRX := hide hX
      have HSS := hide hs
      have HLL := hide hll
      clear hb8e hbv hX hs hll
      rw [unhide HLL]
      go_wp2_with fail
      refine (mk_int _ _).mono ?_
      rintro e w6 ⟨rfl, hb6⟩
      have hS6 := (unhide HSS).below hb6
      have hX6 := (unhide HRX).up hb6
      have hbv := unhide HBV
      have hbe : w.heap.size + 1 ≤ w6.heap.size := hS6.res.lt
      have ht : TAt (fun _ => False) w6 (m + 1) (leafT m 1 b8 noText) (.int .i64 1) (.int .i64 b8) (.string ⟨#[]⟩) (.slice none 0 0) := ⟨rfl, rfl, rfl, ⟨by omega, by omega⟩, ⟨by omega, by omega⟩, by decide, sat_none⟩
      obtain ⟨R, cp, w7, hr7, hX7, hB7⟩ := row_put hX6 (by have := unhide HLL; omega) ht (fun b hb => hb.elim) (wz := w6.alloc _) ⟨rfl, rfl, rfl, rfl⟩ hbe 24
      rw [← unhide hts] at hX7
      rw [unhide HLL] at hr7 hX7
      have HR7 := hide hr7
      have HX7 := hide hX7
      have HS7 := hide (hS6.low hB7)
      clear hb6 hS6 hX6 hbv hbe ht hr7 hX7 hB7
      go_wp2_with (at_builtin; refine Go.Lib.wpList_append_run _ rfl (.tmp 164) (.tmp 170) 24 24 rfl _ _ rfl rfl _ _ (unhide HR7) ?_)
      go_roundw
      case rel => exact ⟨i + 1, _, hlt, by go_num, unhide HX7, unhide HS7⟩
      case measure => simp [intOf]; omega
    · have hkk : i = S4.size := by omega
      subst hkk
      have hxx : x.take S4.size = x := by rw [← hxl, List.take_length]
      rw [hxx] at hX hll ⊢
      rw [hll]
      have HRX := hide hX
      have HSS := hide hs
      have HLL := hide hll
      have HLI := hide (show S4.size ≤ 65535 by omega)
      clear hX hs hll hxx hxl
      go_wp2_with fail
      refine (mk_list _ _ _ _).mono ?_
      rintro e w6 ⟨rfl, hb6⟩
      have hs6 := (unhide HSS).below hb6
      have hsa := ((unhide HRX).up hb6).sat (by have := unhide HLL; have := unhide HLI; omega)
      rw [unhide HLL, unhide HX] at hsa
      have HSA := hide hsa
      obtain ⟨y0, y1, y2, y3, f0, f1, f2, f3, g0, g1, g2, g3⟩ := hs6.res.cells
      have HS6 := hide hs6
      clear hs6 hb6 hsa
      go_wp2_with fail
      exact bodyPost_ret (v := .agg #[.int .i64 8, .int .i64 0, .string ⟨#[]⟩, .slice a S4.size cap]) (by simp [results, Tryz.results51, go_sem, f0, f1, f2, f3]) rfl (sw_end (unhide HS6) (by
        intro hbad
        rcases unhide HN4 with ⟨_, eb4, e4⟩ | ⟨x4, _⟩
        rotate_left
        · rw [hbad] at x4; cases x4
        rcases unhide HN3 with ⟨_, eb3, e3⟩ | ⟨x3, _⟩
        rotate_left
        · rw [eb4] at x3; cases x3
        have HSAT := unhide HSA
        refine ⟨(8, 0, noText, (txtL S4).map fun b => leafT m 1 b noText), ?_, Nat.lt_succ_self c, hc, rfl, rfl, rfl, ⟨by omega, by omega⟩, ⟨by omega, by omega⟩, by decide, HSAT⟩
        rw [unhide HV]
        simp [takeT, takeK, e3, e4]) (by
        intro hbad
        rw [unhide HV]
        rcases unhide HN4 with ⟨x4, _⟩ | ⟨_, _, y4 | y4⟩
        · rw [hbad] at x4; cases x4
        ·
          rcases unhide HN3 with ⟨x3, _⟩ | ⟨_, y3 | y3⟩
          · rw [y4] at x3; cases x3
          · cases y3
          · simp [takeT, takeK, y3]
        ·
          rcases unhide HN3 with ⟨_, v3, u3⟩ | ⟨_, y3 | y3⟩
          · simp [takeT, takeK, y4, u3]
          · cases y3
          · simp [takeT, takeK, y3]
      ))

end

theorem sterm_of {m : Nat} (h : StSaid m) : StSaid (m + 1) := by
  intro g c data pos d w hu hp hd hdm hc
  by_cases h1 : 2000 < c + 1
  · refine st_many _ g c data pos d w hu hp hc h1 ?_
    show (if 2000 < c + 1 then none else match takeN 1 (suf data pos) with | none => none | some (tag, r) => takeT (takeV m) tag r (c + 1)) = _
    rw [if_pos h1]
  · have hc1 : c + 1 ≤ 2000 := by omega
    rcases takeN_at data pos hp with hno | ⟨tag, htag⟩
    · exact st_out m g c data pos d w hu hp hd hdm hc1 hno
    · by_cases n97 : tag = 97
      · subst n97; exact st97 m g c data pos d w hu hp hd hdm hc1 htag
      by_cases n98 : tag = 98
      · subst n98; exact st98 m g c data pos d w hu hp hd hdm hc1 htag
      by_cases n119 : tag = 119
      · subst n119; exact st119 m g c data pos d w hu hp hd hdm hc1 htag
      by_cases n82 : tag = 82
      · subst n82; exact st82 m g c data pos d w hu hp hd hdm hc1 htag
      by_cases n114 : tag = 114
      · subst n114; exact st114 m g c data pos d w hu hp hd hdm hc1 htag
      by_cases n103 : tag = 103
      · subst n103; exact st103 m g c data pos d w hu hp hd hdm hc1 htag
      by_cases n112 : tag = 112
      · subst n112; exact st112 m g c data pos d w h hu hp hd hdm hc1 htag
      by_cases n104 : tag = 104
      · subst n104; exact st104 m g c data pos d w h hu hp hd hdm hc1 htag
      by_cases n105 : tag = 105
      · subst n105; exact st105 m g c data pos d w h hu hp hd hdm hc1 htag
      by_cases n116 : tag = 116
      · subst n116; exact st116 m g c data pos d w h hu hp hd hdm hc1 htag
      by_cases n106 : tag = 106
      · subst n106; exact st106 m g c data pos d w hu hp hd hdm hc1 htag
      by_cases n107 : tag = 107
      · subst n107; exact st107 m g c data pos d w hu hp hd hdm hc1 htag
      by_cases n108 : tag = 108
      · subst n108; exact st108 m g c data pos d w h hu hp hd hdm hc1 htag
      by_cases n109 : tag = 109
      · subst n109; exact st109 m g c data pos d w hu hp hd hdm hc1 htag
      exact st_else m g c data pos d w tag (by omega) (by omega) (by omega) (by omega) (by omega) (by omega) (by omega) (by omega) (by omega) (by omega) (by omega) (by omega) (by omega) (by omega) hu hp hd hdm hc1 htag

theorem sterm_any : ∀ m, StSaid m
  | 0 => fun g c data pos d w hu hp _ hdm hc => by
    by_cases h1 : 2000 < c + 1
    · exact st_many 0 g c data pos d w hu hp hc h1 rfl
    · exact st_deep 0 g c data pos d w hu hp (by omega) (by omega) rfl
  | m + 1 => sterm_of (sterm_any m)

end Go.Proofs.YthfjgffhncogaaaGreat
