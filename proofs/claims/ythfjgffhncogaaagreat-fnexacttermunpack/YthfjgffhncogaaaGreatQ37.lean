/- The laws' markTerm and heldTerm. -/
import Derived.Test.YthfjgffhncogaaaGreatQ36
import Derived.Test.YthfjgffhncogaaaGreatQ2
import Derived.Test.YthfjgffhncogaaaGreatQ32
import Derived.Deep.RegionWith
namespace Go.Proofs.YthfjgffhncogaaaGreat
open Go.RowKit Go.Deep

set_option maxRecDepth 40000 in
set_option maxHeartbeats 1000000 in
theorem markTerm_any {n : Nat} (ks : List (Tm n)) (k1 k2 : Int) (s : ByteArray) (a : Option Addr) (l cap lo hi k : Nat) (w : World) (hO : OwnS w n lo hi ks (.slice a l cap)) (hhi : hi ≤ w.heap.size) (hk : k + 3 * sizS ks ≤ 100000) :
    Calls Tryz.prog 23 #[.agg #[.int .i64 k1, .int .i64 k2, .string s, .slice a l cap], .int .i64 k] w fun e w' => e = .returned (.int .i64 ((k + 3 * sizS ks : Nat) : Int)) ∧ Out lo hi w w' ∧ MkdS w' n lo hi ks (.slice a l cap) k := by
  have hb := (Below.refl w.heap.size w).alloc (Nat.le_refl _) (.cells #[.int .i64 k1, .int .i64 k2, .string s, .slice a l cap] 26)
  have hcall := hide (mark_any n ks (.slice a l cap) lo hi k (w.alloc (.cells #[.int .i64 k1, .int .i64 k2, .string s, .slice a l cap] 26)) (hO.keep fun b _ h2 => hb.block b (by omega)) (by simp; omega) hk)
  have HB := hide hb
  clear hO hb
  go_enter Tryz.func23, Tryz.ntmps23
  go_wp2_with fail
  refine (unhide hcall).mono ?_
  rintro e w1 ⟨rfl, ho, hm⟩
  have HO := hide ho
  have HM := hide hm
  obtain ⟨Z, hZ⟩ : ∃ Z : Int, Z = ((k + 3 * sizS ks : Nat) : Int) := ⟨_, rfl⟩
  rw [← hZ]
  have HZ := hide hZ
  clear ho hm hcall hZ
  go_wp2_with fail
  go_ret
  exact ⟨congrArg (fun z => Ending.returned (Value.int .i64 z)) (unhide HZ), (Out.below (unhide HB)).trans (unhide HO), unhide HM⟩

set_option maxRecDepth 40000 in
set_option maxHeartbeats 1000000 in
theorem heldTerm_any {n : Nat} (ks : List (Tm n)) (k1 k2 : Int) (s : ByteArray) (a : Option Addr) (l cap lo hi k : Nat) (w : World) (hM : MkdS w n lo hi ks (.slice a l cap) k) (hhi : hi ≤ w.heap.size) (hk : k + 3 * sizS ks ≤ 100000) :
    Calls Tryz.prog 24 #[.agg #[.int .i64 k1, .int .i64 k2, .string s, .slice a l cap], .int .i64 k] w fun e w' => e = .returned (.int .i64 ((k + 3 * sizS ks : Nat) : Int)) ∧ Below w.heap.size w w' := by
  have hb := (Below.refl w.heap.size w).alloc (Nat.le_refl _) (.cells #[.int .i64 k1, .int .i64 k2, .string s, .slice a l cap] 26)
  have hcall := hide (held_any n ks (.slice a l cap) lo hi k (w.alloc (.cells #[.int .i64 k1, .int .i64 k2, .string s, .slice a l cap] 26)) (hM.keep (fun b _ h2 => hb.block b (by omega)) (Nat.le_refl _) (Nat.le_refl _)) (by simp; omega) hk)
  have HB := hide hb
  clear hM hb
  go_enter Tryz.func24, Tryz.ntmps24
  go_wp2_with fail
  refine (unhide hcall).mono ?_
  rintro e w1 ⟨rfl, hb1⟩
  have HB1 := hide ((unhide HB).trans (hb1.mono (by simp)))
  obtain ⟨Z, hZ⟩ : ∃ Z : Int, Z = ((k + 3 * sizS ks : Nat) : Int) := ⟨_, rfl⟩
  rw [← hZ]
  have hZ0 : ¬ Z < 0 := by omega
  have HZ := hide hZ
  clear hb1 hcall hZ
  go_wp2_with fail
  go_ret
  exact ⟨congrArg (fun z => Ending.returned (Value.int .i64 z)) (unhide HZ), unhide HB1⟩

end Go.Proofs.YthfjgffhncogaaaGreat
/- The law of TermUnpack: its own walk. -/
namespace Go.Proofs.YthfjgffhncogaaaGreat
open Go.RowKit Go.Deep

set_option maxRecDepth 40000 in
set_option maxHeartbeats 2000000 in
theorem law9_any (data : ByteArray) (w : World) :
    Calls Tryz.prog 7 #[.string data] w fun e w' => e = .returned (.bool true) ∧ Below w.heap.size w w' := by
  by_cases hl : data.size ≤ 1048576
  rotate_left
  · have hl' : (1048576 : Int) < (data.size : Int) := by omega
    go_enter Tryz.func7, Tryz.ntmps7
    go_wp2_with fail
    go_ret
    exact ⟨rfl, Below.refl _ _⟩
  have hl' : ¬ (1048576 : Int) < (data.size : Int) := by omega
  have hd : data.size ≤ 2 ^ 47 := by omega
  have hz := ans_siz data
  have h1 := sAns_any data w hd
  have h2 := fun w => iAns_any data w hd
  generalize ansT data = t at hz h1 h2
  generalize ansC data = cc at h1 h2
  have hq : (cc != cc) = false := by simp
  have H1 := hide h1
  have H2 := hide h2
  have HZ := hide hz
  clear hd h1 h2 hz
  go_enter Tryz.func7, Tryz.ntmps7
  go_wp2_with fail
  refine (unhide H1).mono ?_
  rintro e w1 ⟨hb1, k1, k2, s, a, l, cap, rfl, hs⟩
  have HB1 := hide hb1
  have HS := hide hs
  clear H1 hb1 hs
  go_wp2_with fail
  refine ((unhide H2) _).mono ?_
  rintro e w2 ⟨hb2, m1, m2, s2, a2, l2, cap2, rfl, hi, ho⟩
  obtain ⟨f0, f1, f2, f3⟩ := box4 w1 _ _ _ _ _ (hb2.mono (by simp))
  have hlt : w1.heap.size < w2.heap.size := by have := hb2.size; simp at this; omega
  have F0 := fun x : Obj => (World.cell?_of_block (a := ⟨w1.heap.size, 0, none⟩) (Below.heap_alloc w2 x _ hlt)).trans f0
  have F1 := fun x : Obj => (World.cell?_of_block (a := ⟨w1.heap.size, 1, none⟩) (Below.heap_alloc w2 x _ hlt)).trans f1
  have F2 := fun x : Obj => (World.cell?_of_block (a := ⟨w1.heap.size, 2, none⟩) (Below.heap_alloc w2 x _ hlt)).trans f2
  have F3 := fun x : Obj => (World.cell?_of_block (a := ⟨w1.heap.size, 3, none⟩) (Below.heap_alloc w2 x _ hlt)).trans f3
  have HB2 := hide hb2
  have HI := hide hi
  have HO := hide ho
  obtain ⟨lo, hlo⟩ : ∃ lo, lo = (w1.alloc (.cells #[.int .i64 k1, .int .i64 k2, .string s, .slice a l cap] 26)).heap.size := ⟨_, rfl⟩
  have hlo1 : lo = w1.heap.size + 1 := by rw [hlo]; simp
  have hS2 : TAt (Under w2.heap.size) w2 101 t (.int .i64 k1) (.int .i64 k2) (.string s) (.slice a l cap) :=
    (((unhide HS).mono fun b hb => hb.2 : TAt (Under w1.heap.size) w1 101 t _ _ _ _).up ((Below.refl w1.heap.size w1).alloc (Nat.le_refl _) _)).up hb2
  have hI2 : TAt (Under w2.heap.size) w2 101 t (.int .i64 m1) (.int .i64 m2) (.string s2) (.slice a2 l2 cap2) := hi.mono fun b hb => hb.2
  have hbx := fun x : Obj => (Below.refl w2.heap.size w2).alloc (Nat.le_refl _) x
  have hE := hide (fun x => eq_any 101 t _ _ _ _ _ _ _ _ (w2.alloc x) (hI2.up (hbx x)) (hS2.up (hbx x)))
  have hO2 : OwnS w2 100 lo w2.heap.size (kidsOf t) (.slice a2 l2 cap2) := by rw [hlo]; exact ho
  have hw2 : Below w.heap.size w w2 := ((unhide HB1).trans (((Below.refl w1.heap.size w1).alloc (Nat.le_refl _) _).mono (unhide HB1).size)).trans (hb2.mono (by have := (unhide HB1).size; simp; omega))
  have hls : w.heap.size ≤ w1.heap.size := (unhide HB1).size
  have hS1 : TAt (Under w1.heap.size) w2 101 t (.int .i64 k1) (.int .i64 k2) (.string s) (.slice a l cap) :=
    ((unhide HS).mono fun b hb => hb.2 : TAt (Under w1.heap.size) w1 101 t _ _ _ _).keep fun b hb => (hb2.block b (by have : b < w1.heap.size := hb; simp; omega)).trans (Below.heap_alloc _ _ _ hb)
  have HS1 := hide hS1
  have HO2 := hide hO2
  have HW2 := hide hw2
  have HLO := hide hlo1
  have HLT := hide hlt
  have HLS := hide hls
  clear hb2 hi ho hlo hS2 hS1 hI2 hbx hO2 hw2 hlo1 hlt hls HS HI HO HB2 HB1
  go_wp2_with fail
  refine ((unhide hE) _).mono ?_
  rintro e w3 ⟨rfl, hb3⟩
  obtain ⟨G0, G1, G2, G3⟩ := box4 w2 _ _ _ _ _ (hb3.mono (by simp))
  have hw3 : Below w2.heap.size w2 w3 := ((Below.refl w2.heap.size w2).alloc (Nat.le_refl _) _).trans (hb3.mono (by simp))
  have hsz3 : w2.heap.size + 1 ≤ w3.heap.size := by have := hb3.size; simpa using this
  have ho3 : OwnS w3 100 lo w2.heap.size (kidsOf t) (.slice a2 l2 cap2) := (unhide HO2).keep fun b _ h2 => hw3.block b h2
  have hM := markTerm_any (kidsOf t) m1 m2 s2 a2 l2 cap2 lo w2.heap.size 1 w3 ho3 (by omega) (by have := unhide HZ; omega)
  obtain ⟨Z, hZ⟩ : ∃ Z : Int, Z = ((1 + 3 * sizS (kidsOf t) : Nat) : Int) := ⟨_, rfl⟩
  rw [← hZ] at hM
  have hZ0 : ¬ Z < 0 := by omega
  have hZq : (Z != Z) = false := by simp
  have HM := hide hM
  have HW3 := hide hw3
  have HZ3 := hide hsz3
  have HHZ := hide hZ
  have HF := hide (And.intro f0 (And.intro f1 (And.intro f2 f3)))
  clear hb3 hw3 hsz3 ho3 hM hZ hE f0 f1 f2 f3 F0 F1 F2 F3
  go_wp2_with fail
  refine (unhide HM).mono ?_
  rintro e w4 ⟨rfl, hout, hmk⟩
  have hsz3 := unhide HZ3
  have hlo := unhide HLO
  have hlt := unhide HLT
  have hs4 := hout.size
  have hg4 := hout.block w2.heap.size (by omega) (.inr (Nat.le_refl _))
  have g0 := (World.cell?_of_block (a := ⟨w2.heap.size, 0, none⟩) hg4).trans G0
  have g1 := (World.cell?_of_block (a := ⟨w2.heap.size, 1, none⟩) hg4).trans G1
  have g2 := (World.cell?_of_block (a := ⟨w2.heap.size, 2, none⟩) hg4).trans G2
  have g3 := (World.cell?_of_block (a := ⟨w2.heap.size, 3, none⟩) hg4).trans G3
  have hH := heldTerm_any (kidsOf t) m1 m2 s2 a2 l2 cap2 lo w2.heap.size 1 w4 hmk (by omega) (by have := unhide HZ; omega)
  rw [← unhide HHZ] at hH
  have HH := hide hH
  have HOUT := hide hout
  have HMK := hide hmk
  have HS4 := hide hs4
  have HG := hide (And.intro g0 (And.intro g1 (And.intro g2 g3)))
  clear hsz3 hlo hlt hs4 hg4 G0 G1 G2 G3 hH hout hmk HM
  go_wp2_with fail
  refine (unhide HH).mono ?_
  rintro e w5 ⟨rfl, hb5⟩
  have HB5 := hide hb5
  clear hb5 g0 g1 g2 g3 HH
  go_wp2_with fail
  refine ((unhide H2) _).mono ?_
  rintro e w6 ⟨hb6, n1, n2, s3, a3, l3, cap3, rfl, hi6, _⟩
  have hb5 := unhide HB5
  have hout := unhide HOUT
  have hs4 := unhide HS4
  have hsz3 := unhide HZ3
  have hlo := unhide HLO
  have hlt := unhide HLT
  have hw3 := unhide HW3
  have hs5 := hb5.size
  have hs6 := hb6.size
  -- what stands still between the first answers and now
  have hst : ∀ b, b < w1.heap.size + 1 → w6.heap[b]? = w2.heap[b]? := fun b hb =>
    (hb6.block b (by omega)).trans ((hb5.block b (by omega)).trans ((hout.block b (by omega) (.inl (by omega))).trans (hw3.block b (by omega))))
  have h46 : ∀ b, b < w4.heap.size → w6.heap[b]? = w4.heap[b]? := fun b hb => (hb6.block b (by omega)).trans (hb5.block b hb)
  obtain ⟨f0, f1, f2, f3⟩ := unhide HF
  have hlt6 : w1.heap.size < w6.heap.size := by omega
  have F0 := fun x : Obj => (World.cell?_of_block (a := ⟨w1.heap.size, 0, none⟩) ((Below.heap_alloc w6 x _ hlt6).trans (hst w1.heap.size (by omega)))).trans f0
  have F1 := fun x : Obj => (World.cell?_of_block (a := ⟨w1.heap.size, 1, none⟩) ((Below.heap_alloc w6 x _ hlt6).trans (hst w1.heap.size (by omega)))).trans f1
  have F2 := fun x : Obj => (World.cell?_of_block (a := ⟨w1.heap.size, 2, none⟩) ((Below.heap_alloc w6 x _ hlt6).trans (hst w1.heap.size (by omega)))).trans f2
  have F3 := fun x : Obj => (World.cell?_of_block (a := ⟨w1.heap.size, 3, none⟩) ((Below.heap_alloc w6 x _ hlt6).trans (hst w1.heap.size (by omega)))).trans f3
  have hS6 : TAt (Under w6.heap.size) w6 101 t (.int .i64 k1) (.int .i64 k2) (.string s) (.slice a l cap) :=
    ((unhide HS1).keep fun b hb => hst b (by have : b < w1.heap.size := hb; omega)).mono fun b hb => by have : b < w1.heap.size := hb; show b < w6.heap.size; omega
  have hI6 : TAt (Under w6.heap.size) w6 101 t (.int .i64 n1) (.int .i64 n2) (.string s3) (.slice a3 l3 cap3) := hi6.mono fun b hb => hb.2
  have hbx := fun x : Obj => (Below.refl w6.heap.size w6).alloc (Nat.le_refl _) x
  have hE := hide (fun x => eq_any 101 t _ _ _ _ _ _ _ _ (w6.alloc x) (hI6.up (hbx x)) (hS6.up (hbx x)))
  have HB6 := hide hb6
  have H46 := hide h46
  have HS56 := hide (And.intro hs5 hs6)
  clear hb6 hi6 hb5 hout hs4 hsz3 hlo hlt hw3 hs5 hs6 hst h46 f0 f1 f2 f3 hlt6 hS6 hI6 hbx
  go_wp2_with fail
  refine ((unhide hE) _).mono ?_
  rintro e w7 ⟨rfl, hb7⟩
  have hw7 : Below w6.heap.size w6 w7 := ((Below.refl w6.heap.size w6).alloc (Nat.le_refl _) _).trans (hb7.mono (by simp))
  have h46 := unhide H46
  obtain ⟨hs5, hs6⟩ := unhide HS56
  have hs4 := unhide HS4
  have hsz3 := unhide HZ3
  have hlo := unhide HLO
  have hlt := unhide HLT
  have hs7 := hw7.size
  have h47 : ∀ b, b < w4.heap.size → w7.heap[b]? = w4.heap[b]? := fun b hb => (hw7.block b (by omega)).trans (h46 b hb)
  obtain ⟨G0, G1, G2, G3⟩ := unhide HG
  have g0 := (World.cell?_of_block (a := ⟨w2.heap.size, 0, none⟩) (h47 w2.heap.size (by omega))).trans G0
  have g1 := (World.cell?_of_block (a := ⟨w2.heap.size, 1, none⟩) (h47 w2.heap.size (by omega))).trans G1
  have g2 := (World.cell?_of_block (a := ⟨w2.heap.size, 2, none⟩) (h47 w2.heap.size (by omega))).trans G2
  have g3 := (World.cell?_of_block (a := ⟨w2.heap.size, 3, none⟩) (h47 w2.heap.size (by omega))).trans G3
  have hH := heldTerm_any (kidsOf t) m1 m2 s2 a2 l2 cap2 lo w2.heap.size 1 w7 ((unhide HMK).keep (fun b _ h2 => h47 b (by omega)) (Nat.le_refl _) (Nat.le_refl _)) (by omega) (by have := unhide HZ; omega)
  rw [← unhide HHZ] at hH
  have HH := hide hH
  have HW7 := hide hw7
  clear hb7 hw7 h46 hs5 hs6 hs4 hsz3 hlo hlt hs7 h47 G0 G1 G2 G3 hH hE F0 F1 F2 F3
  go_wp2_with fail
  refine (unhide HH).mono ?_
  rintro e w8 ⟨rfl, hb8⟩
  have HB8 := hide hb8
  clear hb8 HH
  go_wp2_with fail
  go_ret
  have hls := unhide HLS
  have hlo := unhide HLO
  have hlt := unhide HLT
  obtain ⟨hs5, hs6⟩ := unhide HS56
  have hs4 := unhide HS4
  have hsz3 := unhide HZ3
  have hout := unhide HOUT
  have b3 := (unhide HW2).trans ((unhide HW3).mono (by omega))
  have b4 : Below w.heap.size w w4 := b3.trans ⟨hout.os, hout.tape, hout.output, hout.size, fun b hb => hout.block b (by omega) (.inl (by omega))⟩
  have b5 := b4.trans ((unhide HB5).mono b4.size)
  have b6 := b5.trans ((unhide HB6).mono b5.size)
  have b7 := b6.trans ((unhide HW7).mono b6.size)
  exact ⟨rfl, b7.trans ((unhide HB8).mono b7.size)⟩

end Go.Proofs.YthfjgffhncogaaaGreat
