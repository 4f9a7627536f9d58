/- impl's way outward: maps, functions; outward as a whole. -/
import Derived.Test.YthfjgffhncogaaaGreatUn8
import Derived.Deep.RegionHeld3
import Derived.Test.YthfjgffhncogaaaGreatQ40
namespace Go.Proofs.YthfjgffhncogaaaGreat
open Go.RowKit Go.Deep
set_option linter.unusedVariables false

set_option maxRecDepth 40000 in
set_option maxHeartbeats 1000000 in
theorem flatX_any {n : Nat} (K : Nat → Prop) (w : World) (ks : List (Tm n)) (p : Nat) (a : Option Addr) (cap : Nat) (hp : ks.length = 2 * p) (hl : ks.length ≤ 2 ^ 42) (hKA : KAt K w (XAt K w n) ks a) (hK : ∀ k, K k → k < w.heap.size) :
    Calls Tryz.prog 70 #[.slice a p cap] w fun e w' => Below w.heap.size w w' ∧
      ∃ a' cap', e = .returned (.slice a' ks.length cap') ∧ KAt (fun k => K k ∨ (w.heap.size ≤ k ∧ k < w'.heap.size)) w' (XAt (fun k => K k ∨ (w.heap.size ≤ k ∧ k < w'.heap.size)) w' n) ks a' := by
  obtain ⟨vs, hvl, hv⟩ := hKA.cellsOf
  obtain ⟨i0, hi0, hz0, hz1, hz2⟩ := info_parts infoV
  have HV := hide hv
  clear hv hKA
  go_enter Tryz.func70, Tryz.ntmps70
  go_wp2_with fail
  go_loopw [3, 8] (fun rv iv wr => ∃ i : Nat, i ≤ p ∧ iv = .int .i64 i ∧ Below w.heap.size w wr ∧ wr.ownsRow w.heap.size 56 1 rv (2 * i) (vs.take (2 * i))) (fun _ iv _ => p - (intOf iv).toNat)
  case atStart => exact ⟨0, Nat.zero_le _, rfl, Below.refl _ _, by simpa using World.ownsRow_nil _ _ _ _⟩
  case round =>
    obtain ⟨i, hi, rfl, hb, ho⟩ := hrel
    by_cases hlt : i < p
    · obtain ⟨bb, off, rfl, hS, e0, r0⟩ := unhide HV (2 * i) (by omega) (by omega)
      obtain ⟨b2, o2, h2, _, e1, r1⟩ := unhide HV (2 * i + 1) (by omega) (by omega)
      cases h2
      obtain ⟨u0, x0, hx⟩ := r0.iface
      obtain ⟨u1, x1, hy⟩ := r1.iface
      have f0 : wr.cell? ⟨bb, off + i * 2, none⟩ = some (vs[2 * i]'(by omega)) := by rw [Nat.mul_comm i 2]; exact (World.cell?_of_block (hb.block bb (hK bb hS))).trans e0
      have f1 : wr.cell? ⟨bb, off + i * 2 + 1, none⟩ = some (vs[2 * i + 1]'(by omega)) := by rw [Nat.mul_comm i 2]; exact (World.cell?_of_block (hb.block bb (hK bb hS))).trans e1
      have ht := hide (take_two vs i (by omega))
      rw [hx] at f0 ht
      rw [hy] at f1 ht
      obtain ⟨a1, cap1, rfl⟩ := own_form ho
      have HB := hide hb
      have HO := hide ho
      have hm1 := hide (show 2 * i + 2 ≤ maxLen by unfold maxLen; omega)
      have hm2 := hide (show (2 * i + 2) * 16 ≤ 140737488355328 by omega)
      have hm3 := hide hb.size
      have hm4 := hide (show wr.heap.size ≤ ((wr.alloc (.cells #[.iface u0 x0, .iface u1 x1] 141)).alloc (.cells #[.iface u0 x0, .iface u1 x1] 56)).heap.size by simp; omega)
      have hnb := hide (show ((wr.alloc (.cells #[.iface u0 x0, .iface u1 x1] 141)).alloc (.cells #[.iface u0 x0, .iface u1 x1] 56)).heap[wr.heap.size + 1]? = some (.cells #[.iface u0 x0, .iface u1 x1] 56 (0, 0)) by
        have := heap_new (wr.alloc (.cells #[.iface u0 x0, .iface u1 x1] 141)) (.cells #[.iface u0 x0, .iface u1 x1] 56)
        simpa using this)
      have h1c := hide (show ∀ u ∈ [Value.iface u0 x0, Value.iface u1 x1], u.oneCell' = true by intro u hu; simp at hu; rcases hu with rfl | rfl <;> rfl)
      clear e0 e1 r0 r1 hx hy hb ho
      go_upto_region 5 with fail
      go_wp2_with (at_builtin; refine wpList_append_own _ rfl (.tmp 12) (.tmp 17) 105 rfl w.heap.size 56 i0 .nilIface 1 16 Tryz.underlying105 hi0 hz0 hz1 hz2 rfl (by decide) _ (2 * i) _ rfl (((unhide HO).alloc _).alloc _) _ 2 2 [.iface u0 x0, .iface u1 x1] rfl rfl (World.news_of_block (cs := #[.iface u0 x0, .iface u1 x1]) (unhide hnb)) (unhide h1c) (unhide hm1) (unhide hm2) (Nat.le_trans (unhide hm3) (unhide hm4)) ?_)
      intro v w1 ho1 hg1 _
      have hb1 : Below w.heap.size w w1 := (((unhide HB).alloc (unhide hm3) _).alloc (by simp; have := unhide hm3; omega) _).grown hg1 (Nat.le_trans (unhide hm3) (unhide hm4)) fun k hk => ((unhide HO).lt k hk).1
      rw [← unhide ht] at ho1
      have HO1 := hide ho1
      have HB1 := hide hb1
      clear ho1 hb1 hg1 f0 f1
      go_wp2_with fail
      go_roundw
      case rel => exact ⟨i + 1, hlt, by go_num, unhide HB1, unhide HO1⟩
      case measure => simp [intOf]; omega
    · have hkk : i = p := by omega
      subst hkk
      rw [List.take_of_length_le (by omega)] at ho
      rw [← hp] at ho
      obtain ⟨a1, cap1, rfl⟩ := own_form ho
      have HB := hide hb
      have HO := hide ho
      clear hb ho
      go_wp2_with fail
      go_ret
      refine ⟨unhide HB, a1, cap1, rfl, ?_⟩
      have ho := unhide HO
      intro i hi
      obtain ⟨g, c, hv, hg, hgl⟩ := ho.form (by omega)
      cases hv
      have hi' : i < vs.length := by omega
      obtain ⟨_, _, _, _, _, hr⟩ := unhide HV i hi hi'
      refine ⟨g, 0, vs[i], rfl, .inr ⟨hg, hgl⟩, ?_, (hr.keep fun k hk => (unhide HB).block k (hK k hk)).mono fun _ h => .inl h⟩
      have := ho.cells (g := g) rfl i vs[i] (List.getElem?_eq_getElem hi')
      have hadd : (⟨g, 0, none⟩ : Addr).add i = ⟨g, i, none⟩ := by unfold Addr.add; split <;> simp_all
      rw [hadd] at this
      simpa using this

theorem fourIn_other (w : World) {B b : Nat} (hn : b ≠ B) (hb : b < w.heap.size) (d0 d1 d2 d3 : Value) (o : Nat) : (fourIn w B d0 d1 d2 d3).cell? ⟨b, o, none⟩ = w.cell? ⟨b, o, none⟩ :=
  World.cell?_of_block (w := w) ((fourIn_kept w B d0 d1 d2 d3).block b hb hn)
theorem kat_or {n : Nat} {w1 : World} {N : Nat} (hN : N ≤ w1.heap.size) {ks : List (Tm n)} {a : Option Addr} (h : KAt (fun k => Under N k ∨ (N ≤ k ∧ k < w1.heap.size)) w1 (XAt (fun k => Under N k ∨ (N ≤ k ∧ k < w1.heap.size)) w1 n) ks a) :
    KAt (Under w1.heap.size) w1 (XAt (Under w1.heap.size) w1 n) ks a := by
  have hs : ∀ b, (Under N b ∨ (N ≤ b ∧ b < w1.heap.size)) → Under w1.heap.size b := fun b hb => by
    rcases hb with hb | hb
    · exact Nat.lt_of_lt_of_le hb hN
    · exact hb.2
  exact h.mono hs fun t _ v hv => hv.mono hs

set_option maxRecDepth 40000 in
set_option maxHeartbeats 1000000 in
theorem out_map {n : Nat} (h : OrSaid n) (ks : List (Tm n)) (p : Nat) (hp : ks.length = 2 * p) (a : Option Addr) (cap : Nat) (w : World) (hka : KAt (Under w.heap.size) w (XAt (Under w.heap.size) w n) ks a) (hl : ks.length ≤ 100000) :
    Calls Tryz.prog 37 #[.iface 113 (.slice a p cap)] w fun e w' => OutEnd n (7, 0, noText, ks) w e w' := by
  have f0 := oa_map_int
  have f1 := oa_map_atom
  have f2 := oa_map_ref
  have f3 := oa_map_fun
  have f4 := oa_map_pid
  have f5 := oa_map_tuple
  have f6 := oa_map_map
  obtain ⟨w0, hw0⟩ : ∃ w0, w0 = startW w := ⟨_, rfl⟩
  have hr0 := startW_four w
  have hb0 := startW_below w
  have hs0 := startW_size w
  rw [← hw0] at hr0 hb0 hs0
  have HW0 := hide hw0
  have HB0 := hide hb0
  have HR0 := hide hr0
  have HKA := hide (kat_up hb0 hka)
  clear hw0 hb0 hka hr0
  go_enter Tryz.func37, Tryz.ntmps37
  go_upto_region 1 with fail
  rw [← show startW w = w.alloc (.cells #[.int .i64 0, .int .i64 0, .string ⟨#[]⟩, .slice none 0 0] 26) from rfl, ← unhide HW0]
  have hflat := hide (flatX_any (Under w0.heap.size) w0 ks p a cap hp (by omega) (unhide HKA) fun _ h => h)
  clear hp
  go_wp2_with fail
  refine (unhide hflat).mono ?_
  rintro e w1 ⟨hb1, a1, cap1, rfl, hka1⟩
  have hs1 := hb1.size
  have hcall := hide (h ks a1 cap1 w1 (kat_or hs1 hka1) hl)
  have HB1 := hide hb1
  clear hflat hb1 hka1
  go_wp2_with fail
  refine (unhide hcall).mono ?_
  rintro e w2 ⟨hb2, v, rfl, hS, hO⟩
  obtain ⟨a2, cap2, rfl, _⟩ := id hS
  have hb1 := unhide HB1
  have hr1 := ((unhide HR0).keep (hb1.block _ (by omega))).keep (hb2.block _ (by omega))
  have HB2 := hide (((unhide HB0).trans (hb1.mono (by omega))).trans (hb2.mono (by omega)))
  have hsz := hb2.size
  have HS := hide (hS.mono (S' := fun b => w.heap.size < b ∧ b < w2.heap.size) (R' := TAt (fun b => w.heap.size < b ∧ b < w2.heap.size) w2 n) (fun b hb => ⟨by have := hb.1; omega, hb.2⟩) fun t _ _ _ _ _ ht => ht.mono fun b hb => ⟨by have := hb.1; omega, hb.2⟩)
  have HO := hide (hO.wide (lo' := w.heap.size + 1) (hi' := w2.heap.size) (by omega) (Nat.le_refl _))
  obtain ⟨y0, y1, y2, y3, z0, z1, z2, z3, g0, g1, g2, g3⟩ := hr1.cells
  clear hr1 hb1 hb2 hS hO hcall
  go_wp2_with fail
  exact bodyPost_ret (v := .agg #[.int .i64 7, .int .i64 0, .string ⟨#[]⟩, .slice a2 ks.length cap2]) (by simp [results, Tryz.results37, go_sem, z0, z1, z2, z3]) rfl (out_end (unhide HB2) (by omega) ⟨rfl, rfl, rfl, ⟨by omega, by omega⟩, ⟨by omega, by omega⟩, by decide, unhide HS⟩ (unhide HO))

set_option maxRecDepth 40000 in
set_option maxHeartbeats 2000000 in
theorem out_fun {n : Nat} (h : OrSaid n) (m : Int) (hm : In64 m) (ks : List (Tm n)) (a : Option Addr) (cap : Nat) (w : World) (hka : KAt (Under w.heap.size) w (XAt (Under w.heap.size) w n) ks a) (hl : ks.length ≤ 100000) :
    Calls Tryz.prog 37 #[.iface 108 (.agg #[.int .i64 m, .slice a ks.length cap])] w fun e w' => OutEnd n (4, m, noText, ks) w e w' := by
  have f0 := oa_fun_int
  have f1 := oa_fun_atom
  have f2 := oa_fun_ref
  have f3 := oa_fun_fun
  obtain ⟨w0, hw0⟩ : ∃ w0, w0 = startW w := ⟨_, rfl⟩
  have hr0 := startW_four w
  have hb0 := startW_below w
  have hs0 := startW_size w
  rw [← hw0] at hr0 hb0 hs0
  have HW0 := hide hw0
  have HB0 := hide hb0
  have HR0 := hide hr0
  have HKA := hide (kat_up hb0 hka)
  clear hw0 hb0 hka hr0
  go_enter Tryz.func37, Tryz.ntmps37
  go_upto_region 1 with fail
  rw [← show startW w = w.alloc (.cells #[.int .i64 0, .int .i64 0, .string ⟨#[]⟩, .slice none 0 0] 26) from rfl, ← unhide HW0]
  go_upto_region 13 with fail
  obtain ⟨w1, hw1⟩ : ∃ w1, w1 = w0.alloc (.cells #[.int .i64 m, .slice a ks.length cap] 108) := ⟨_, rfl⟩
  have hb1 : Below w0.heap.size w0 w1 := by rw [hw1]; exact (Below.refl _ _).alloc (Nat.le_refl _) _
  have hn1 : w1.heap[w0.heap.size]? = some (.cells #[.int .i64 m, .slice a ks.length cap] 108 (0, 0)) := by rw [hw1]; exact heap_new _ _
  have hs1 : w1.heap.size = w0.heap.size + 1 := by rw [hw1]; simp
  rw [← hw1]
  have p0 := cell_of_heap hn1 0
  have p1 := cell_of_heap hn1 1
  have hlt : w0.heap.size < w1.heap.size := by omega
  rw [hs0] at p0 p1 hlt
  have HCALL := hide (fun (W : World) (hb : Below w1.heap.size w1 W) => h ks a cap W (kat_up (hb.mono (Nat.le_refl _)) (kat_up hb1 (unhide HKA))) hl)
  have HB1 := hide hb1
  have HR1 := hide ((unhide HR0).keep (hb1.block _ (by omega)))
  have hsp := hide ((Below.refl w1.heap.size w1).drew)
  clear hw1 hn1 hb1
  go_region_held3 (fun W => W.cell? ⟨w.heap.size + 1, 0, none⟩ = some (.int .i64 m) ∧ W.cell? ⟨w.heap.size + 1, 1, none⟩ = some (.slice a ks.length cap))
    (first | exact ⟨(bcell (unhide hsp) _ _ hlt).trans p0, (bcell (unhide hsp) _ _ hlt).trans p1⟩ | exact ⟨(fourIn_other w2 (by omega) (Nat.lt_of_lt_of_le hlt (unhide hsp).size) _ _ _ _ _).trans ((bcell (unhide hsp) _ _ hlt).trans p0), (fourIn_other w2 (by omega) (Nat.lt_of_lt_of_le hlt (unhide hsp).size) _ _ _ _ _).trans ((bcell (unhide hsp) _ _ hlt).trans p1)⟩)
    (first
      | (go_at_call 69; refine (unhide HCALL _ (unhide hsp)).mono ?_; rintro e w2 ⟨hb2, v, rfl, hS, hO⟩; obtain ⟨a2, cap2, rfl, _⟩ := id hS; have hsz := hb2.size; have HSZ1 := hide (unhide hsp).size; have hsp := hide ((unhide hsp).trans (hb2.mono (unhide hsp).size)); have hr1 := (unhide HR1).keep ((unhide hsp).block _ (by omega)); obtain ⟨y0, y1, y2, y3, z0, z1, z2, z3, g0, g1, g2, g3⟩ := hr1.cells; have HS := hide hS; have HO := hide hO; clear hb2 hS hO hr1))
  have hw1s := (unhide HB1).size
  have hz1 := unhide HSZ1
  have HBW := hide (((unhide HB0).trans ((unhide HB1).mono (by omega))).trans ((unhide hsp).mono (by omega)))
  have HS2 := hide ((unhide HS).mono (S' := fun b => w.heap.size < b ∧ b < w2.heap.size) (R' := TAt (fun b => w.heap.size < b ∧ b < w2.heap.size) w2 n) (fun b hb => ⟨by have := hb.1; omega, hb.2⟩) fun t _ _ _ _ _ ht => ht.mono fun b hb => ⟨by have := hb.1; omega, hb.2⟩)
  have HO2 := hide ((unhide HO).wide (lo' := w.heap.size + 1) (hi' := w2.heap.size) (by omega) (Nat.le_refl _))
  go_wp2_with fail
  exact bodyPost_ret (v := .agg #[.int .i64 4, .int .i64 m, .string ⟨#[]⟩, .slice a2 ks.length cap2]) (by simp [results, Tryz.results37, go_sem, z0, z1, z2, z3]) rfl (out_end (unhide HBW) (by omega) ⟨rfl, rfl, rfl, ⟨by omega, by omega⟩, hm, by decide, unhide HS2⟩ (unhide HO2))

end Go.Proofs.YthfjgffhncogaaaGreat
/- impl's way outward: any value. -/
namespace Go.Proofs.YthfjgffhncogaaaGreat
open Go.RowKit Go.Deep

theorem out_of {n : Nat} (h : OrSaid n) : OutSaid n := by
  rintro ⟨k, m, s, ks⟩ v w ⟨hm, hs, hx⟩
  rcases hx with ⟨rfl, rfl, rfl, rfl⟩ | ⟨rfl, rfl, rfl, rfl⟩ | ⟨rfl, rfl, rfl, rfl⟩ | ⟨rfl, rfl, rfl, rfl⟩ | ⟨rfl, rfl, rfl, rfl⟩ | ⟨a, cap, hK, hl, rfl, ⟨rfl, rfl⟩ | ⟨rfl, rfl, rfl⟩ | ⟨rfl, rfl, rfl⟩ | ⟨rfl, rfl, hev, rfl⟩⟩
  · exact out_int n m hm w
  · exact out_atom n s hs w
  · exact out_ref n m hm w
  · exact out_pid n m hm w
  · exact out_bin n s hs w
  · exact out_fun h m hm ks a cap w hK hl
  · exact out_tuple h ks a cap w hK hl
  · exact out_list h ks a cap w hK hl
  · exact out_map h ks (ks.length / 2) (by omega) a cap w hK hl

theorem out_any : ∀ n, OutSaid n
  | 0 => out_of (or_any fun m h => by omega)
  | n + 1 => out_of (or_any fun m h => by
    obtain rfl : n = m := by omega
    exact out_any n)

end Go.Proofs.YthfjgffhncogaaaGreat
/- impl.TermUnpack: the closure that recovers the walk's fault. -/
namespace Go.Proofs.YthfjgffhncogaaaGreat
open Go.RowKit Go.Deep

theorem slots11 (p0 p1 v0 v1 v2 v3 v4 v5 v6 : Value) : #[p0, p1] ++ ((((((((Array.replicate 9 undef).setIfInBounds 3 v3).setIfInBounds 4 v4).setIfInBounds 2 v2).setIfInBounds 5 v5).setIfInBounds 6 v6).setIfInBounds 0 v0).setIfInBounds 1 v1) = #[p0, p1, v0, v1, v2, v3, v4, v5, v6, undef, undef] := by kernel_rfl

set_option maxRecDepth 40000 in
set_option maxHeartbeats 1000000 in
theorem tuk_panicking (c : Int) (b0 b1 : Nat) (x1 : Value) (older : List PanicEntry) (w : World) (h0 : Four b0 w) (h1 : w.heap[b1]? = some (.cells #[x1] 3 (0, 0))) (hne : b0 ≠ b1)
    (hl0 : b0 < w.heap.size) (hl1 : b1 < w.heap.size) :
    CallsD Tryz.prog 44 #[.pointer (some ⟨b0, 0, none⟩), .pointer (some ⟨b1, 0, none⟩)] (.panicking ({ v := fltV c, recovered := false } :: older)) w fun e u' w' =>
      e = .returned (.tuple #[]) ∧ u' = .panicking ({ v := fltV c, recovered := true } :: older) ∧ (w'.cell? ⟨b0, 0, none⟩ = some (.int .i64 0) ∧ w'.cell? ⟨b0, 1, none⟩ = some (.int .i64 0) ∧ w'.cell? ⟨b0, 2, none⟩ = some (.string ⟨#[]⟩) ∧ w'.cell? ⟨b0, 3, none⟩ = some (.slice none 0 0)) ∧ w'.cell? ⟨b1, 0, none⟩ = some (.int .i64 4) ∧ ∀ B, B ≤ b0 → B ≤ b1 → Below B w w' := by
  refine callsD_of_wpS Tryz.func44 rfl fun c₀ cs hu => ?_
  apply wpS_seq
  apply wpS_region
  simp [wpOpsS, go_sem, recoverD, hu, Tryz.ntmps44, Exit.thenS]
  refine (faultIn_any c _).mono ?_
  rintro e w1 ⟨rfl, hb1⟩
  simp [go_sem, Oper.upon, Result.andThen]
  have hw0 : Four b0 (w1.alloc (.cells #[.int .i64 c, .int .i64 0] 50)) := (h0.keep (hb1.block _ hl0)).keep (Below.heap_alloc _ _ _ (Nat.lt_of_lt_of_le hl0 hb1.size))
  have hw1 : (w1.alloc (.cells #[.int .i64 c, .int .i64 0] 50)).heap[b1]? = some (.cells #[x1] 3 (0, 0)) := ((Below.heap_alloc _ _ _ (Nat.lt_of_lt_of_le hl1 hb1.size)).trans (hb1.block _ hl1)).trans h1
  have hw2 := heap_new w1 (.cells #[.int .i64 c, .int .i64 0] 50)
  have hbw : Below w.heap.size w (w1.alloc (.cells #[.int .i64 c, .int .i64 0] 50)) := hb1.alloc hb1.size _
  have hn0 : b0 ≠ w1.heap.size := by have := hb1.size; omega
  have hn1 : b1 ≠ w1.heap.size := by have := hb1.size; omega
  have hd0 : (w1.alloc (.cells #[.int .i64 c, .int .i64 0] 50)).heap.size > b0 := by simp; have := hb1.size; omega
  generalize w1.alloc (.cells #[.int .i64 c, .int .i64 0] 50) = W at hw0 hw1 hw2 hbw hd0 ⊢
  obtain ⟨y0, y1, y2, y3, c00, c01, c02, c03, z00, z01, z02, z03⟩ := hw0.cells
  have c1 : W.cell? ⟨b1, 0, none⟩ = some x1 := cell_of_heap hw1 0
  have c2 : W.cell? ⟨w1.heap.size, 0, none⟩ = some (.int .i64 c) := cell_of_heap hw2 0
  have z1 := frozen_of_heap hw1 0
  have HBW := hide hbw
  have HF := hide hw0
  have HW1 := hide hw1
  clear hw0 hw1 hw2 hbw
  refine wpS_of_wp ?_
  rw [slots11]
  have hne' := hne.symm
  have hn0' := hn0.symm
  have hn1' := hn1.symm
  go_wp2_with fail
  obtain ⟨u0, u1, u2, u3, hF⟩ := unhide HF
  have hk := fourIn_kept W b0 (.int .i64 0) (.int .i64 0) (.string ⟨#[]⟩) (.slice none 0 0)
  have hl1' : b1 < W.heap.size := (Array.getElem?_eq_some_iff.1 (unhide HW1)).1
  have hx : ((fourIn W b0 (.int .i64 0) (.int .i64 0) (.string ⟨#[]⟩) (.slice none 0 0)).setCell ⟨b1, 0, none⟩ (.int .i64 4)).heap[b0]? = some (.cells #[.int .i64 0, .int .i64 0, .string ⟨#[]⟩, .slice none 0 0] 26 (0, 0)) :=
    (Below.heap_setCell _ _ _ _ hne).trans (Row.setHeap (Row.setHeap (Row.setHeap (Row.setHeap hF 0 _) 1 _) 2 _) 3 _)
  have hy : ((fourIn W b0 (.int .i64 0) (.int .i64 0) (.string ⟨#[]⟩) (.slice none 0 0)).setCell ⟨b1, 0, none⟩ (.int .i64 4)).heap[b1]? = some (.cells #[.int .i64 4] 3 (0, 0)) :=
    Row.setHeap ((hk.block b1 hl1' hne').trans (unhide HW1)) 0 _
  have hB : ∀ B, B ≤ b0 → B ≤ b1 → Below B w ((fourIn W b0 (.int .i64 0) (.int .i64 0) (.string ⟨#[]⟩) (.slice none 0 0)).setCell ⟨b1, 0, none⟩ (.int .i64 4)) := fun B k0 k1 =>
    (((unhide HBW).mono (by omega)).four k0 _ _ _ _).setCell (p := ⟨b1, 0, none⟩) k1 _
  have q0 := cell_of_heap hx 0
  have q1 := cell_of_heap hx 1
  have q2 := cell_of_heap hx 2
  have q3 := cell_of_heap hx 3
  have q4 := cell_of_heap hy 0
  obtain ⟨V, hV⟩ : ∃ V, V = (fourIn W b0 (.int .i64 0) (.int .i64 0) (.string ⟨#[]⟩) (.slice none 0 0)).setCell ⟨b1, 0, none⟩ (.int .i64 4) := ⟨_, rfl⟩
  have hV' := hV
  unfold fourIn at hV'
  rw [← hV]  at q0 q1 q2 q3 q4 hB
  rw [← hV']
  clear hV hV' hx hy hk c00 c01 c02 c03 c1 c2 z00 z01 z02 z03 z1 HF HW1 hF
  simp [bodyPostS, results, Tryz.results44, q0, q1, q2, q3, q4]
  exact hB

set_option maxRecDepth 40000 in
set_option maxHeartbeats 1000000 in
theorem tuk_idle (b0 b1 : Nat) (w : World) :
    CallsD Tryz.prog 44 #[.pointer (some ⟨b0, 0, none⟩), .pointer (some ⟨b1, 0, none⟩)] .returning w fun e u' w' => e = .returned (.tuple #[]) ∧ u' = .returning ∧ Below w.heap.size w w' := by
  refine callsD_of_wpS Tryz.func44 rfl fun c₀ cs hu => ?_
  apply wpS_seq
  apply wpS_region
  simp [wpOpsS, go_sem, recoverD, hu, Tryz.ntmps44, Exit.thenS]
  refine (faultIn_nil _).mono ?_
  rintro e w1 ⟨rfl, hb1⟩
  simp [go_sem, Oper.upon, Result.andThen]
  have hbw : Below w.heap.size w (w1.alloc (.cells #[.int .i64 0, .int .i64 0] 50)) := hb1.alloc hb1.size _
  generalize w1.alloc (.cells #[.int .i64 0, .int .i64 0] 50) = W at hbw ⊢
  refine wpS_of_wp ?_
  rw [slots11]
  go_wp2_with fail
  have hu' := hide hbw
  clear hb1 hbw
  cases c₀
  simp_all [bodyPostS, results, Tryz.results44]
  exact unhide hu'

end Go.Proofs.YthfjgffhncogaaaGreat
