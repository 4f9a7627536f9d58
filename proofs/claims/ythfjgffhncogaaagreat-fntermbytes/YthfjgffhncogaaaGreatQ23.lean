/- impl's pack of lists: asBytes, pack. -/
import Derived.Test.YthfjgffhncogaaaGreatQ22
import Derived.Deep.RegionLaw
namespace Go.Proofs.YthfjgffhncogaaaGreat
open Go.RowKit Go.Deep

theorem as_int (x : Value) (w : World) : (Instr.typeAssert (.iface 101 x) 56 101 true).run Tryz.prog w = .ok (.tuple #[x, .bool true]) w := by kernel_rfl
theorem as_atom (x : Value) (w : World) : (Instr.typeAssert (.iface 100 x) 56 101 true).run Tryz.prog w = .ok (.tuple #[.int .i64 0, .bool false]) w := by kernel_rfl
theorem as_ref (x : Value) (w : World) : (Instr.typeAssert (.iface 102 x) 56 101 true).run Tryz.prog w = .ok (.tuple #[.int .i64 0, .bool false]) w := by kernel_rfl
theorem as_pid (x : Value) (w : World) : (Instr.typeAssert (.iface 103 x) 56 101 true).run Tryz.prog w = .ok (.tuple #[.int .i64 0, .bool false]) w := by kernel_rfl
theorem as_bin (x : Value) (w : World) : (Instr.typeAssert (.iface 116 x) 56 101 true).run Tryz.prog w = .ok (.tuple #[.int .i64 0, .bool false]) w := by kernel_rfl
theorem as_fun (x : Value) (w : World) : (Instr.typeAssert (.iface 108 x) 56 101 true).run Tryz.prog w = .ok (.tuple #[.int .i64 0, .bool false]) w := by kernel_rfl
theorem as_tup (x : Value) (w : World) : (Instr.typeAssert (.iface 111 x) 56 101 true).run Tryz.prog w = .ok (.tuple #[.int .i64 0, .bool false]) w := by kernel_rfl
theorem as_lst (x : Value) (w : World) : (Instr.typeAssert (.iface 115 x) 56 101 true).run Tryz.prog w = .ok (.tuple #[.int .i64 0, .bool false]) w := by kernel_rfl
theorem as_map (x : Value) (w : World) : (Instr.typeAssert (.iface 113 x) 56 101 true).run Tryz.prog w = .ok (.tuple #[.int .i64 0, .bool false]) w := by kernel_rfl

/-- Asked whether it is an Int. -/
theorem VAt.asInt {S : Nat → Prop} {w : World} : ∀ {n : Nat} {t : Tm n} {v : Value}, VAt S w n t v →
    (∃ m, v = .iface 101 (.int .i64 m) ∧ numT n t = m ∧ smallB n t = (decide (0 ≤ m) && decide (m ≤ 255))) ∨
    (smallB n t = false ∧ ∃ u x, v = .iface u x ∧ ∀ w : World, (Instr.typeAssert (.iface u x) 56 101 true).run Tryz.prog w = .ok (.tuple #[.int .i64 0, .bool false]) w)
  | 0, t, _, _ => t.elim
  | _ + 1, (k, m, s, ks), _, ⟨_, _, h⟩ => by
    have hs : ∀ k' : Int, k' ≠ 1 → smallB (_ + 1) (k', m, s, ks) = false := fun k' hk => by show (decide (k' = 1) && (decide (0 ≤ m) && decide (m ≤ 255))) = false; rw [decide_eq_false hk]; rfl
    rcases h with ⟨rfl, rfl⟩ | ⟨rfl, rfl⟩ | ⟨rfl, rfl⟩ | ⟨rfl, rfl⟩ | ⟨rfl, rfl⟩ | ⟨a, cap, _, _, _, h⟩
    · exact .inl ⟨m, rfl, rfl, by show (decide ((1 : Int) = 1) && (decide (0 ≤ m) && decide (m ≤ 255))) = _; simp⟩
    · exact .inr ⟨hs 2 (by decide), _, _, rfl, as_atom _⟩
    · exact .inr ⟨hs 3 (by decide), _, _, rfl, as_ref _⟩
    · exact .inr ⟨hs 5 (by decide), _, _, rfl, as_pid _⟩
    · exact .inr ⟨hs 9 (by decide), _, _, rfl, as_bin _⟩
    · rcases h with ⟨rfl, rfl⟩ | ⟨rfl, rfl⟩ | ⟨rfl, rfl⟩ | ⟨rfl, rfl⟩
      · exact .inr ⟨hs 4 (by decide), _, _, rfl, as_fun _⟩
      · exact .inr ⟨hs 6 (by decide), _, _, rfl, as_tup _⟩
      · exact .inr ⟨hs 8 (by decide), _, _, rfl, as_lst _⟩
      · exact .inr ⟨hs 7 (by decide), _, _, rfl, as_map _⟩

set_option maxRecDepth 40000 in
set_option maxHeartbeats 2000000 in
theorem asBytes_any {n : Nat} (K : Nat → Prop) (w : World) (ks : List (Tm n)) (a : Option Addr) (cap : Nat) (hl : ks.length ≤ 2 ^ 42) (hKA : KAt K w (VAt K w n) ks a) (hK : ∀ k, K k → k < w.heap.size) :
    Calls Tryz.prog 217 #[.slice a ks.length cap] w fun e w' => Below w.heap.size w w' ∧
      ((ks.all (smallB n) = true ∧ ∃ v', e = .returned (.tuple #[v', .bool true]) ∧ w'.ownsRow w.heap.size 5 1 v' ks.length (u8c (ks.map (numT n)))) ∨
       (ks.all (smallB n) = false ∧ e = .returned (.tuple #[.slice none 0 0, .bool false]))) := by
  obtain ⟨i0, hi0, hz0, hz1, hz2⟩ := info_parts info_byte
  have HV := hide hKA
  clear hKA
  go_enter Tryz.func217, Tryz.ntmps217
  go_wp2_with fail
  go_loopw [4, 11] (fun rv iv wr => ∃ i : Nat, i ≤ ks.length ∧ iv = .int .i64 i ∧ Below w.heap.size w wr ∧ wr.ownsRow w.heap.size 5 1 rv i (u8c ((ks.take i).map (numT n))) ∧ (ks.take i).all (smallB n) = true) (fun _ iv _ => ks.length - (intOf iv).toNat)
  case atStart => exact ⟨0, Nat.zero_le _, rfl, Below.refl _ _, by simpa [u8c] using World.ownsRow_nil _ _ _ _, rfl⟩
  case round =>
    obtain ⟨i, hi, rfl, hb, ho, hall⟩ := hrel
    by_cases hlt : i < ks.length
    · obtain ⟨bb, off, v, rfl, hS, hcell, hv⟩ := unhide HV i hlt
      have f0 : wr.cell? ⟨bb, off + i, none⟩ = some v := (World.cell?_of_block (hb.block bb (hK bb hS))).trans hcell
      have HB := hide hb
      have HO := hide ho
      have HA := hide hall
      clear hcell hb ho hall
      rcases hv.asInt with ⟨m, rfl, hm, hsm⟩ | ⟨hsm, u, x, rfl, hta⟩
      · have hib := isByte_any m
        cases hd : (decide (0 ≤ m) && decide (m ≤ 255))
        · rw [hd] at hib hsm
          have HN := hide (all_no _ ks i hlt hsm)
          have HI := hide hib
          have hti := as_int (.int .i64 m)
          clear hv hib hsm hm
          go_wp2_with (go_at_call 127; refine ((unhide HI) _).mono ?_; rintro e w' ⟨rfl, rfl⟩)
          go_ret2
          exact ⟨unhide HB, .inr ⟨unhide HN, rfl⟩⟩
        · rw [hd] at hib hsm
          have hmm : m % 256 = m := by simp at hd; omega
          have HALL := hide (all_take _ ks i hlt (unhide HA) hsm)
          have HNUM := hide (numS_take ks i hlt)
          have HM := hide hm
          have HI := hide hib
          have hti := as_int (.int .i64 m)
          obtain ⟨a1, cap1, rfl⟩ := own_form (unhide HO)
          have hm1 := hide (show i + 1 ≤ maxLen by unfold maxLen; omega)
          have hm2 := hide (show (i + 1) * 1 ≤ 140737488355328 by omega)
          have hm3 := hide (unhide HB).size
          clear hv hib hsm hm
          have hnb := hide (show (wr.alloc (.cells #[.int .u8 m] 5)).heap[wr.heap.size]? = some (.cells #[.int .u8 m] 5 (0, 0)) from heap_new _ _)
          have hm4 := hide (show w.heap.size ≤ (wr.alloc (.cells #[.int .u8 m] 5)).heap.size by simp; have := (unhide HB).size; omega)
          go_upto_region 8 with (go_at_call 127; refine ((unhide HI) _).mono ?_; rintro e w' ⟨rfl, rfl⟩)
          go_wp2_with (at_builtin; refine wpList_append_own _ rfl (.tmp 27) (.tmp 30) 22 rfl w.heap.size 5 i0 (.int .u8 0) 1 1 Tryz.underlying22 hi0 hz0 hz1 hz2 rfl (by decide) _ i _ rfl ((unhide HO).alloc _) _ 1 1 [.int .u8 m] rfl rfl (World.news_of_block (cs := #[.int .u8 m]) (unhide hnb)) (fun u hu => by simp at hu; subst hu; rfl) (unhide hm1) (unhide hm2) (unhide hm4) ?_)
          intro v w1 ho1 hg1 _
          have hb1 : Below w.heap.size w w1 := ((unhide HB).alloc (unhide hm3) _).grown hg1 (unhide hm4) fun k hk => ((unhide HO).lt k hk).1
          have he : u8c ((ks.take i).map (numT n)) ++ [Value.int .u8 m] = u8c ((ks.take (i + 1)).map (numT n)) := by rw [unhide HNUM, u8c_append, unhide HM]; rfl
          rw [← List.map_take, he] at ho1
          have HO1 := hide ho1
          have HB1 := hide hb1
          clear ho1 hb1 hg1 f0 he
          go_wp2_with fail
          go_roundw
          case rel => exact ⟨i + 1, hlt, by go_num, unhide HB1, unhide HO1, unhide HALL⟩
          case measure => simp [intOf]; omega
      · have HN := hide (all_no _ ks i hlt hsm)
        clear hv hsm
        go_wp2_with fail
        go_ret2
        exact ⟨unhide HB, .inr ⟨unhide HN, rfl⟩⟩
    · have hkk : i = ks.length := by omega
      subst hkk
      rw [List.take_length] at ho hall
      obtain ⟨a1, cap1, rfl⟩ := own_form ho
      have HB := hide hb
      have HO := hide ho
      have HA := hide hall
      clear hb ho hall
      go_wp2_with fail
      go_ret2
      exact ⟨unhide HB, .inl ⟨unhide HA, _, rfl, unhide HO⟩⟩

/-- The bytes ahead of a List's kids. -/
def lstL (len : Nat) (small : Bool) : List Int := if len = 0 then [106] else if small then 107 :: beL len 2 else 108 :: beL len 2
def lstS {n : Nat} (ks : List (Tm n)) : List Int := if ks.all (smallB n) = true then ks.map (numT n) else packS ks

set_option maxRecDepth 40000 in
set_option maxHeartbeats 2000000 in
theorem pack_lst {n : Nat} (K : Nat → Prop) (b most : Nat) (xs : List Int) (w : World) (h : PackV n) (ks : List (Tm n)) (a : Option Addr) (cap : Nat) (hKA : KAt K w (VAt K w n) ks a) (hr : ks.all (rightB n) = true) (hz : ∀ t ∈ ks, siz n t ≤ 2000) (hl : ks.length ≤ 2 ^ 42) (hW : Wri K b most xs w) (hmost : most ≤ 2 ^ 40) :
    Calls Tryz.prog 214 #[.slice a ks.length cap, .pointer (some ⟨b, 0, none⟩)] w fun e w' => WEnd K b most xs (lstL ks.length (ks.all (smallB n)) ++ lstS ks) w e w' := by
  have hab := hide (asBytes_any K w ks a cap hl hKA hW.lt)
  have hrow := hide (fun (ys : List Int) (w' : World) (hst : Stay K w w') (hW : Wri K b most ys w') => packRow_any K b most ys w' h ks a cap (hKA.keep (fun k hk => hst.block k hk) fun t _ v hv => hv.keep fun k hk => hst.block k hk) hr hz (by omega) hW hmost)
  have HW := hide hW
  have HZ0 := hide hl
  clear hKA hr hz hl h hW
  by_cases h0 : ks.length = 0
  · have hks : ks = [] := List.eq_nil_of_length_eq_zero h0
    subst hks
    go_enter Tryz.func214, Tryz.ntmps214
    go_wp2_with fail
    refine (unhide hab).mono ?_
    rintro e w1 ⟨hb1, ⟨_, v1, rfl, _⟩ | ⟨hn, _⟩⟩
    rotate_left
    · cases hn
    have h1 := hide (lit_any K b most xs [106] 1 5 w1 ((unhide HW).same hb1) rfl (by simp [B8]) hmost (by omega))
    have S1 := hide (Stay.below hb1 (unhide HW).lt)
    clear hb1
    go_wp2_with fail
    refine (unhide h1).mono ?_
    rintro e w2 hend
    have hend' : WEnd K b most xs (lstL ([] : List (Tm n)).length (([] : List (Tm n)).all (smallB n)) ++ lstS ([] : List (Tm n))) w e w2 := hend.step (fun _ h => h) (unhide S1)
    obtain ⟨s2, ⟨l2, rfl, hw2⟩ | ⟨l2, rfl⟩⟩ := hend
    rotate_left
    · exact ⟨rfl, hend'⟩
    have HE := hide hend'
    clear hend' s2 hw2 l2
    go_wp2_with fail
    exact bodyPost_ret (v := .tuple #[]) (by simp [results, Tryz.results214, go_sem]) rfl (unhide HE)
  · have h0' : ¬ (ks.length : Int) = 0 := by omega
    have H0 := hide h0
    go_enter Tryz.func214, Tryz.ntmps214
    go_wp2_with fail
    refine (unhide hab).mono ?_
    rintro e w1 ⟨hb1, ⟨hall, v1, rfl, ho1⟩ | ⟨hn, rfl⟩⟩
    · have hL := hide (show lstL ks.length (ks.all (smallB n)) ++ lstS ks = 107 :: (beL ks.length 2 ++ ks.map (numT n)) by unfold lstL lstS; rw [if_neg (unhide H0), if_pos hall, if_pos hall]; rfl)
      have hby := hide (fun y hy => by
        obtain ⟨t, ht, rfl⟩ := List.mem_map.1 hy
        exact small_num (List.all_eq_true.1 hall t ht) : ∀ y ∈ ks.map (numT n), B8 y)
      obtain ⟨g, c, rfl, hg, hgl⟩ := ho1.form (by omega)
      have hW1 : Wri (fun k => K k ∨ k = g) b most xs w1 := (unhide HW).more hb1 fun k hk => hk.imp id fun e => by subst e; exact ⟨hg, hgl⟩
      have h1 := hide (lit_any (fun k => K k ∨ k = g) b most xs [107] 1 5 w1 hW1 rfl (by simp [B8]) hmost (by omega))
      have hup := hide (fun (us : List Int) (e : Ending) (w' : World) (hE : WEnd (fun k => K k ∨ k = g) b most xs us w1 e w') => hE.step (fun _ h => .inl h) (Stay.below hb1 (unhide HW).lt))
      have hrd := hide (fun (w' : World) (hst : Stay (fun k => K k ∨ k = g) w1 w') => (fun i hi => by
        have hi' : i < (u8c (ks.map (numT n))).length := by rw [u8c_length, List.length_map]; exact hi
        have hc := ho1.cells (g := g) rfl i _ (List.getElem?_eq_getElem hi')
        have hadd : (⟨g, 0, none⟩ : Addr).add i = ⟨g, i, none⟩ := by unfold Addr.add; split <;> simp_all
        rw [hadd] at hc
        rw [Nat.zero_add, hst.cell (.inr rfl) i, hc]
        simp [u8c, hi] : ∀ i, i < ks.length → w'.cell? ⟨g, 0 + i, none⟩ = some (.int .u8 ((ks.map (numT n)).getD i 0))))
      clear hb1 hall ho1 hW1
      go_wp2_with fail
      refine (unhide h1).mono ?_
      rintro e w2 ⟨s2, ⟨l2, rfl, hw2⟩ | ⟨l2, rfl⟩⟩
      rotate_left
      · refine ⟨rfl, ?_⟩
        rw [unhide hL]
        exact unhide hup _ _ _ (WEnd.stop s2 l2 rfl)
      have h2 := hide (number_any _ b most _ ks.length 2 w2 hw2 hmost (by omega))
      have S2 := hide s2
      clear hw2 s2 l2
      go_wp2_with fail
      refine (unhide h2).mono ?_
      rintro e w3 hend
      have hend' := hend.go (unhide S2) (us := 107 :: beL ks.length 2) rfl
      obtain ⟨s3, ⟨l3, rfl, hw3⟩ | ⟨l3, rfl⟩⟩ := hend'
      rotate_left
      · refine ⟨rfl, ?_⟩
        rw [unhide hL]
        exact unhide hup _ _ _ (WEnd.stop s3 l3 rfl)
      clear hend
      have h3 := hide (wbytes_any _ b most _ (ks.map (numT n)) g ks.length c w3 hw3 (List.length_map _) (unhide hby) (unhide hrd w3 s3) hmost (by have := unhide HZ0; omega))
      have S3 := hide s3
      clear hw3 s3 l3
      go_wp2_with fail
      refine (unhide h3).mono ?_
      rintro e w4 hend
      have hend' := unhide hup _ _ _ (hend.go (unhide S3) (us := 107 :: (beL ks.length 2 ++ ks.map (numT n))) rfl)
      rw [← unhide hL] at hend'
      obtain ⟨s4, ⟨l4, rfl, hw4⟩ | ⟨l4, rfl⟩⟩ := hend
      rotate_left
      · exact ⟨rfl, hend'⟩
      have HE := hide hend'
      clear hend' s4 hw4 l4
      go_wp2_with fail
      exact bodyPost_ret (v := .tuple #[]) (by simp [results, Tryz.results214, go_sem]) rfl (unhide HE)
    · have hL := hide (show lstL ks.length (ks.all (smallB n)) ++ lstS ks = 108 :: beL ks.length 2 ++ packS ks by unfold lstL lstS; rw [if_neg (unhide H0), hn]; rfl)
      have h1 := hide (lit_any K b most xs [108] 1 5 w1 ((unhide HW).same hb1) rfl (by simp [B8]) hmost (by omega))
      have S1 := hide (Stay.below hb1 (unhide HW).lt)
      clear hb1 hn
      go_wp2_with fail
      refine (unhide h1).mono ?_
      rintro e w2 ⟨s2, ⟨l2, rfl, hw2⟩ | ⟨l2, rfl⟩⟩
      rotate_left
      · refine ⟨rfl, ?_⟩
        rw [unhide hL]
        exact (WEnd.stop s2 l2 rfl).step (fun _ h => h) (unhide S1)
      have h2 := hide (number_any _ b most _ ks.length 2 w2 hw2 hmost (by omega))
      have S2 := hide ((unhide S1).trans s2)
      clear hw2 s2 l2
      go_wp2_with fail
      refine (unhide h2).mono ?_
      rintro e w3 hend
      have hend' := hend.go (unhide S2) (us := 108 :: beL ks.length 2) rfl
      obtain ⟨s3, ⟨l3, rfl, hw3⟩ | ⟨l3, rfl⟩⟩ := hend'
      rotate_left
      · refine ⟨rfl, ?_⟩
        rw [unhide hL]
        exact WEnd.stop s3 l3 rfl
      clear hend
      have h3 := hide ((unhide hrow) _ w3 s3 hw3)
      have S3 := hide s3
      clear hw3 s3 l3
      go_wp2_with fail
      refine (unhide h3).mono ?_
      rintro e w4 hend
      have hend' := hend.go (unhide S3) rfl
      rw [← unhide hL] at hend'
      obtain ⟨s4, ⟨l4, rfl, hw4⟩ | ⟨l4, rfl⟩⟩ := hend
      rotate_left
      · exact ⟨rfl, hend'⟩
      have HE := hide hend'
      clear hend' s4 hw4 l4
      go_wp2_with fail
      exact bodyPost_ret (v := .tuple #[]) (by simp [results, Tryz.results214, go_sem]) rfl (unhide HE)

end Go.Proofs.YthfjgffhncogaaaGreat
/- impl's way inward: pairsOf, a copy of a row of values as pairs. -/
namespace Go.Proofs.YthfjgffhncogaaaGreat
open Go.RowKit

theorem run_mkp (n : Nat) (hn : n ≤ 2000) (w : World) : (Instr.makeSlice 113 (.int .i64 0) (.int .i64 n)).run Tryz.prog w =
    .ok (.slice (some ⟨w.heap.size, 0, none⟩) 0 n) (w.alloc (.cells (madeCells #[.nilIface, .nilIface] (n * 2)) 141)) := by
  have := run_make (P := Tryz.prog) w 113 141 (Tryz.prog.types[141]!) (.agg #[.nilIface, .nilIface]) (by kernel_rfl) (by kernel_rfl) (by kernel_rfl) .i64 .i64 0 n (Int.le_refl _) (by omega)
    (by rw [show (Tryz.prog.types[141]!).bytes = 32 from by kernel_rfl]; omega) (by omega)
  rw [this, show (Tryz.prog.types[141]!).size = 2 from by kernel_rfl]
  simp [Value.cells]
theorem infoP : (Tryz.prog.info? 141).map (fun i => (i.zero, i.size, i.bytes)) = some (some (.agg #[.nilIface, .nilIface]), 2, 32) := by kernel_rfl

theorem below_set2 {B : Nat} {w w' : World} (h : Below B w w') (o : Nat) (v1 v2 : Value) : Below B w (w'.setCells B o [v1, v2]) :=
  ((h.setCell (p := ⟨B, _, none⟩) (Nat.le_refl B) _).setCell (p := ⟨B, _, none⟩) (Nat.le_refl B) _)

set_option maxRecDepth 40000 in
set_option maxHeartbeats 4000000 in
theorem pairsOf_any (vs : List Value) (L p R0 cap : Nat) (w : World) (hvs : vs.length = L) (hL : L = 2 * p) (hp : p ≤ 1000) (hcap : L ≤ cap) (hR0 : 0 < L → R0 < w.heap.size)
    (hcell : ∀ j (hj : j < vs.length), w.cell? ⟨R0, j, none⟩ = some vs[j]) (hface : ∀ v ∈ vs, ∃ u x, v = .iface u x) :
    Calls Tryz.prog 114 #[.slice (some ⟨R0, 0, none⟩) L cap] w fun e w' => e = .returned (.slice (some ⟨w.heap.size, 0, none⟩) p p) ∧ w.heap.size < w'.heap.size ∧
      (∀ j (hj : j < vs.length), w'.cell? ⟨w.heap.size, j, none⟩ = some vs[j]) ∧ Below w.heap.size w w' := by
  obtain ⟨i0, hi0, hz0, hz1, hz2⟩ := info_parts infoP
  have hq : ((p : Nat) : Int) = (L : Int) / 2 := by omega
  have hmk := run_mkp p (by omega)
  rw [hq] at hmk
  have hLn : L ≤ 2000 := by omega
  have HL := hide hL
  have HR0 := hide hR0
  have HVS := hide hvs
  clear hq hL hvs hR0
  go_enter Tryz.func114, Tryz.ntmps114
  go_wp2_with fail
  clear hmk
  go_loopw [3, 4] (fun rv iv wr => ∃ q y : Nat, Hid (y = 2 * q) ∧ y ≤ L ∧ iv = .int .i64 y ∧ rv = .slice (some ⟨w.heap.size, 0, none⟩) q p ∧ Below w.heap.size w wr ∧ Row w.heap.size 141 (p * 2) wr ∧
      ∀ j (hj : j < vs.length), j < y → wr.cell? ⟨w.heap.size, j, none⟩ = some vs[j]) (fun _ iv _ => L - (intOf iv).toNat)
  case atStart =>
    refine ⟨0, 0, hide rfl, by omega, rfl, rfl, (Below.refl _ _).alloc (Nat.le_refl _) _, ?_, fun j _ hj => absurd hj (by omega)⟩
    have := Row.new (e := 141) w (madeCells #[.nilIface, .nilIface] (p * 2))
    rwa [size_madeCells] at this
  case round =>
    obtain ⟨q, y, HY, hyL, rfl, rfl, hb, hrow, hall⟩ := hrel
    by_cases hlt : y < L
    · have h1 : y + 1 < L := by have := unhide HY; have := unhide HL; omega
      have g1 : y < vs.length := by have := unhide HVS; omega
      have g2 : y + 1 < vs.length := by have := unhide HVS; omega
      have f1 : wr.cell? ⟨R0, y, none⟩ = some vs[y] := (World.cell?_of_block (w := w) (hb.block _ (unhide HR0 (by omega)))).trans (hcell y g1)
      have f2 : wr.cell? ⟨R0, y + 1, none⟩ = some vs[y + 1] := (World.cell?_of_block (w := w) (hb.block _ (unhide HR0 (by omega)))).trans (hcell (y + 1) g2)
      obtain ⟨u1, x1, e1⟩ := hface _ (List.getElem_mem g1)
      obtain ⟨u2, x2, e2⟩ := hface _ (List.getElem_mem g2)
      have E1 := hide e1
      have E2 := hide e2
      rw [e1] at f1
      rw [e2] at f2
      clear e1 e2
      have hrm : q + 1 ≤ p := by have := unhide HY; have := unhide HL; omega
      obtain ⟨z0, r0⟩ := hrow.cell (o := q * 2) (by omega)
      obtain ⟨z1, r1⟩ := hrow.cell (o := q * 2 + 1) (by omega)
      have r2 := hrow.frozen (q * 2)
      have r3 := hrow.frozen (q * 2 + 1)
      have HALL := hide hall
      have HC := hide hcell
      have HF := hide hface
      have hwl := hrow.lt
      clear hall hcell hface
      go_wp2_with fail
      have w0 : IntKind.i64.wrap ((y : Int) + 1) = (y : Int) + 1 := by simp [IntKind.wrap, IntKind.bits, IntKind.signed]; omega
      have w1 : (0 : Int) ≤ (y : Int) + 1 := by omega
      have w2 : (y : Int) + 1 < (L : Int) := by omega
      have w3 : ((y : Int) + 1).toNat = y + 1 := by omega
      go_region
      go_wp2_with fail
      go_roundw
      case rel =>
        have hS := Row.set (hrow.set (q * 2) (.iface u1 x1)) (q * 2 + 1) (.iface u2 x2)
        have hx := hrow.set (q * 2) (.iface u1 x1)
        refine ⟨q + 1, y + 2, hide (by have := unhide HY; omega), by omega, by go_num, rfl, ?_, ?_, fun j hj hjy => ?_⟩
        · exact (((hb.setCell (p := ⟨w.heap.size, q * 2, none⟩) (Nat.le_refl w.heap.size) _).setCell (p := ⟨w.heap.size, q * 2 + 1, none⟩) (Nat.le_refl w.heap.size) _).alloc (by simp; omega) _).drew
        · exact hS.keep (Below.heap_alloc _ _ _ hS.lt)
        · have hy2 := unhide HY
          refine (World.cell?_of_block (Below.heap_alloc _ _ _ hS.lt)).trans ?_
          by_cases hj1 : j < y
          · rw [hx.set_ne (by omega), hrow.set_ne (by omega)]; exact (unhide HALL) j hj hj1
          · by_cases hj2 : j = y
            · subst hj2
              rw [hx.set_ne (by omega), unhide E1]
              have hg := hrow.set_get (o := q * 2) (by omega) (.iface u1 x1)
              have he : q * 2 = j := by omega
              rwa [he] at hg ⊢
            · have hj3 : j = y + 1 := by omega
              subst hj3
              rw [unhide E2]
              have hg := hx.set_get (o := q * 2 + 1) (by omega) (.iface u2 x2)
              have he : q * 2 = y := by omega
              rwa [he] at hg ⊢
      case measure => simp [intOf]; omega
    · have hye : y = L := by omega
      subst hye
      have HALL := hide hall
      have HC := hide hcell
      have HF := hide hface
      have hwl := hrow.lt
      have hqp : q = p := by have := unhide HY; have := unhide HL; omega
      subst hqp
      clear hall hcell hface
      go_wp2_with fail
      go_ret
      exact ⟨rfl, hwl, fun j hj => (unhide HALL) j hj (by have := unhide HVS; omega), hb⟩

end Go.Proofs.YthfjgffhncogaaaGreat
