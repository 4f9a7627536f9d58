/- impl's pack of lists: asBytes, pack. -/
import Derived.Test.YtaggnncndbdmjaaPkm
namespace Go.Proofs.Ytaggnncndbdmjaa
open Go.RowKit Go.Deep

theorem as_int (x : Value) (w : World) : (Instr.typeAssert (.iface 68 x) 47 68 true).run Try.prog w = .ok (.tuple #[x, .bool true]) w := by kernel_rfl
theorem as_atom (x : Value) (w : World) : (Instr.typeAssert (.iface 69 x) 47 68 true).run Try.prog w = .ok (.tuple #[.int .i64 0, .bool false]) w := by kernel_rfl
theorem as_ref (x : Value) (w : World) : (Instr.typeAssert (.iface 70 x) 47 68 true).run Try.prog w = .ok (.tuple #[.int .i64 0, .bool false]) w := by kernel_rfl
theorem as_pid (x : Value) (w : World) : (Instr.typeAssert (.iface 75 x) 47 68 true).run Try.prog w = .ok (.tuple #[.int .i64 0, .bool false]) w := by kernel_rfl
theorem as_bin (x : Value) (w : World) : (Instr.typeAssert (.iface 81 x) 47 68 true).run Try.prog w = .ok (.tuple #[.int .i64 0, .bool false]) w := by kernel_rfl
theorem as_fun (x : Value) (w : World) : (Instr.typeAssert (.iface 74 x) 47 68 true).run Try.prog w = .ok (.tuple #[.int .i64 0, .bool false]) w := by kernel_rfl
theorem as_tup (x : Value) (w : World) : (Instr.typeAssert (.iface 76 x) 47 68 true).run Try.prog w = .ok (.tuple #[.int .i64 0, .bool false]) w := by kernel_rfl
theorem as_lst (x : Value) (w : World) : (Instr.typeAssert (.iface 80 x) 47 68 true).run Try.prog w = .ok (.tuple #[.int .i64 0, .bool false]) w := by kernel_rfl
theorem as_map (x : Value) (w : World) : (Instr.typeAssert (.iface 78 x) 47 68 true).run Try.prog w = .ok (.tuple #[.int .i64 0, .bool false]) w := by kernel_rfl

/-- Asked whether it is an Int. -/
theorem VAt.asInt {S : Nat → Prop} {w : World} : ∀ {n : Nat} {t : Tm n} {v : Value}, VAt S w n t v →
    (∃ m, v = .iface 68 (.int .i64 m) ∧ numT n t = m ∧ smallB n t = (decide (0 ≤ m) && decide (m ≤ 255))) ∨
    (smallB n t = false ∧ ∃ u x, v = .iface u x ∧ ∀ w : World, (Instr.typeAssert (.iface u x) 47 68 true).run Try.prog w = .ok (.tuple #[.int .i64 0, .bool false]) w)
  | 0, t, _, _ => t.elim
  | _ + 1, (k, m, s, ks), _, ⟨_, _, h⟩ => by
    have hs : ∀ k' : Int, k' ≠ 1 → smallB (_ + 1) (k', m, s, ks) = false := fun k' hk => by show (decide (k' = 1) && (decide (0 ≤ m) && decide (m ≤ 255))) = false; rw [decide_eq_false hk]; rfl
    rcases h with ⟨rfl, rfl⟩ | ⟨rfl, rfl⟩ | ⟨rfl, rfl⟩ | ⟨rfl, rfl⟩ | ⟨rfl, rfl⟩ | ⟨a, cap, _, _, _, h⟩
    · exact .inl ⟨m, rfl, rfl, by show (decide ((1 : Int) = 1) && (decide (0 ≤ m) && decide (m ≤ 255))) = _; simp⟩
    · exact .inr ⟨hs 2 (by decide), _, _, rfl, as_atom _⟩
    · exact .inr ⟨hs 3 (by decide), _, _, rfl, as_ref _⟩
    · exact .inr ⟨hs 5 (by decide), _, _, rfl, as_pid _⟩
    · exact .inr ⟨hs 9 (by decide), _, _, rfl, as_bin _⟩
    · rcases h with ⟨rfl, rfl⟩ | ⟨rfl, rfl⟩ | ⟨rfl, rfl⟩ | ⟨rfl, rfl⟩
      · exact .inr ⟨hs 4 (by decide), _, _, rfl, as_fun _⟩
      · exact .inr ⟨hs 6 (by decide), _, _, rfl, as_tup _⟩
      · exact .inr ⟨hs 8 (by decide), _, _, rfl, as_lst _⟩
      · exact .inr ⟨hs 7 (by decide), _, _, rfl, as_map _⟩

set_option maxRecDepth 40000 in
set_option maxHeartbeats 2000000 in
theorem asBytes_any {n : Nat} (K : Nat → Prop) (w : World) (ks : List (Tm n)) (a : Option Addr) (cap : Nat) (hl : ks.length ≤ 2 ^ 42) (hKA : KAt K w (VAt K w n) ks a) (hK : ∀ k, K k → k < w.heap.size) :
    Calls Try.prog 112 #[.slice a ks.length cap] w fun e w' => Below w.heap.size w w' ∧
      ((ks.all (smallB n) = true ∧ ∃ v', e = .returned (.tuple #[v', .bool true]) ∧ w'.ownsRow w.heap.size 5 1 v' ks.length (u8c (ks.map (numT n)))) ∨
       (ks.all (smallB n) = false ∧ e = .returned (.tuple #[.slice none 0 0, .bool false]))) := by
  obtain ⟨i0, hi0, hz0, hz1, hz2⟩ := info_parts info_byte
  have HV := hide hKA
  clear hKA
  go_enter Try.func112, Try.ntmps112
  go_wp2_with fail
  go_loopw [4, 11] (fun rv iv wr => ∃ i : Nat, i ≤ ks.length ∧ iv = .int .i64 i ∧ Below w.heap.size w wr ∧ wr.ownsRow w.heap.size 5 1 rv i (u8c ((ks.take i).map (numT n))) ∧ (ks.take i).all (smallB n) = true) (fun _ iv _ => ks.length - (intOf iv).toNat)
  case atStart => exact ⟨0, Nat.zero_le _, rfl, Below.refl _ _, by simpa [u8c] using World.ownsRow_nil _ _ _ _, rfl⟩
  case round =>
    obtain ⟨i, hi, rfl, hb, ho, hall⟩ := hrel
    by_cases hlt : i < ks.length
    · obtain ⟨bb, off, v, rfl, hS, hcell, hv⟩ := unhide HV i hlt
      have f0 : wr.cell? ⟨bb, off + i, none⟩ = some v := (World.cell?_of_block (hb.block bb (hK bb hS))).trans hcell
      have HB := hide hb
      have HO := hide ho
      have HA := hide hall
      clear hcell hb ho hall
      rcases hv.asInt with ⟨m, rfl, hm, hsm⟩ | ⟨hsm, u, x, rfl, hta⟩
      · have hib := isByte_any m
        cases hd : (decide (0 ≤ m) && decide (m ≤ 255))
        · rw [hd] at hib hsm
          have HN := hide (all_no _ ks i hlt hsm)
          have HI := hide hib
          have hti := as_int (.int .i64 m)
          clear hv hib hsm hm
          go_wp2_with (go_at_call 62; refine ((unhide HI) _).mono ?_; rintro e w' ⟨rfl, rfl⟩)
          go_ret2
          exact ⟨unhide HB, .inr ⟨unhide HN, rfl⟩⟩
        · rw [hd] at hib hsm
          have hmm : m % 256 = m := by simp at hd; omega
          have HALL := hide (all_take _ ks i hlt (unhide HA) hsm)
          have HNUM := hide (numS_take ks i hlt)
          have HM := hide hm
          have HI := hide hib
          have hti := as_int (.int .i64 m)
          obtain ⟨a1, cap1, rfl⟩ := own_form (unhide HO)
          have hm1 := hide (show i + 1 ≤ maxLen by unfold maxLen; omega)
          have hm2 := hide (show (i + 1) * 1 ≤ 140737488355328 by omega)
          have hm3 := hide (unhide HB).size
          clear hv hib hsm hm
          have hnb := hide (show (wr.alloc (.cells #[.int .u8 m] 5)).heap[wr.heap.size]? = some (.cells #[.int .u8 m] 5 (0, 0)) from heap_new _ _)
          have hm4 := hide (show w.heap.size ≤ (wr.alloc (.cells #[.int .u8 m] 5)).heap.size by simp; have := (unhide HB).size; omega)
          go_upto_region 8 with (go_at_call 62; refine ((unhide HI) _).mono ?_; rintro e w' ⟨rfl, rfl⟩)
          go_wp2_with (at_builtin; refine wpList_append_own _ rfl (.tmp 27) (.tmp 30) 36 rfl w.heap.size 5 i0 (.int .u8 0) 1 1 Try.underlying36 hi0 hz0 hz1 hz2 rfl (by decide) _ i _ rfl ((unhide HO).alloc _) _ 1 1 [.int .u8 m] rfl rfl (World.news_of_block (cs := #[.int .u8 m]) (unhide hnb)) (fun u hu => by simp at hu; subst hu; rfl) (unhide hm1) (unhide hm2) (unhide hm4) ?_)
          intro v w1 ho1 hg1 _
          have hb1 : Below w.heap.size w w1 := ((unhide HB).alloc (unhide hm3) _).grown hg1 (unhide hm4) fun k hk => ((unhide HO).lt k hk).1
          have he : u8c ((ks.take i).map (numT n)) ++ [Value.int .u8 m] = u8c ((ks.take (i + 1)).map (numT n)) := by rw [unhide HNUM, u8c_append, unhide HM]; rfl
          rw [← List.map_take, he] at ho1
          have HO1 := hide ho1
          have HB1 := hide hb1
          clear ho1 hb1 hg1 f0 he
          go_wp2_with fail
          go_roundw
          case rel => exact ⟨i + 1, hlt, by go_num, unhide HB1, unhide HO1, unhide HALL⟩
          case measure => simp [intOf]; omega
      · have HN := hide (all_no _ ks i hlt hsm)
        clear hv hsm
        go_wp2_with fail
        go_ret2
        exact ⟨unhide HB, .inr ⟨unhide HN, rfl⟩⟩
    · have hkk : i = ks.length := by omega
      subst hkk
      rw [List.take_length] at ho hall
      obtain ⟨a1, cap1, rfl⟩ := own_form ho
      have HB := hide hb
      have HO := hide ho
      have HA := hide hall
      clear hb ho hall
      go_wp2_with fail
      go_ret2
      exact ⟨unhide HB, .inl ⟨unhide HA, _, rfl, unhide HO⟩⟩

/-- The bytes ahead of a List's kids. -/
def lstL (len : Nat) (small : Bool) : List Int := if len = 0 then [106] else if small then 107 :: beL len 2 else 108 :: beL len 2
def lstS {n : Nat} (ks : List (Tm n)) : List Int := if ks.all (smallB n) = true then ks.map (numT n) else packS ks

set_option maxRecDepth 40000 in
set_option maxHeartbeats 2000000 in
theorem pack_lst {n : Nat} (K : Nat → Prop) (b most : Nat) (xs : List Int) (w : World) (h : PackV n) (ks : List (Tm n)) (a : Option Addr) (cap : Nat) (hKA : KAt K w (VAt K w n) ks a) (hr : ks.all (rightB n) = true) (hz : ∀ t ∈ ks, siz n t ≤ 2000) (hl : ks.length ≤ 2 ^ 42) (hW : Wri K b most xs w) (hmost : most ≤ 2 ^ 40) :
    Calls Try.prog 109 #[.slice a ks.length cap, .pointer (some ⟨b, 0, none⟩)] w fun e w' => WEnd K b most xs (lstL ks.length (ks.all (smallB n)) ++ lstS ks) w e w' := by
  have hab := hide (asBytes_any K w ks a cap hl hKA hW.lt)
  have hrow := hide (fun (ys : List Int) (w' : World) (hst : Stay K w w') (hW : Wri K b most ys w') => packRow_any K b most ys w' h ks a cap (hKA.keep (fun k hk => hst.block k hk) fun t _ v hv => hv.keep fun k hk => hst.block k hk) hr hz (by omega) hW hmost)
  have HW := hide hW
  have HZ0 := hide hl
  clear hKA hr hz hl h hW
  by_cases h0 : ks.length = 0
  · have hks : ks = [] := List.eq_nil_of_length_eq_zero h0
    subst hks
    go_enter Try.func109, Try.ntmps109
    go_wp2_with fail
    refine (unhide hab).mono ?_
    rintro e w1 ⟨hb1, ⟨_, v1, rfl, _⟩ | ⟨hn, _⟩⟩
    rotate_left
    · cases hn
    have h1 := hide (lit_any K b most xs [106] 1 5 w1 ((unhide HW).same hb1) rfl (by simp [B8]) hmost (by omega))
    have S1 := hide (Stay.below hb1 (unhide HW).lt)
    clear hb1
    go_wp2_with fail
    refine (unhide h1).mono ?_
    rintro e w2 hend
    have hend' : WEnd K b most xs (lstL ([] : List (Tm n)).length (([] : List (Tm n)).all (smallB n)) ++ lstS ([] : List (Tm n))) w e w2 := hend.step (fun _ h => h) (unhide S1)
    obtain ⟨s2, ⟨l2, rfl, hw2⟩ | ⟨l2, rfl⟩⟩ := hend
    rotate_left
    · exact ⟨rfl, hend'⟩
    have HE := hide hend'
    clear hend' s2 hw2 l2
    go_wp2_with fail
    exact bodyPost_ret (v := .tuple #[]) (by simp [results, Try.results109, go_sem]) rfl (unhide HE)
  · have h0' : ¬ (ks.length : Int) = 0 := by omega
    have H0 := hide h0
    go_enter Try.func109, Try.ntmps109
    go_wp2_with fail
    refine (unhide hab).mono ?_
    rintro e w1 ⟨hb1, ⟨hall, v1, rfl, ho1⟩ | ⟨hn, rfl⟩⟩
    · have hL := hide (show lstL ks.length (ks.all (smallB n)) ++ lstS ks = 107 :: (beL ks.length 2 ++ ks.map (numT n)) by unfold lstL lstS; rw [if_neg (unhide H0), if_pos hall, if_pos hall]; rfl)
      have hby := hide (fun y hy => by
        obtain ⟨t, ht, rfl⟩ := List.mem_map.1 hy
        exact small_num (List.all_eq_true.1 hall t ht) : ∀ y ∈ ks.map (numT n), B8 y)
      obtain ⟨g, c, rfl, hg, hgl⟩ := ho1.form (by omega)
      have hW1 : Wri (fun k => K k ∨ k = g) b most xs w1 := (unhide HW).more hb1 fun k hk => hk.imp id fun e => by subst e; exact ⟨hg, hgl⟩
      have h1 := hide (lit_any (fun k => K k ∨ k = g) b most xs [107] 1 5 w1 hW1 rfl (by simp [B8]) hmost (by omega))
      have hup := hide (fun (us : List Int) (e : Ending) (w' : World) (hE : WEnd (fun k => K k ∨ k = g) b most xs us w1 e w') => hE.step (fun _ h => .inl h) (Stay.below hb1 (unhide HW).lt))
      have hrd := hide (fun (w' : World) (hst : Stay (fun k => K k ∨ k = g) w1 w') => (fun i hi => by
        have hi' : i < (u8c (ks.map (numT n))).length := by rw [u8c_length, List.length_map]; exact hi
        have hc := ho1.cells (g := g) rfl i _ (List.getElem?_eq_getElem hi')
        have hadd : (⟨g, 0, none⟩ : Addr).add i = ⟨g, i, none⟩ := by unfold Addr.add; split <;> simp_all
        rw [hadd] at hc
        rw [Nat.zero_add, hst.cell (.inr rfl) i, hc]
        simp [u8c, hi] : ∀ i, i < ks.length → w'.cell? ⟨g, 0 + i, none⟩ = some (.int .u8 ((ks.map (numT n)).getD i 0))))
      clear hb1 hall ho1 hW1
      go_wp2_with fail
      refine (unhide h1).mono ?_
      rintro e w2 ⟨s2, ⟨l2, rfl, hw2⟩ | ⟨l2, rfl⟩⟩
      rotate_left
      · refine ⟨rfl, ?_⟩
        rw [unhide hL]
        exact unhide hup _ _ _ (WEnd.stop s2 l2 rfl)
      have h2 := hide (number_any _ b most _ ks.length 2 w2 hw2 hmost (by omega))
      have S2 := hide s2
      clear hw2 s2 l2
      go_wp2_with fail
      refine (unhide h2).mono ?_
      rintro e w3 hend
      have hend' := hend.go (unhide S2) (us := 107 :: beL ks.length 2) rfl
      obtain ⟨s3, ⟨l3, rfl, hw3⟩ | ⟨l3, rfl⟩⟩ := hend'
      rotate_left
      · refine ⟨rfl, ?_⟩
        rw [unhide hL]
        exact unhide hup _ _ _ (WEnd.stop s3 l3 rfl)
      clear hend
      have h3 := hide (wbytes_any _ b most _ (ks.map (numT n)) g ks.length c w3 hw3 (List.length_map _) (unhide hby) (unhide hrd w3 s3) hmost (by have := unhide HZ0; omega))
      have S3 := hide s3
      clear hw3 s3 l3
      go_wp2_with fail
      refine (unhide h3).mono ?_
      rintro e w4 hend
      have hend' := unhide hup _ _ _ (hend.go (unhide S3) (us := 107 :: (beL ks.length 2 ++ ks.map (numT n))) rfl)
      rw [← unhide hL] at hend'
      obtain ⟨s4, ⟨l4, rfl, hw4⟩ | ⟨l4, rfl⟩⟩ := hend
      rotate_left
      · exact ⟨rfl, hend'⟩
      have HE := hide hend'
      clear hend' s4 hw4 l4
      go_wp2_with fail
      exact bodyPost_ret (v := .tuple #[]) (by simp [results, Try.results109, go_sem]) rfl (unhide HE)
    · have hL := hide (show lstL ks.length (ks.all (smallB n)) ++ lstS ks = 108 :: beL ks.length 2 ++ packS ks by unfold lstL lstS; rw [if_neg (unhide H0), hn]; rfl)
      have h1 := hide (lit_any K b most xs [108] 1 5 w1 ((unhide HW).same hb1) rfl (by simp [B8]) hmost (by omega))
      have S1 := hide (Stay.below hb1 (unhide HW).lt)
      clear hb1 hn
      go_wp2_with fail
      refine (unhide h1).mono ?_
      rintro e w2 ⟨s2, ⟨l2, rfl, hw2⟩ | ⟨l2, rfl⟩⟩
      rotate_left
      · refine ⟨rfl, ?_⟩
        rw [unhide hL]
        exact (WEnd.stop s2 l2 rfl).step (fun _ h => h) (unhide S1)
      have h2 := hide (number_any _ b most _ ks.length 2 w2 hw2 hmost (by omega))
      have S2 := hide ((unhide S1).trans s2)
      clear hw2 s2 l2
      go_wp2_with fail
      refine (unhide h2).mono ?_
      rintro e w3 hend
      have hend' := hend.go (unhide S2) (us := 108 :: beL ks.length 2) rfl
      obtain ⟨s3, ⟨l3, rfl, hw3⟩ | ⟨l3, rfl⟩⟩ := hend'
      rotate_left
      · refine ⟨rfl, ?_⟩
        rw [unhide hL]
        exact WEnd.stop s3 l3 rfl
      clear hend
      have h3 := hide ((unhide hrow) _ w3 s3 hw3)
      have S3 := hide s3
      clear hw3 s3 l3
      go_wp2_with fail
      refine (unhide h3).mono ?_
      rintro e w4 hend
      have hend' := hend.go (unhide S3) rfl
      rw [← unhide hL] at hend'
      obtain ⟨s4, ⟨l4, rfl, hw4⟩ | ⟨l4, rfl⟩⟩ := hend
      rotate_left
      · exact ⟨rfl, hend'⟩
      have HE := hide hend'
      clear hend' s4 hw4 l4
      go_wp2_with fail
      exact bodyPost_ret (v := .tuple #[]) (by simp [results, Try.results109, go_sem]) rfl (unhide HE)

end Go.Proofs.Ytaggnncndbdmjaa
