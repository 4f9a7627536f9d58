/- spec's l01PackAll, l01Small. -/
import Derived.Test.YthfjgffhncogaaaGreatSp1
namespace Go.Proofs.YthfjgffhncogaaaGreat
open Go.RowKit Go.Deep

theorem TAt.num {S : Nat → Prop} {w : World} : ∀ {n : Nat} {t : Tm n} {c0 c1 c2 c3 : Value}, TAt S w n t c0 c1 c2 c3 → c1 = .int .i64 (numT n t)
  | 0, t, _, _, _, _, _ => t.elim
  | _ + 1, (_, _, _, _), _, _, _, _, h => h.2.1

def SpSaid (n : Nat) : Prop := ∀ (t : Tm n) (c0 c1 c2 c3 v : Value) (N : Nat) (xs : List Int) (B : Nat) (w : World), TAt (Under B) w n t c0 c1 c2 c3 → rightB n t = true → siz n t ≤ 2000 → w.ownsRow B 5 1 v N (u8c xs) → B ≤ w.heap.size →
  N + 10 + 10 * tot n t ≤ 2 ^ 40 → Calls Tryz.prog 41 #[v, .agg #[c0, c1, c2, c3]] w fun e w' => PkEnd B v xs (packT n t) w e w'

theorem totS_len {n : Nat} (ks : List (Tm n)) (i : Nat) (hi : i < ks.length) : totS (ks.take i) + tot n ks[i] ≤ totS ks := by
  have h1 := totS_take ks i hi
  have h2 := totS_le ks (i + 1)
  omega
theorem packS_length {n : Nat} (ks : List (Tm n)) : (packS ks).length ≤ 10 * ks.length + 10 * totS ks := by
  unfold packS totS
  rw [List.length_flatMap, ← sum_lin]
  exact sum_le _ _ ks fun t _ => packT_length n t

section
variable {n : Nat} (ks : List (Tm n)) (a : Option Addr) (cap : Nat) (v : Value) (N B : Nat) (xs : List Int) (w : World)

set_option maxRecDepth 40000 in
set_option maxHeartbeats 1000000 in
theorem spAll_any (h : SpSaid n) (hs : SAt (Under B) w (TAt (Under B) w n) ks (.slice a ks.length cap)) (hr : ks.all (rightB n) = true) (hz : ∀ t ∈ ks, siz n t ≤ 2000) (hv : w.ownsRow B 5 1 v N (u8c xs)) (hB : B ≤ w.heap.size)
    (hN : N + 10 * ks.length + 10 * totS ks ≤ 2 ^ 40) : Calls Tryz.prog 81 #[v, .slice a ks.length cap] w fun e w' => PkEnd B v xs (packS ks) w e w' := by
  obtain ⟨a', cap', hv', hl1, hl2, hel⟩ := hs
  obtain ⟨rfl, rfl⟩ : a = a' ∧ cap = cap' := by cases hv'; exact ⟨rfl, rfl⟩
  have hNx : N = xs.length := by have := hv.1; rw [u8c_length] at this; omega
  have hlb := hide (fun g hg => (hv.lt g hg).1 : ∀ g, v.ownBlock = some g → B ≤ g)
  have HEL := hide hel
  have HR := hide hr
  have HZ := hide hz
  have HV := hide hv
  clear hel hr hz hv hv'
  go_enter Tryz.func81, Tryz.ntmps81
  go_wp2_with fail
  go_loopw [0, 5] (fun ov iv wr => ∃ i : Nat, i ≤ ks.length ∧ iv = .int .i64 i ∧ wr.ownsRow B 5 1 ov (N + (packS (ks.take i)).length) (u8c (xs ++ packS (ks.take i))) ∧ w.grownBy wr v.ownBlock ∧ ∀ g, ov.ownBlock = some g → v.ownBlock = some g ∨ w.heap.size ≤ g) (fun _ iv _ => ks.length - (intOf iv).toNat)
  case atStart => exact ⟨0, Nat.zero_le _, rfl, by simpa [packS] using unhide HV, ⟨rfl, rfl, rfl, Nat.le_refl _, fun _ _ _ => rfl⟩, fun g hg => .inl hg⟩
  case round =>
    obtain ⟨i, hi, rfl, ho, hg, hl⟩ := hrel
    have hb : Below B w wr := ⟨hg.os, hg.tape, hg.output, hg.size, fun k hk => hg.block k (by omega) fun e => by have := unhide hlb k e.symm; omega⟩
    by_cases hlt : i < ks.length
    · obtain ⟨bb, off, d0, d1, d2, d3, rfl, hS, e0, e1, e2, e3, hr⟩ := unhide HEL i hlt
      have hcl : ∀ o, wr.cell? ⟨bb, o, none⟩ = w.cell? ⟨bb, o, none⟩ := fun o => World.cell?_of_block (w := w) (hb.block bb hS)
      have f0 := (hcl _).trans e0
      have f1 := (hcl _).trans e1
      have f2 := (hcl _).trans e2
      have f3 := (hcl _).trans e3
      have ht := hide (packS_take ks i hlt)
      have hlen := totS_len ks i hlt
      have hpl := packS_length (ks.take i)
      have hpt := packT_length n ks[i]
      rw [List.length_take, Nat.min_eq_left hi] at hpl
      have hrt : rightB n ks[i] = true := List.all_eq_true.1 (unhide HR) _ (List.getElem_mem hlt)
      have hcall := hide (h ks[i] d0 d1 d2 d3 _ (N + (packS (ks.take i)).length) _ B wr (hr.below hb fun _ h => h) hrt (unhide HZ _ (List.getElem_mem hlt)) ho (by have := hg.size; omega) (by omega))
      obtain ⟨l0, l1, l2, l3, l4, l5, rfl, rfl, rfl, rfl⟩ := hr.shape
      have HG := hide hg
      have HL := hide hl
      have HO := hide ho
      clear e0 e1 e2 e3 hcl hr hrt hg hl ho hb hpl hpt hlen
      go_wp2_with (go_at_call 41; refine (unhide hcall).mono ?_; rintro e w3 ⟨v3, rfl, ho3, hg3, hl3⟩; have HO3 := hide ho3; have HG3 := hide hg3; have HL3 := hide hl3; clear ho3 hg3 hl3)
      go_roundw
      case rel =>
        have hg := unhide HG
        have hg3 := unhide HG3
        refine ⟨i + 1, hlt, by go_num, ?_, ⟨hg3.os.trans hg.os, hg3.tape.trans hg.tape, hg3.output.trans hg.output, Nat.le_trans hg.size hg3.size, fun k hk hne => ?_⟩, fun g hv3 => ?_⟩
        · have ho3 := unhide HO3
          rw [unhide ht, ← List.append_assoc]
          have hn : N + (packS (ks.take i) ++ packT n ks[i]).length = (xs ++ packS (ks.take i)).length + (packT n ks[i]).length := by rw [List.length_append, List.length_append]; omega
          rw [hn]
          exact ho3
        · refine (hg3.block k (Nat.lt_of_lt_of_le hk hg.size) fun e => ?_).trans (hg.block k hk hne)
          rcases unhide HL k e.symm with h1 | h1
          · exact hne h1.symm
          · omega
        · rcases unhide HL3 g hv3 with h1 | h1
          · exact unhide HL g h1
          · exact .inr (Nat.le_trans hg.size h1)
      case measure => simp [intOf]; omega
    · have hkk : i = ks.length := by omega
      subst hkk
      rw [List.take_length] at ho
      have HG := hide hg
      have HL := hide hl
      have HO := hide ho
      clear hg hl ho hb
      go_wp2_with fail
      go_ret
      refine ⟨_, rfl, ?_, unhide HG, unhide HL⟩
      have := unhide HO
      rwa [hNx] at this

set_option maxRecDepth 40000 in
set_option maxHeartbeats 1000000 in
theorem small_any (hs : SAt (Under B) w (TAt (Under B) w n) ks (.slice a ks.length cap)) : Calls Tryz.prog 82 #[.slice a ks.length cap] w fun e w' => e = .returned (.bool (ks.all (smallB n))) ∧ w' = w := by
  obtain ⟨a', cap', hv', hl1, hl2, hel⟩ := hs
  obtain ⟨rfl, rfl⟩ : a = a' ∧ cap = cap' := by cases hv'; exact ⟨rfl, rfl⟩
  have HEL := hide hel
  clear hel hv'
  go_enter Tryz.func82, Tryz.ntmps82
  go_wp2_with fail
  go_loop [3] (fun iv => ∃ i : Nat, i ≤ ks.length ∧ iv = .int .i64 i ∧ (ks.take i).all (smallB n) = true) (fun iv => ks.length - (intOf iv).toNat)
  case atStart => exact ⟨0, Nat.zero_le _, rfl, rfl⟩
  case round =>
    obtain ⟨i, hi, rfl, hall⟩ := hrel
    by_cases hlt : i < ks.length
    · obtain ⟨bb, off, d0, d1, d2, d3, rfl, hS, e0, e1, e2, e3, hr⟩ := unhide HEL i hlt
      obtain ⟨q, m, hd0, hd1, hsm⟩ : ∃ q m, d0 = .int .i64 q ∧ d1 = .int .i64 m ∧ smallB n ks[i] = (decide (q = 1) && (decide (0 ≤ m) && decide (m ≤ 255))) := by
        revert hr
        generalize ks[i] = t
        match n, t with
        | 0, t => exact t.elim
        | _ + 1, (q, m, s, k2) => exact fun hr => ⟨q, m, hr.1, hr.2.1, rfl⟩
      subst hd0 hd1
      have HA := hide hall
      have HS := hide hsm
      clear e2 e3 hr hall hsm
      by_cases h1 : q = 1
      · have b1 : (q != 1) = false := by simp [h1]
        by_cases h2 : m < 0
        · have HN := hide (all_no _ ks i hlt ((unhide HS).trans (by simp; omega)))
          clear h1
          go_wp2_with fail
          go_ret
          exact ⟨ret_bool (unhide HN).symm, rfl⟩
        · by_cases h3 : 255 < m
          · have HN := hide (all_no _ ks i hlt ((unhide HS).trans (by simp; omega)))
            clear h1
            go_wp2_with fail
            go_ret
            exact ⟨ret_bool (unhide HN).symm, rfl⟩
          · have HY := hide (all_take _ ks i hlt (unhide HA) ((unhide HS).trans (by simp; omega)))
            clear h1
            go_wp2_with fail
            go_round
            case rel => exact ⟨i + 1, hlt, by go_num, unhide HY⟩
            case measure => simp [intOf]; omega
      · have b1 : (q != 1) = true := by simpa using h1
        have HN := hide (all_no _ ks i hlt ((unhide HS).trans (by simp [h1])))
        clear h1
        go_wp2_with fail
        go_ret
        exact ⟨ret_bool (unhide HN).symm, rfl⟩
    · have hkk : i = ks.length := by omega
      subst hkk
      rw [List.take_length] at hall
      have HA := hide hall
      clear hall
      go_wp2_with fail
      go_ret
      exact ⟨ret_bool (unhide HA).symm, rfl⟩

end
end Go.Proofs.YthfjgffhncogaaaGreat
/- spec's l01Pack of the kinds with kids. -/
namespace Go.Proofs.YthfjgffhncogaaaGreat
open Go.RowKit Go.Deep

set_option maxRecDepth 40000 in
set_option maxHeartbeats 1000000 in
theorem sp_fun {n : Nat} (h : SpSaid n) (ks : List (Tm n)) (m : Int) (s : ByteArray) (a : Option Addr) (cap : Nat) (v : Value) (N B : Nat) (xs : List Int) (w : World) (hs : SAt (Under B) w (TAt (Under B) w n) ks (.slice a ks.length cap)) (hr : ks.all (rightB n) = true) (hz : ∀ t ∈ ks, siz n t ≤ 2000)
    (hv : w.ownsRow B 5 1 v N (u8c xs)) (hB : B ≤ w.heap.size) (hN : N + 10 + 10 * ks.length + 10 * totS ks ≤ 2 ^ 40) (hm0 : 0 ≤ m) (hm1 : m ≤ 1000000000000000) (hlk : ks.length ≤ 2 ^ 40) :
    Calls Tryz.prog 41 #[v, .agg #[.int .i64 4, .int .i64 m, .string s, .slice a ks.length cap]] w fun e w' => PkEnd B v xs (112 :: (beL m 7 ++ beL ks.length 2) ++ packS ks) w e w' := by
  obtain ⟨b, hb⟩ : ∃ b, b = w.heap.size := ⟨_, rfl⟩
  have hp0 : Sp B b #[.int .i64 4, .int .i64 m, .string s, .slice a ks.length cap] w v v N xs (w.alloc (.cells #[.int .i64 4, .int .i64 m, .string s, .slice a ks.length cap] 26)) := by rw [hb]; exact Sp.start hv hB
  obtain ⟨w0, hw0⟩ : ∃ w0, w0 = w.alloc (.cells #[.int .i64 4, .int .i64 m, .string s, .slice a ks.length cap] 26) := ⟨_, rfl⟩
  rw [← hw0] at hp0
  obtain ⟨i0, hi0, hz0, hz1, hz2⟩ := info_parts info_byte
  have hbl := hp0.blk
  have p0 : w0.cell? ⟨b, 0, none⟩ = some (.int .i64 4) := cell_of_heap hbl 0
  have p3 : w0.cell? ⟨b, 3, none⟩ = some (.slice a ks.length cap) := cell_of_heap hbl 3
  have hsp := hide hp0
  have HW := hide hw0
  have hrow := hide (fun (W : World) (v' : Value) (N' : Nat) (xs' : List Int) (hsp : Sp B b #[.int .i64 4, .int .i64 m, .string s, .slice a ks.length cap] w v v' N' xs' W) (hn : N' ≤ N + 10) => spAll_any ks a cap v' N' B xs' W h (hs.below hsp.below fun _ h => h) hr hz hsp.own hsp.base (by omega))
  have hmx1a := hide (show N + 1 ≤ maxLen by unfold maxLen; omega)
  have hmx1b := hide (show (N + 1) * 1 ≤ 140737488355328 by omega)
  have hone1 := hide (show ∀ u ∈ ([.int .u8 112] : List Value), u.oneCell' = true by intro u hu; simp at hu; subst hu; rfl)
  have hby2 := fun W => bytes_any (m) 7 W hm0 (by omega) (by omega)
  have hty2 := txtL_nums (beL (m) 7) (beL_byte (m) 7)
  obtain ⟨S, hS2⟩ : ∃ S, S = strOfNums (beL (m) 7) := ⟨_, rfl⟩
  rw [← hS2] at hty2
  simp only [← hS2] at hby2
  have hsz2 : S.size = 7 := by rw [← txtL_length, hty2, beL_length]
  have hmx2a := hide (show N + 1 + S.size ≤ maxLen by rw [hsz2]; unfold maxLen; omega)
  have hmx2b := hide (show N + 1 + S.size ≤ 140737488355328 by rw [hsz2]; omega)
  have HBY2 := hide hby2
  have HTY2 := hide hty2
  clear hS2 hsz2 hby2 hty2
  have hq2 : S.size = 7 := by rw [← txtL_length, unhide HTY2, beL_length]
  have hby3 := fun W => bytes_any (ks.length) 2 W (by omega) (by omega) (by omega)
  have hty3 := txtL_nums (beL (ks.length) 2) (beL_byte (ks.length) 2)
  obtain ⟨S', hS3⟩ : ∃ S, S = strOfNums (beL (ks.length) 2) := ⟨_, rfl⟩
  rw [← hS3] at hty3
  simp only [← hS3] at hby3
  have hsz3 : S'.size = 2 := by rw [← txtL_length, hty3, beL_length]
  have hmx3a := hide (show N + 1 + S.size + S'.size ≤ maxLen by rw [hsz3, hq2]; unfold maxLen; omega)
  have hmx3b := hide (show N + 1 + S.size + S'.size ≤ 140737488355328 by rw [hsz3, hq2]; omega)
  have HBY3 := hide hby3
  have HTY3 := hide hty3
  clear hS3 hsz3 hby3 hty3
  have hq3 : S'.size = 2 := by rw [← txtL_length, unhide HTY3, beL_length]
  have hbn := hide (show N + 1 + S.size + S'.size ≤ N + 10 by omega)
  clear hq2 hq3
  have HSA := hide hs
  clear hp0 hv hbl hB h hs hr hz hm0 hm1
  go_enter Tryz.func41, Tryz.ntmps41
  go_upto_region 1 with fail
  rw [← hb, ← hw0]
  clear hw0 hb
  go_upto_region 16 with fail
  have hsp := hide (unhide hsp).drew
  go_region_held3 (fun W => (W.cell? ⟨b, 1, none⟩ = some (.int .i64 m) ∧ W.cell? ⟨b, 2, none⟩ = some (.string s) ∧ W.cell? ⟨b, 3, none⟩ = some (.slice a ks.length cap)) ∧ Bx B b #[.int .i64 4, .int .i64 m, .string s, .slice a ks.length cap] w W)
    (first | exact Sp.all (unhide hsp) | exact Sp.all (Sp.alloc (unhide hsp) _))
    (first
      | (refine step_append_cells _ rfl (.tmp 78) (.tmp 79) 22 rfl B 5 i0 (.int .u8 0) 1 1 Tryz.underlying22 hi0 hz0 hz1 hz2 rfl (by decide) _ (N) _ rfl (Sp.alloc (unhide hsp) _).own _ 1 1 [.int .u8 112] rfl rfl (World.news_of_block (cs := #[.int .u8 112]) (heap_new _ _)) (unhide hone1) (unhide hmx1a) (unhide hmx1b) (Sp.alloc (unhide hsp) _).base ?_; intro v1 W1 ho1 hg1 hat1; have hsp := hide ((Sp.alloc (unhide hsp) _).cells (ys := [112]) ho1 hg1 hat1); clear ho1 hg1 hat1)
      | (go_at_call 80; refine (unhide HBY2 _).mono ?_; rintro e W2 ⟨rfl, hb2⟩; have hsp := hide ((unhide hsp).call hb2); clear hb2)
      | (refine step_append_text _ rfl (.tmp 80) (.tmp 83) 22 9 rfl B 5 i0 Tryz.underlying22 Tryz.underlying9 hi0 hz0 hz1 hz2 _ (N + 1) _ rfl (unhide hsp).own _ rfl (unhide hmx2a) (unhide hmx2b) (unhide hsp).base ?_; intro v2 W3 ho2 hg2 hat2; have hsp := hide ((unhide hsp).text ho2 hg2 hat2); clear ho2 hg2 hat2))
  go_upto_region 17 with fail
  have hsp := hide (unhide hsp).drew
  go_region_held3 (fun W => (W.cell? ⟨b, 1, none⟩ = some (.int .i64 m) ∧ W.cell? ⟨b, 2, none⟩ = some (.string s) ∧ W.cell? ⟨b, 3, none⟩ = some (.slice a ks.length cap)) ∧ Bx B b #[.int .i64 4, .int .i64 m, .string s, .slice a ks.length cap] w W)
    (first | exact Sp.all (unhide hsp) | exact Sp.all (Sp.alloc (unhide hsp) _))
    (first
      | (go_at_call 80; refine (unhide HBY3 _).mono ?_; rintro e W2 ⟨rfl, hb2⟩; have hsp := hide ((unhide hsp).call hb2); clear hb2)
      | (refine step_append_text _ rfl (.tmp 85) (.tmp 87) 22 9 rfl B 5 i0 Tryz.underlying22 Tryz.underlying9 hi0 hz0 hz1 hz2 _ (N + 1 + S.size) _ rfl (unhide hsp).own _ rfl (unhide hmx3a) (unhide hmx3b) (unhide hsp).base ?_; intro v2 W3 ho2 hg2 hat2; have hsp := hide ((unhide hsp).text ho2 hg2 hat2); clear ho2 hg2 hat2)
      | (go_at_call 81; refine ((unhide hrow) _ _ _ _ (unhide hsp) (unhide hbn)).mono ?_; rintro e W4 hpe; obtain ⟨v4, rfl, hsp4⟩ := (unhide hsp).pack hpe rfl; have hsp := hide hsp4; clear hpe hsp4))
  go_wp2_with fail
  go_ret
  exact Sp.done (unhide hsp) (by rw [unhide HTY2, unhide HTY3]; simp)

set_option maxRecDepth 40000 in
set_option maxHeartbeats 1000000 in
theorem sp_tup0 {n : Nat} (h : SpSaid n) (ks : List (Tm n)) (m : Int) (s : ByteArray) (a : Option Addr) (cap : Nat) (v : Value) (N B : Nat) (xs : List Int) (w : World) (hs : SAt (Under B) w (TAt (Under B) w n) ks (.slice a ks.length cap)) (hr : ks.all (rightB n) = true) (hz : ∀ t ∈ ks, siz n t ≤ 2000)
    (hv : w.ownsRow B 5 1 v N (u8c xs)) (hB : B ≤ w.heap.size) (hN : N + 10 + 10 * ks.length + 10 * totS ks ≤ 2 ^ 40) (hlk : ks.length ≤ 255) :
    Calls Tryz.prog 41 #[v, .agg #[.int .i64 6, .int .i64 m, .string s, .slice a ks.length cap]] w fun e w' => PkEnd B v xs ([104, (ks.length : Int)] ++ packS ks) w e w' := by
  obtain ⟨b, hb⟩ : ∃ b, b = w.heap.size := ⟨_, rfl⟩
  have hp0 : Sp B b #[.int .i64 6, .int .i64 m, .string s, .slice a ks.length cap] w v v N xs (w.alloc (.cells #[.int .i64 6, .int .i64 m, .string s, .slice a ks.length cap] 26)) := by rw [hb]; exact Sp.start hv hB
  obtain ⟨w0, hw0⟩ : ∃ w0, w0 = w.alloc (.cells #[.int .i64 6, .int .i64 m, .string s, .slice a ks.length cap] 26) := ⟨_, rfl⟩
  rw [← hw0] at hp0
  obtain ⟨i0, hi0, hz0, hz1, hz2⟩ := info_parts info_byte
  have hbl := hp0.blk
  have p0 : w0.cell? ⟨b, 0, none⟩ = some (.int .i64 6) := cell_of_heap hbl 0
  have p3 : w0.cell? ⟨b, 3, none⟩ = some (.slice a ks.length cap) := cell_of_heap hbl 3
  have hsp := hide hp0
  have HW := hide hw0
  have hrow := hide (fun (W : World) (v' : Value) (N' : Nat) (xs' : List Int) (hsp : Sp B b #[.int .i64 6, .int .i64 m, .string s, .slice a ks.length cap] w v v' N' xs' W) (hn : N' ≤ N + 10) => spAll_any ks a cap v' N' B xs' W h (hs.below hsp.below fun _ h => h) hr hz hsp.own hsp.base (by omega))
  have hmx1a := hide (show N + 2 ≤ maxLen by unfold maxLen; omega)
  have hmx1b := hide (show (N + 2) * 1 ≤ 140737488355328 by omega)
  have hone1 := hide (show ∀ u ∈ ([.int .u8 104, .int .u8 (ks.length : Int)] : List Value), u.oneCell' = true by intro u hu; simp at hu; rcases hu with rfl | rfl <;> rfl)
  have hmm : (ks.length : Int) % 256 = ks.length := by omega
  have hwr : IntKind.u8.wrap (ks.length : Int) = ks.length := by rw [IntKind.wrap_u8]; omega
  have hbn := hide (show N + 2 ≤ N + 10 by omega)
  have HSA := hide hs
  clear hp0 hv hbl hB h hs hr hz
  go_enter Tryz.func41, Tryz.ntmps41
  go_upto_region 1 with fail
  rw [← hb, ← hw0]
  clear hw0 hb
  go_upto_region 20 with fail
  have hsp := hide (unhide hsp).drew
  go_region_held3 (fun W => (W.cell? ⟨b, 1, none⟩ = some (.int .i64 m) ∧ W.cell? ⟨b, 2, none⟩ = some (.string s) ∧ W.cell? ⟨b, 3, none⟩ = some (.slice a ks.length cap)) ∧ Bx B b #[.int .i64 6, .int .i64 m, .string s, .slice a ks.length cap] w W)
    (first | exact Sp.all (unhide hsp) | exact Sp.all (Sp.alloc (unhide hsp) _))
    (first
      | (refine step_append_cells _ rfl (.tmp 96) (.tmp 99) 22 rfl B 5 i0 (.int .u8 0) 1 1 Tryz.underlying22 hi0 hz0 hz1 hz2 rfl (by decide) _ (N) _ rfl (Sp.alloc (unhide hsp) _).own _ 2 2 [.int .u8 104, .int .u8 (ks.length : Int)] rfl rfl (World.news_of_block (cs := #[.int .u8 104, .int .u8 (ks.length : Int)]) (heap_new _ _)) (unhide hone1) (unhide hmx1a) (unhide hmx1b) (Sp.alloc (unhide hsp) _).base ?_; intro v1 W1 ho1 hg1 hat1; have hsp := hide ((Sp.alloc (unhide hsp) _).cells (ys := [104, (ks.length : Int)]) ho1 hg1 hat1); clear ho1 hg1 hat1)
      | (go_at_call 81; refine ((unhide hrow) _ _ _ _ (unhide hsp) (unhide hbn)).mono ?_; rintro e W4 hpe; obtain ⟨v4, rfl, hsp4⟩ := (unhide hsp).pack hpe rfl; have hsp := hide hsp4; clear hpe hsp4))
  go_wp2_with fail
  go_ret
  exact Sp.done (unhide hsp) (by simp)

set_option maxRecDepth 40000 in
set_option maxHeartbeats 1000000 in
theorem sp_tup1 {n : Nat} (h : SpSaid n) (ks : List (Tm n)) (m : Int) (s : ByteArray) (a : Option Addr) (cap : Nat) (v : Value) (N B : Nat) (xs : List Int) (w : World) (hs : SAt (Under B) w (TAt (Under B) w n) ks (.slice a ks.length cap)) (hr : ks.all (rightB n) = true) (hz : ∀ t ∈ ks, siz n t ≤ 2000)
    (hv : w.ownsRow B 5 1 v N (u8c xs)) (hB : B ≤ w.heap.size) (hN : N + 10 + 10 * ks.length + 10 * totS ks ≤ 2 ^ 40) (hlk : ¬ ks.length ≤ 255) (hl2 : ks.length ≤ 2 ^ 40) :
    Calls Tryz.prog 41 #[v, .agg #[.int .i64 6, .int .i64 m, .string s, .slice a ks.length cap]] w fun e w' => PkEnd B v xs (105 :: beL ks.length 2 ++ packS ks) w e w' := by
  obtain ⟨b, hb⟩ : ∃ b, b = w.heap.size := ⟨_, rfl⟩
  have hp0 : Sp B b #[.int .i64 6, .int .i64 m, .string s, .slice a ks.length cap] w v v N xs (w.alloc (.cells #[.int .i64 6, .int .i64 m, .string s, .slice a ks.length cap] 26)) := by rw [hb]; exact Sp.start hv hB
  obtain ⟨w0, hw0⟩ : ∃ w0, w0 = w.alloc (.cells #[.int .i64 6, .int .i64 m, .string s, .slice a ks.length cap] 26) := ⟨_, rfl⟩
  rw [← hw0] at hp0
  obtain ⟨i0, hi0, hz0, hz1, hz2⟩ := info_parts info_byte
  have hbl := hp0.blk
  have p0 : w0.cell? ⟨b, 0, none⟩ = some (.int .i64 6) := cell_of_heap hbl 0
  have p3 : w0.cell? ⟨b, 3, none⟩ = some (.slice a ks.length cap) := cell_of_heap hbl 3
  have hsp := hide hp0
  have HW := hide hw0
  have hrow := hide (fun (W : World) (v' : Value) (N' : Nat) (xs' : List Int) (hsp : Sp B b #[.int .i64 6, .int .i64 m, .string s, .slice a ks.length cap] w v v' N' xs' W) (hn : N' ≤ N + 10) => spAll_any ks a cap v' N' B xs' W h (hs.below hsp.below fun _ h => h) hr hz hsp.own hsp.base (by omega))
  have hmx1a := hide (show N + 1 ≤ maxLen by unfold maxLen; omega)
  have hmx1b := hide (show (N + 1) * 1 ≤ 140737488355328 by omega)
  have hone1 := hide (show ∀ u ∈ ([.int .u8 105] : List Value), u.oneCell' = true by intro u hu; simp at hu; subst hu; rfl)
  have hby2 := fun W => bytes_any (ks.length) 2 W (by omega) (by omega) (by omega)
  have hty2 := txtL_nums (beL (ks.length) 2) (beL_byte (ks.length) 2)
  obtain ⟨S, hS2⟩ : ∃ S, S = strOfNums (beL (ks.length) 2) := ⟨_, rfl⟩
  rw [← hS2] at hty2
  simp only [← hS2] at hby2
  have hsz2 : S.size = 2 := by rw [← txtL_length, hty2, beL_length]
  have hmx2a := hide (show N + 1 + S.size ≤ maxLen by rw [hsz2]; unfold maxLen; omega)
  have hmx2b := hide (show N + 1 + S.size ≤ 140737488355328 by rw [hsz2]; omega)
  have HBY2 := hide hby2
  have HTY2 := hide hty2
  clear hS2 hsz2 hby2 hty2
  have hq2 : S.size = 2 := by rw [← txtL_length, unhide HTY2, beL_length]
  have hbn := hide (show N + 1 + S.size ≤ N + 10 by omega)
  clear hq2
  have hlk' : ¬ (ks.length : Int) ≤ 255 := by omega
  have HSA := hide hs
  clear hp0 hv hbl hB h hs hr hz
  go_enter Tryz.func41, Tryz.ntmps41
  go_upto_region 1 with fail
  rw [← hb, ← hw0]
  clear hw0 hb
  go_upto_region 21 with fail
  have hsp := hide (unhide hsp).drew
  go_region_held3 (fun W => (W.cell? ⟨b, 1, none⟩ = some (.int .i64 m) ∧ W.cell? ⟨b, 2, none⟩ = some (.string s) ∧ W.cell? ⟨b, 3, none⟩ = some (.slice a ks.length cap)) ∧ Bx B b #[.int .i64 6, .int .i64 m, .string s, .slice a ks.length cap] w W)
    (first | exact Sp.all (unhide hsp) | exact Sp.all (Sp.alloc (unhide hsp) _))
    (first
      | (refine step_append_cells _ rfl (.tmp 104) (.tmp 105) 22 rfl B 5 i0 (.int .u8 0) 1 1 Tryz.underlying22 hi0 hz0 hz1 hz2 rfl (by decide) _ (N) _ rfl (Sp.alloc (unhide hsp) _).own _ 1 1 [.int .u8 105] rfl rfl (World.news_of_block (cs := #[.int .u8 105]) (heap_new _ _)) (unhide hone1) (unhide hmx1a) (unhide hmx1b) (Sp.alloc (unhide hsp) _).base ?_; intro v1 W1 ho1 hg1 hat1; have hsp := hide ((Sp.alloc (unhide hsp) _).cells (ys := [105]) ho1 hg1 hat1); clear ho1 hg1 hat1)
      | (go_at_call 80; refine (unhide HBY2 _).mono ?_; rintro e W2 ⟨rfl, hb2⟩; have hsp := hide ((unhide hsp).call hb2); clear hb2)
      | (refine step_append_text _ rfl (.tmp 106) (.tmp 108) 22 9 rfl B 5 i0 Tryz.underlying22 Tryz.underlying9 hi0 hz0 hz1 hz2 _ (N + 1) _ rfl (unhide hsp).own _ rfl (unhide hmx2a) (unhide hmx2b) (unhide hsp).base ?_; intro v2 W3 ho2 hg2 hat2; have hsp := hide ((unhide hsp).text ho2 hg2 hat2); clear ho2 hg2 hat2)
      | (go_at_call 81; refine ((unhide hrow) _ _ _ _ (unhide hsp) (unhide hbn)).mono ?_; rintro e W4 hpe; obtain ⟨v4, rfl, hsp4⟩ := (unhide hsp).pack hpe rfl; have hsp := hide hsp4; clear hpe hsp4))
  go_wp2_with fail
  go_ret
  exact Sp.done (unhide hsp) (by rw [unhide HTY2]; simp)

set_option maxRecDepth 40000 in
set_option maxHeartbeats 1000000 in
theorem sp_map {n : Nat} (h : SpSaid n) (ks : List (Tm n)) (m : Int) (s : ByteArray) (a : Option Addr) (cap : Nat) (v : Value) (N B : Nat) (xs : List Int) (w : World) (hs : SAt (Under B) w (TAt (Under B) w n) ks (.slice a ks.length cap)) (hr : ks.all (rightB n) = true) (hz : ∀ t ∈ ks, siz n t ≤ 2000)
    (hv : w.ownsRow B 5 1 v N (u8c xs)) (hB : B ≤ w.heap.size) (hN : N + 10 + 10 * ks.length + 10 * totS ks ≤ 2 ^ 40) (p : Nat) (hp : ks.length = 2 * p) (hl2 : ks.length ≤ 2 ^ 40) :
    Calls Tryz.prog 41 #[v, .agg #[.int .i64 7, .int .i64 m, .string s, .slice a ks.length cap]] w fun e w' => PkEnd B v xs (116 :: beL p 2 ++ packS ks) w e w' := by
  obtain ⟨b, hb⟩ : ∃ b, b = w.heap.size := ⟨_, rfl⟩
  have hp0 : Sp B b #[.int .i64 7, .int .i64 m, .string s, .slice a ks.length cap] w v v N xs (w.alloc (.cells #[.int .i64 7, .int .i64 m, .string s, .slice a ks.length cap] 26)) := by rw [hb]; exact Sp.start hv hB
  obtain ⟨w0, hw0⟩ : ∃ w0, w0 = w.alloc (.cells #[.int .i64 7, .int .i64 m, .string s, .slice a ks.length cap] 26) := ⟨_, rfl⟩
  rw [← hw0] at hp0
  obtain ⟨i0, hi0, hz0, hz1, hz2⟩ := info_parts info_byte
  have hbl := hp0.blk
  have p0 : w0.cell? ⟨b, 0, none⟩ = some (.int .i64 7) := cell_of_heap hbl 0
  have p3 : w0.cell? ⟨b, 3, none⟩ = some (.slice a ks.length cap) := cell_of_heap hbl 3
  have hsp := hide hp0
  have HW := hide hw0
  have hrow := hide (fun (W : World) (v' : Value) (N' : Nat) (xs' : List Int) (hsp : Sp B b #[.int .i64 7, .int .i64 m, .string s, .slice a ks.length cap] w v v' N' xs' W) (hn : N' ≤ N + 10) => spAll_any ks a cap v' N' B xs' W h (hs.below hsp.below fun _ h => h) hr hz hsp.own hsp.base (by omega))
  have hmx1a := hide (show N + 1 ≤ maxLen by unfold maxLen; omega)
  have hmx1b := hide (show (N + 1) * 1 ≤ 140737488355328 by omega)
  have hone1 := hide (show ∀ u ∈ ([.int .u8 116] : List Value), u.oneCell' = true by intro u hu; simp at hu; subst hu; rfl)
  have hby2 := fun W => bytes_any ((p : Int)) 2 W (by omega) (by omega) (by omega)
  have hty2 := txtL_nums (beL ((p : Int)) 2) (beL_byte ((p : Int)) 2)
  obtain ⟨S, hS2⟩ : ∃ S, S = strOfNums (beL ((p : Int)) 2) := ⟨_, rfl⟩
  rw [← hS2] at hty2
  simp only [← hS2] at hby2
  have hsz2 : S.size = 2 := by rw [← txtL_length, hty2, beL_length]
  have hmx2a := hide (show N + 1 + S.size ≤ maxLen by rw [hsz2]; unfold maxLen; omega)
  have hmx2b := hide (show N + 1 + S.size ≤ 140737488355328 by rw [hsz2]; omega)
  have HBY2 := hide hby2
  have HTY2 := hide hty2
  clear hS2 hsz2 hby2 hty2
  have hq2 : S.size = 2 := by rw [← txtL_length, unhide HTY2, beL_length]
  have hbn := hide (show N + 1 + S.size ≤ N + 10 by omega)
  clear hq2
  have hquo : (ks.length : Int).tdiv 2 = p := by rw [Int.tdiv_eq_ediv_of_nonneg (by omega)]; omega
  have hquo2 : (ks.length : Int) / 2 = p := by omega
  have hwq : IntKind.i64.wrap (p : Int) = p := by rw [IntKind.wrap_i64]; omega
  have Hp := hide hp
  clear hp
  have HSA := hide hs
  clear hp0 hv hbl hB h hs hr hz
  go_enter Tryz.func41, Tryz.ntmps41
  go_upto_region 1 with fail
  rw [← hb, ← hw0]
  clear hw0 hb
  go_upto_region 23 with fail
  have hsp := hide (unhide hsp).drew
  go_region_held3 (fun W => (W.cell? ⟨b, 1, none⟩ = some (.int .i64 m) ∧ W.cell? ⟨b, 2, none⟩ = some (.string s) ∧ W.cell? ⟨b, 3, none⟩ = some (.slice a ks.length cap)) ∧ Bx B b #[.int .i64 7, .int .i64 m, .string s, .slice a ks.length cap] w W)
    (first | exact Sp.all (unhide hsp) | exact Sp.all (Sp.alloc (unhide hsp) _))
    (first
      | (refine step_append_cells _ rfl (.tmp 115) (.tmp 116) 22 rfl B 5 i0 (.int .u8 0) 1 1 Tryz.underlying22 hi0 hz0 hz1 hz2 rfl (by decide) _ (N) _ rfl (Sp.alloc (unhide hsp) _).own _ 1 1 [.int .u8 116] rfl rfl (World.news_of_block (cs := #[.int .u8 116]) (heap_new _ _)) (unhide hone1) (unhide hmx1a) (unhide hmx1b) (Sp.alloc (unhide hsp) _).base ?_; intro v1 W1 ho1 hg1 hat1; have hsp := hide ((Sp.alloc (unhide hsp) _).cells (ys := [116]) ho1 hg1 hat1); clear ho1 hg1 hat1)
      | (go_at_call 80; refine (unhide HBY2 _).mono ?_; rintro e W2 ⟨rfl, hb2⟩; have hsp := hide ((unhide hsp).call hb2); clear hb2)
      | (refine step_append_text _ rfl (.tmp 117) (.tmp 120) 22 9 rfl B 5 i0 Tryz.underlying22 Tryz.underlying9 hi0 hz0 hz1 hz2 _ (N + 1) _ rfl (unhide hsp).own _ rfl (unhide hmx2a) (unhide hmx2b) (unhide hsp).base ?_; intro v2 W3 ho2 hg2 hat2; have hsp := hide ((unhide hsp).text ho2 hg2 hat2); clear ho2 hg2 hat2)
      | (go_at_call 81; refine ((unhide hrow) _ _ _ _ (unhide hsp) (unhide hbn)).mono ?_; rintro e W4 hpe; obtain ⟨v4, rfl, hsp4⟩ := (unhide hsp).pack hpe rfl; have hsp := hide hsp4; clear hpe hsp4))
  go_wp2_with fail
  go_ret
  exact Sp.done (unhide hsp) (by rw [unhide HTY2]; simp)

end Go.Proofs.YthfjgffhncogaaaGreat
