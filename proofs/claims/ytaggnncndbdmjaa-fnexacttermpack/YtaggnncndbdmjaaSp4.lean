/- spec's l01Pack of Lists that are not empty. -/
import Derived.Test.YtaggnncndbdmjaaSp3
namespace Go.Proofs.Ytaggnncndbdmjaa
open Go.RowKit Go.Deep

set_option maxRecDepth 40000 in
set_option maxHeartbeats 1000000 in
theorem sp_lst1 {n : Nat} (h : SpSaid n) (ks : List (Tm n)) (m : Int) (s : ByteArray) (a : Option Addr) (cap : Nat) (v : Value) (N B : Nat) (xs : List Int) (w : World) (hs : SAt (Under B) w (TAt (Under B) w n) ks (.slice a ks.length cap)) (hr : ks.all (rightB n) = true) (hz : ∀ t ∈ ks, siz n t ≤ 2000)
    (hv : w.ownsRow B 5 1 v N (u8c xs)) (hB : B ≤ w.heap.size) (hN : N + 10 + 10 * ks.length + 10 * totS ks ≤ 2 ^ 40) (h0 : ks.length ≠ 0) (hall : ks.all (smallB n) = false) (hl2 : ks.length ≤ 2 ^ 40) :
    Calls Try.prog 11 #[v, .agg #[.int .i64 8, .int .i64 m, .string s, .slice a ks.length cap]] w fun e w' => PkEnd B v xs (108 :: beL ks.length 2 ++ packS ks) w e w' := by
  obtain ⟨b, hb⟩ : ∃ b, b = w.heap.size := ⟨_, rfl⟩
  have hp0 : Sp B b #[.int .i64 8, .int .i64 m, .string s, .slice a ks.length cap] w v v N xs (w.alloc (.cells #[.int .i64 8, .int .i64 m, .string s, .slice a ks.length cap] 30)) := by rw [hb]; exact Sp.start hv hB
  obtain ⟨w0, hw0⟩ : ∃ w0, w0 = w.alloc (.cells #[.int .i64 8, .int .i64 m, .string s, .slice a ks.length cap] 30) := ⟨_, rfl⟩
  rw [← hw0] at hp0
  obtain ⟨i0, hi0, hz0, hz1, hz2⟩ := info_parts info_byte
  have hbl := hp0.blk
  have p0 : w0.cell? ⟨b, 0, none⟩ = some (.int .i64 8) := cell_of_heap hbl 0
  have p3 : w0.cell? ⟨b, 3, none⟩ = some (.slice a ks.length cap) := cell_of_heap hbl 3
  have hsp := hide hp0
  have HW := hide hw0
  have hrow := hide (fun (W : World) (v' : Value) (N' : Nat) (xs' : List Int) (hsp : Sp B b #[.int .i64 8, .int .i64 m, .string s, .slice a ks.length cap] w v v' N' xs' W) (hn : N' ≤ N + 10) => spAll_any ks a cap v' N' B xs' W h (hs.below hsp.below fun _ h => h) hr hz hsp.own hsp.base (by omega))
  have hmx1a := hide (show N + 1 ≤ maxLen by unfold maxLen; omega)
  have hmx1b := hide (show (N + 1) * 1 ≤ 140737488355328 by omega)
  have hone1 := hide (show ∀ u ∈ ([.int .u8 108] : List Value), u.oneCell' = true by intro u hu; simp at hu; subst hu; rfl)
  have hby2 := fun W => bytes_any (ks.length) 2 W (by omega) (by omega) (by omega)
  have hty2 := txtL_nums (beL (ks.length) 2) (beL_byte (ks.length) 2)
  obtain ⟨S, hS2⟩ : ∃ S, S = strOfNums (beL (ks.length) 2) := ⟨_, rfl⟩
  rw [← hS2] at hty2
  simp only [← hS2] at hby2
  have hsz2 : S.size = 2 := by rw [← txtL_length, hty2, beL_length]
  have hmx2a := hide (show N + 1 + S.size ≤ maxLen by rw [hsz2]; unfold maxLen; omega)
  have hmx2b := hide (show N + 1 + S.size ≤ 140737488355328 by rw [hsz2]; omega)
  have HBY2 := hide hby2
  have HTY2 := hide hty2
  clear hS2 hsz2 hby2 hty2
  have hq2 : S.size = 2 := by rw [← txtL_length, unhide HTY2, beL_length]
  have hbn := hide (show N + 1 + S.size ≤ N + 10 by omega)
  clear hq2
  have h0' : ¬ (ks.length : Int) = 0 := by omega
  have hsm := small_any ks a cap B w0 (hs.below hp0.below fun _ h => h)
  rw [hall] at hsm
  have HSM := hide hsm
  clear hsm
  have HSA := hide hs
  clear hp0 hv hbl hB h hs hr hz hall h0
  go_enter Try.func11, Try.ntmps11
  go_upto_region 1 with fail
  rw [← hb, ← hw0]
  clear hw0 hb
  go_upto_region 29 with (go_at_call 22; refine (unhide HSM).mono ?_; rintro e w' ⟨rfl, rfl⟩)
  have hsp := hide (unhide hsp).drew
  go_region_held3 (fun W => (W.cell? ⟨b, 1, none⟩ = some (.int .i64 m) ∧ W.cell? ⟨b, 2, none⟩ = some (.string s) ∧ W.cell? ⟨b, 3, none⟩ = some (.slice a ks.length cap)) ∧ Bx B b #[.int .i64 8, .int .i64 m, .string s, .slice a ks.length cap] w W)
    (first | exact Sp.all (unhide hsp) | exact Sp.all (Sp.alloc (unhide hsp) _))
    (first
      | (refine step_append_cells _ rfl (.tmp 147) (.tmp 148) 36 rfl B 5 i0 (.int .u8 0) 1 1 Try.underlying36 hi0 hz0 hz1 hz2 rfl (by decide) _ (N) _ rfl (Sp.alloc (unhide hsp) _).own _ 1 1 [.int .u8 108] rfl rfl (World.news_of_block (cs := #[.int .u8 108]) (heap_new _ _)) (unhide hone1) (unhide hmx1a) (unhide hmx1b) (Sp.alloc (unhide hsp) _).base ?_; intro v1 W1 ho1 hg1 hat1; have hsp := hide ((Sp.alloc (unhide hsp) _).cells (ys := [108]) ho1 hg1 hat1); clear ho1 hg1 hat1)
      | (go_at_call 20; refine (unhide HBY2 _).mono ?_; rintro e W2 ⟨rfl, hb2⟩; have hsp := hide ((unhide hsp).call hb2); clear hb2)
      | (refine step_append_text _ rfl (.tmp 149) (.tmp 151) 36 9 rfl B 5 i0 Try.underlying36 Try.underlying9 hi0 hz0 hz1 hz2 _ (N + 1) _ rfl (unhide hsp).own _ rfl (unhide hmx2a) (unhide hmx2b) (unhide hsp).base ?_; intro v2 W3 ho2 hg2 hat2; have hsp := hide ((unhide hsp).text ho2 hg2 hat2); clear ho2 hg2 hat2)
      | (go_at_call 21; refine ((unhide hrow) _ _ _ _ (unhide hsp) (unhide hbn)).mono ?_; rintro e W4 hpe; obtain ⟨v4, rfl, hsp4⟩ := (unhide hsp).pack hpe rfl; have hsp := hide hsp4; clear hpe hsp4))
  go_wp2_with fail
  go_ret
  exact Sp.done (unhide hsp) (by rw [unhide HTY2]; simp)

set_option maxRecDepth 40000 in
set_option maxHeartbeats 1000000 in
theorem sp_lst2 {n : Nat} (h : SpSaid n) (ks : List (Tm n)) (m : Int) (s : ByteArray) (a : Option Addr) (cap : Nat) (v : Value) (N B : Nat) (xs : List Int) (w : World) (hs : SAt (Under B) w (TAt (Under B) w n) ks (.slice a ks.length cap)) (hr : ks.all (rightB n) = true) (hz : ∀ t ∈ ks, siz n t ≤ 2000)
    (hv : w.ownsRow B 5 1 v N (u8c xs)) (hB : B ≤ w.heap.size) (hN : N + 10 + 10 * ks.length + 10 * totS ks ≤ 2 ^ 40) (h0 : ks.length ≠ 0) (hall : ks.all (smallB n) = true) (hl2 : ks.length ≤ 2 ^ 40) :
    Calls Try.prog 11 #[v, .agg #[.int .i64 8, .int .i64 m, .string s, .slice a ks.length cap]] w fun e w' => PkEnd B v xs (107 :: (beL ks.length 2 ++ ks.map (numT n))) w e w' := by
  obtain ⟨b, hb⟩ : ∃ b, b = w.heap.size := ⟨_, rfl⟩
  have hp0 : Sp B b #[.int .i64 8, .int .i64 m, .string s, .slice a ks.length cap] w v v N xs (w.alloc (.cells #[.int .i64 8, .int .i64 m, .string s, .slice a ks.length cap] 30)) := by rw [hb]; exact Sp.start hv hB
  obtain ⟨w0, hw0⟩ : ∃ w0, w0 = w.alloc (.cells #[.int .i64 8, .int .i64 m, .string s, .slice a ks.length cap] 30) := ⟨_, rfl⟩
  rw [← hw0] at hp0
  obtain ⟨i0, hi0, hz0, hz1, hz2⟩ := info_parts info_byte
  have hbl := hp0.blk
  have p0 : w0.cell? ⟨b, 0, none⟩ = some (.int .i64 8) := cell_of_heap hbl 0
  have p3 : w0.cell? ⟨b, 3, none⟩ = some (.slice a ks.length cap) := cell_of_heap hbl 3
  have hsp := hide hp0
  have HW := hide hw0
  have hrow := hide (fun (W : World) (v' : Value) (N' : Nat) (xs' : List Int) (hsp : Sp B b #[.int .i64 8, .int .i64 m, .string s, .slice a ks.length cap] w v v' N' xs' W) (hn : N' ≤ N + 10) => spAll_any ks a cap v' N' B xs' W h (hs.below hsp.below fun _ h => h) hr hz hsp.own hsp.base (by omega))
  have hmx1a := hide (show N + 1 ≤ maxLen by unfold maxLen; omega)
  have hmx1b := hide (show (N + 1) * 1 ≤ 140737488355328 by omega)
  have hone1 := hide (show ∀ u ∈ ([.int .u8 107] : List Value), u.oneCell' = true by intro u hu; simp at hu; subst hu; rfl)
  have hby2 := fun W => bytes_any (ks.length) 2 W (by omega) (by omega) (by omega)
  have hty2 := txtL_nums (beL (ks.length) 2) (beL_byte (ks.length) 2)
  obtain ⟨S, hS2⟩ : ∃ S, S = strOfNums (beL (ks.length) 2) := ⟨_, rfl⟩
  rw [← hS2] at hty2
  simp only [← hS2] at hby2
  have hsz2 : S.size = 2 := by rw [← txtL_length, hty2, beL_length]
  have hmx2a := hide (show N + 1 + S.size ≤ maxLen by rw [hsz2]; unfold maxLen; omega)
  have hmx2b := hide (show N + 1 + S.size ≤ 140737488355328 by rw [hsz2]; omega)
  have HBY2 := hide hby2
  have HTY2 := hide hty2
  clear hS2 hsz2 hby2 hty2
  have hq2 := hide (show S.size = 2 by rw [← txtL_length, unhide HTY2, beL_length])
  have hnb := hide (show (w0.alloc (.cells #[.int .u8 107] 5)).heap[w0.heap.size]? = some (.cells #[.int .u8 107] 5 (0, 0)) from heap_new _ _)
  have HALL := hide hall
  have h0' : ¬ (ks.length : Int) = 0 := by omega
  have hsm := small_any ks a cap B w0 (hs.below hp0.below fun _ h => h)
  rw [hall] at hsm
  have HSM := hide hsm
  clear hsm
  have HSA := hide hs
  clear hp0 hv hbl hB h hs hr hz hall h0
  go_enter Try.func11, Try.ntmps11
  go_upto_region 1 with fail
  rw [← hb, ← hw0]
  clear hw0 hb
  go_upto_region 30 with (go_at_call 22; refine (unhide HSM).mono ?_; rintro e w' ⟨rfl, rfl⟩)
  go_wp2_with (at_builtin; refine wpList_append_own_at _ rfl (.tmp 156) (.tmp 157) 36 rfl B 5 i0 (.int .u8 0) 1 1 Try.underlying36 hi0 hz0 hz1 hz2 rfl (by decide) _ N _ rfl (Sp.alloc (unhide hsp) _).own _ 1 1 [.int .u8 107] rfl rfl (World.news_of_block (cs := #[.int .u8 107]) (unhide hnb)) (unhide hone1) (unhide hmx1a) (unhide hmx1b) (Sp.alloc (unhide hsp) _).base ?_)
  intro v1 W1 ho1 hg1 _ hat1
  have hsp := hide ((Sp.alloc (unhide hsp) _).cells (ys := [107]) ho1 hg1 (by simpa using hat1))
  clear ho1 hg1 hat1 p0 p3
  go_wp2_with (first
    | (go_at_call 20; refine (unhide HBY2 _).mono ?_; rintro e W2 ⟨rfl, hb2⟩; have hsp := hide ((unhide hsp).call hb2); clear hb2)
    | (at_builtin; refine wpList_append_text _ rfl (.tmp 158) (.tmp 160) 36 9 rfl B 5 i0 Try.underlying36 Try.underlying9 hi0 hz0 hz1 hz2 _ (N + 1) _ rfl (unhide hsp).own _ rfl (unhide hmx2a) (unhide hmx2b) (unhide hsp).base ?_))
  intro v2 W3 ho2 hg2 hat2
  have hsp := hide ((unhide hsp).text ho2 hg2 hat2)
  clear ho2 hg2 hat2
  go_wp2_with fail
  go_loopw [0, 6] (fun ov iv wr => ∃ i : Nat, i ≤ ks.length ∧ iv = .int .i64 i ∧ Sp B b #[.int .i64 8, .int .i64 m, .string s, .slice a ks.length cap] w v ov (N + 1 + S.size + i) (xs ++ [107] ++ txtL S ++ (ks.take i).map (numT n)) wr) (fun _ iv _ => ks.length - (intOf iv).toNat)
  case atStart => exact ⟨0, Nat.zero_le _, rfl, by simpa using unhide hsp⟩
  case round =>
    obtain ⟨i, hi, rfl, hsp⟩ := hrel
    have hblk := hsp.blk
    have f3 : wr.cell? ⟨b, 3, none⟩ = some (.slice a ks.length cap) := cell_of_heap hblk 3
    by_cases hlt : i < ks.length
    · obtain ⟨a', cap', hv', hl1, hl3, hel⟩ := (unhide HSA).below hsp.below fun _ h => h
      cases hv'
      obtain ⟨bb, off, d0, d1, d2, d3, rfl, hS, e0, e1, e2, e3, hr⟩ := hel i hlt
      have hsm : smallB n ks[i] = true := List.all_eq_true.1 (unhide HALL) _ (List.getElem_mem hlt)
      obtain ⟨q, hd1, hq⟩ : ∃ q, d1 = .int .i64 q ∧ numT n ks[i] = q := ⟨_, hr.num, rfl⟩
      subst hd1
      have hb8 := small_num hsm
      rw [hq] at hb8
      obtain ⟨hb0, hb1⟩ := hb8
      have hmm : q % 256 = q := by omega
      have hnum := hide (numS_take ks i hlt)
      have HQ := hide hq
      have hsp' := hide hsp
      have hnb2 := hide (show (wr.alloc (.cells #[.int .u8 q] 5)).heap[wr.heap.size]? = some (.cells #[.int .u8 q] 5 (0, 0)) from heap_new _ _)
      have hy1 := hide (show N + 1 + S.size + i + 1 ≤ maxLen by have := unhide hq2; unfold maxLen; omega)
      have hy2 := hide (show (N + 1 + S.size + i + 1) * 1 ≤ 140737488355328 by have := unhide hq2; omega)
      clear e0 e2 e3 hr hsm hq hblk hsp hel
      go_upto_region 34 with fail
      go_wp2_with (at_builtin; refine wpList_append_own_at _ rfl (.tmp 167) (.tmp 175) 36 rfl B 5 i0 (.int .u8 0) 1 1 Try.underlying36 hi0 hz0 hz1 hz2 rfl (by decide) _ (N + 1 + S.size + i) _ rfl (Sp.alloc (unhide hsp') _).own _ 1 1 [.int .u8 q] rfl rfl (World.news_of_block (cs := #[.int .u8 q]) (unhide hnb2)) (fun u hu => by simp at hu; subst hu; rfl) (unhide hy1) (unhide hy2) (Sp.alloc (unhide hsp') _).base ?_)
      intro v1 W1 ho1 hg1 _ hat1
      have hsp2 := hide ((Sp.alloc (unhide hsp') _).cells (m := 1) (ys := [q]) (by simpa [u8c] using ho1) hg1 (by simpa using hat1))
      clear ho1 hg1 hat1 f3 e1
      go_wp2_with fail
      go_roundw
      case rel =>
        refine ⟨i + 1, hlt, by go_num, ?_⟩
        have h2 := unhide hsp2
        rw [unhide hnum, ← List.append_assoc, unhide HQ]
        exact h2
      case measure => simp [intOf]; omega
    · have hkk : i = ks.length := by omega
      subst hkk
      rw [List.take_length] at hsp
      have hsp := hide hsp
      clear hblk f3
      go_wp2_with fail
      go_ret
      exact Sp.done (unhide hsp) (by rw [unhide HTY2]; simp)

end Go.Proofs.Ytaggnncndbdmjaa
