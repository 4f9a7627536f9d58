/- impl's pack of the kinds without kids. -/
import Derived.Test.YthfjgffhncogaaaGreatQ19
namespace Go.Proofs.YthfjgffhncogaaaGreat
open Go.RowKit Go.Deep

theorem WEnd.go {K : Nat → Prop} {b most : Nat} {xs ys zs us : List Int} {w w1 : World} {e : Ending} {w' : World} (h : WEnd K b most (xs ++ ys) zs w1 e w') (hs : Stay K w w1) (hu : us = ys ++ zs) : WEnd K b most xs us w e w' := by
  subst hu
  obtain ⟨h1, h2⟩ := h
  refine ⟨hs.trans h1, ?_⟩
  rw [List.length_append] at h2 ⊢
  rcases h2 with ⟨a, b, c⟩ | ⟨a, b⟩
  · exact .inl ⟨by omega, b, by rw [← List.append_assoc]; exact c⟩
  · exact .inr ⟨by omega, b⟩
theorem WEnd.stop {K : Nat → Prop} {b most : Nat} {xs ys zs us : List Int} {w w' : World} (hs : Stay K w w') (hl : most < xs.length + ys.length) (hu : us = ys ++ zs) : WEnd K b most xs us w fullE w' := by
  subst hu
  refine ⟨hs, .inr ⟨by rw [List.length_append]; omega, rfl⟩⟩
theorem WEnd.done {K : Nat → Prop} {b most : Nat} {xs ys : List Int} {w w' : World} (hs : Stay K w w') (hw : Wri K b most (xs ++ ys) w') : WEnd K b most xs ys w (.returned (.tuple #[])) w' :=
  ⟨hs, .inl ⟨by have := hw.few; rwa [List.length_append] at this, rfl, hw⟩⟩

set_option maxRecDepth 40000 in
set_option maxHeartbeats 400000 in
theorem isByte_any (m : Int) (w : World) : Calls Tryz.prog 127 #[.int .i64 m] w fun e w' => e = .returned (.bool (decide (0 ≤ m) && decide (m ≤ 255))) ∧ w' = w := by
  by_cases h1 : 0 ≤ m
  all_goals
    go_enter Tryz.func127, Tryz.ntmps127
    go_wp2_with fail
    go_ret
    refine ⟨ret_bool ?_, rfl⟩
    simp [h1]
    try omega

section
variable (K : Nat → Prop) (b most : Nat) (xs : List Int) (w : World)

set_option maxRecDepth 40000 in
set_option maxHeartbeats 1000000 in
theorem pack_ref (m : Int) (hW : Wri K b most xs w) (hmost : most ≤ 2 ^ 40) :
    Calls Tryz.prog 183 #[.int .i64 m, .pointer (some ⟨b, 0, none⟩)] w fun e w' => WEnd K b most xs (114 :: beL m 7) w e w' := by
  have h1 := hide (lit_any K b most xs [114] 1 5 w hW rfl (by simp [B8]) hmost (by omega))
  clear hW
  go_enter Tryz.func183, Tryz.ntmps183
  go_wp2_with fail
  refine (unhide h1).mono ?_
  rintro e w1 ⟨s1, ⟨l1, rfl, hw1⟩ | ⟨l1, rfl⟩⟩
  rotate_left
  · exact ⟨rfl, WEnd.stop s1 l1 rfl⟩
  have h2 := hide (number_any K b most _ m 7 w1 hw1 hmost (by omega))
  have S1 := hide s1
  clear hw1 s1 l1
  go_wp2_with fail
  refine (unhide h2).mono ?_
  rintro e w2 hend
  have hend' := hend.go (unhide S1) (us := 114 :: beL m 7) rfl
  obtain ⟨s2, ⟨l2, rfl, hw2⟩ | ⟨l2, rfl⟩⟩ := hend
  rotate_left
  · exact ⟨rfl, hend'⟩
  have HE := hide hend'
  clear hend' s2 hw2 l2
  go_wp2_with fail
  exact bodyPost_ret (v := .tuple #[]) (by simp [results, Tryz.results183, go_sem]) rfl (unhide HE)

set_option maxRecDepth 40000 in
set_option maxHeartbeats 1000000 in
theorem pack_pid (m : Int) (hW : Wri K b most xs w) (hmost : most ≤ 2 ^ 40) :
    Calls Tryz.prog 189 #[.int .i64 m, .pointer (some ⟨b, 0, none⟩)] w fun e w' => WEnd K b most xs (103 :: beL m 7) w e w' := by
  have h1 := hide (lit_any K b most xs [103] 1 5 w hW rfl (by simp [B8]) hmost (by omega))
  clear hW
  go_enter Tryz.func189, Tryz.ntmps189
  go_wp2_with fail
  refine (unhide h1).mono ?_
  rintro e w1 ⟨s1, ⟨l1, rfl, hw1⟩ | ⟨l1, rfl⟩⟩
  rotate_left
  · exact ⟨rfl, WEnd.stop s1 l1 rfl⟩
  have h2 := hide (number_any K b most _ m 7 w1 hw1 hmost (by omega))
  have S1 := hide s1
  clear hw1 s1 l1
  go_wp2_with fail
  refine (unhide h2).mono ?_
  rintro e w2 hend
  have hend' := hend.go (unhide S1) (us := 103 :: beL m 7) rfl
  obtain ⟨s2, ⟨l2, rfl, hw2⟩ | ⟨l2, rfl⟩⟩ := hend
  rotate_left
  · exact ⟨rfl, hend'⟩
  have HE := hide hend'
  clear hend' s2 hw2 l2
  go_wp2_with fail
  exact bodyPost_ret (v := .tuple #[]) (by simp [results, Tryz.results189, go_sem]) rfl (unhide HE)

set_option maxRecDepth 40000 in
set_option maxHeartbeats 1000000 in
theorem pack_atom (s : ByteArray) (hW : Wri K b most xs w) (hmost : most ≤ 2 ^ 40) (hs : s.size ≤ 2 ^ 47) :
    Calls Tryz.prog 156 #[.string s, .pointer (some ⟨b, 0, none⟩)] w fun e w' => WEnd K b most xs (119 :: (s.size : Int) % 256 :: txtL s) w e w' := by
  have h1 := hide (lit_any K b most xs [119, (s.size : Int) % 256] 2 5 w hW rfl (by simp [B8]; omega) hmost (by omega))
  clear hW
  go_enter Tryz.func156, Tryz.ntmps156
  go_wp2_with fail
  refine (unhide h1).mono ?_
  rintro e w1 ⟨s1, ⟨l1, rfl, hw1⟩ | ⟨l1, rfl⟩⟩
  rotate_left
  · exact ⟨rfl, WEnd.stop s1 l1 rfl⟩
  have h2 := hide (write_one K b most _ s 9 w1 hw1 hmost hs)
  have S1 := hide s1
  clear hw1 s1 l1
  go_wp2_with fail
  refine (unhide h2).mono ?_
  rintro e w2 hend
  have hend' := hend.go (unhide S1) (us := 119 :: (s.size : Int) % 256 :: txtL s) rfl
  obtain ⟨s2, ⟨l2, rfl, hw2⟩ | ⟨l2, rfl⟩⟩ := hend
  rotate_left
  · exact ⟨rfl, hend'⟩
  have HE := hide hend'
  clear hend' s2 hw2 l2
  go_wp2_with fail
  exact bodyPost_ret (v := .tuple #[]) (by simp [results, Tryz.results156, go_sem]) rfl (unhide HE)

set_option maxRecDepth 40000 in
set_option maxHeartbeats 1000000 in
theorem pack_bin (s : ByteArray) (hW : Wri K b most xs w) (hmost : most ≤ 2 ^ 40) (hs : s.size ≤ 2 ^ 47) :
    Calls Tryz.prog 220 #[.string s, .pointer (some ⟨b, 0, none⟩)] w fun e w' => WEnd K b most xs (109 :: (beL s.size 2 ++ txtL s)) w e w' := by
  have h1 := hide (lit_any K b most xs [109] 1 5 w hW rfl (by simp [B8]) hmost (by omega))
  clear hW
  go_enter Tryz.func220, Tryz.ntmps220
  go_wp2_with fail
  refine (unhide h1).mono ?_
  rintro e w1 ⟨s1, ⟨l1, rfl, hw1⟩ | ⟨l1, rfl⟩⟩
  rotate_left
  · exact ⟨rfl, WEnd.stop s1 l1 rfl⟩
  have h2 := hide (number_any K b most _ s.size 2 w1 hw1 hmost (by omega))
  have S1 := hide s1
  clear hw1 s1 l1
  go_wp2_with fail
  refine (unhide h2).mono ?_
  rintro e w2 hend
  have hend' := hend.go (unhide S1) (us := 109 :: beL s.size 2) rfl
  obtain ⟨s2, ⟨l2, rfl, hw2⟩ | ⟨l2, rfl⟩⟩ := hend'
  rotate_left
  · exact ⟨rfl, WEnd.stop s2 l2 (zs := txtL s) (by simp)⟩
  clear hend
  have h3 := hide (write_one K b most _ s 9 w2 hw2 hmost hs)
  have S2 := hide s2
  clear hw2 s2 l2
  go_wp2_with fail
  refine (unhide h3).mono ?_
  rintro e w3 hend
  have hend' := hend.go (unhide S2) (us := 109 :: (beL s.size 2 ++ txtL s)) (by simp)
  obtain ⟨s3, ⟨l3, rfl, hw3⟩ | ⟨l3, rfl⟩⟩ := hend
  rotate_left
  · exact ⟨rfl, hend'⟩
  have HE := hide hend'
  clear hend' s3 hw3 l3
  go_wp2_with fail
  exact bodyPost_ret (v := .tuple #[]) (by simp [results, Tryz.results220, go_sem]) rfl (unhide HE)

/-- The bytes of an Int. -/
def intL (m : Int) : List Int := if 0 ≤ m ∧ m ≤ 255 then [97, m] else if m < 0 then 98 :: 1 :: beL (-m) 7 else 98 :: 0 :: beL m 7

set_option maxRecDepth 40000 in
set_option maxHeartbeats 1000000 in
theorem pack_int (m : Int) (hW : Wri K b most xs w) (hmost : most ≤ 2 ^ 40) (hm0 : -1000000000000000 ≤ m) (hm1 : m ≤ 1000000000000000) :
    Calls Tryz.prog 162 #[.int .i64 m, .pointer (some ⟨b, 0, none⟩)] w fun e w' => WEnd K b most xs (intL m) w e w' := by
  have hib := isByte_any m
  by_cases hb : 0 ≤ m ∧ m ≤ 255
  · have hdec : (decide (0 ≤ m) && decide (m ≤ 255)) = true := by simpa using hb
    rw [hdec] at hib
    have hmm : m % 256 = m := by omega
    have h1 := hide (lit_any K b most xs [97, m] 2 5 w hW rfl (by simp [B8]; omega) hmost (by omega))
    have hL := hide (show intL m = [97, m] from if_pos hb)
    have HI := hide hib
    clear hW hib hb hdec
    go_enter Tryz.func162, Tryz.ntmps162
    go_wp2_with (go_at_call 127; refine ((unhide HI) _).mono ?_; rintro e w' ⟨rfl, rfl⟩)
    refine (unhide h1).mono ?_
    rintro e w1 ⟨s1, ⟨l1, rfl, hw1⟩ | ⟨l1, rfl⟩⟩
    rotate_left
    · refine ⟨rfl, ?_⟩
      rw [unhide hL]
      exact ⟨s1, .inr ⟨l1, rfl⟩⟩
    have HW := hide hw1
    have HS := hide s1
    clear hw1 s1
    go_wp2_with fail
    refine bodyPost_ret (v := .tuple #[]) (by simp [results, Tryz.results162, go_sem]) rfl ?_
    rw [unhide hL]
    exact WEnd.done (unhide HS) (unhide HW)
  · have hdec : (decide (0 ≤ m) && decide (m ≤ 255)) = false := by
      rw [Bool.eq_false_iff]; intro h; simp at h; exact hb h
    rw [hdec] at hib
    have HI := hide hib
    by_cases hneg : m < 0
    · have h1 := hide (lit_any K b most xs [98, 1] 2 5 w hW rfl (by simp [B8]) hmost (by omega))
      have hL := hide (show intL m = 98 :: 1 :: beL (-m) 7 by unfold intL; rw [if_neg hb, if_pos hneg])
      clear hW hib hb hdec
      go_enter Tryz.func162, Tryz.ntmps162
      go_wp2_with (go_at_call 127; refine ((unhide HI) _).mono ?_; rintro e w' ⟨rfl, rfl⟩)
      refine (unhide h1).mono ?_
      rintro e w1 ⟨s1, ⟨l1, rfl, hw1⟩ | ⟨l1, rfl⟩⟩
      rotate_left
      · refine ⟨rfl, ?_⟩
        rw [unhide hL]
        exact WEnd.stop s1 l1 rfl
      have h2 := hide (number_any K b most _ (-m) 7 w1 hw1 hmost (by omega))
      have S1 := hide s1
      clear hw1 s1 l1
      go_wp2_with fail
      refine (unhide h2).mono ?_
      rintro e w2 hend
      have hend' := hend.go (unhide S1) (us := 98 :: 1 :: beL (-m) 7) rfl
      rw [← unhide hL] at hend'
      obtain ⟨s2, ⟨l2, rfl, hw2⟩ | ⟨l2, rfl⟩⟩ := hend
      rotate_left
      · exact ⟨rfl, hend'⟩
      have HE := hide hend'
      clear hend' s2 hw2 l2
      go_wp2_with fail
      exact bodyPost_ret (v := .tuple #[]) (by simp [results, Tryz.results162, go_sem]) rfl (unhide HE)
    · have h1 := hide (lit_any K b most xs [98, 0] 2 5 w hW rfl (by simp [B8]) hmost (by omega))
      have hL := hide (show intL m = 98 :: 0 :: beL m 7 by unfold intL; rw [if_neg hb, if_neg hneg])
      clear hW hib hb hdec
      go_enter Tryz.func162, Tryz.ntmps162
      go_wp2_with (go_at_call 127; refine ((unhide HI) _).mono ?_; rintro e w' ⟨rfl, rfl⟩)
      refine (unhide h1).mono ?_
      rintro e w1 ⟨s1, ⟨l1, rfl, hw1⟩ | ⟨l1, rfl⟩⟩
      rotate_left
      · refine ⟨rfl, ?_⟩
        rw [unhide hL]
        exact WEnd.stop s1 l1 rfl
      have h2 := hide (number_any K b most _ m 7 w1 hw1 hmost (by omega))
      have S1 := hide s1
      clear hw1 s1 l1
      go_wp2_with fail
      refine (unhide h2).mono ?_
      rintro e w2 hend
      have hend' := hend.go (unhide S1) (us := 98 :: 0 :: beL m 7) rfl
      rw [← unhide hL] at hend'
      obtain ⟨s2, ⟨l2, rfl, hw2⟩ | ⟨l2, rfl⟩⟩ := hend
      rotate_left
      · exact ⟨rfl, hend'⟩
      have HE := hide hend'
      clear hend' s2 hw2 l2
      go_wp2_with fail
      exact bodyPost_ret (v := .tuple #[]) (by simp [results, Tryz.results162, go_sem]) rfl (unhide HE)

end
end Go.Proofs.YthfjgffhncogaaaGreat
/- impl's packRow; pack of tuples and funs. -/
namespace Go.Proofs.YthfjgffhncogaaaGreat
open Go.RowKit Go.Deep

/-- What a value's own pack does, reached through the interface. -/
def PvEnd (v : Value) (K : Nat → Prop) (b most : Nat) (xs ys : List Int) (w : World) : Prop :=
  ∃ u x g, v = .iface u x ∧ (∀ w : World, (method 312 u x "loop.example/g00019/impl.pack").run Tryz.prog w = .ok (g, x) w) ∧ (∀ (y : Value) (w : World), (callFunc g #[x, y]).run Tryz.prog w = .ok (.enter g #[x, y]) w) ∧
    Calls Tryz.prog g #[x, .pointer (some ⟨b, 0, none⟩)] w fun e w' => WEnd K b most xs ys w e w'
def PackV (n : Nat) : Prop := ∀ (t : Tm n) (v : Value) (K : Nat → Prop) (b most : Nat) (xs : List Int) (w : World), VAt K w n t v → rightB n t = true → siz n t ≤ 2000 → Wri K b most xs w → most ≤ 2 ^ 40 → PvEnd v K b most xs (packT n t) w

theorem packS_le {n : Nat} (ks : List (Tm n)) (i : Nat) : (packS (ks.take i)).length ≤ (packS ks).length := by
  have : packS ks = packS (ks.take i) ++ packS (ks.drop i) := by unfold packS; rw [← List.flatMap_append, List.take_append_drop]
  rw [this, List.length_append]; omega

section
variable (K : Nat → Prop) (b most : Nat) (xs : List Int) (w : World)

set_option maxRecDepth 40000 in
set_option maxHeartbeats 1000000 in
theorem packRow_any {n : Nat} (h : PackV n) (ks : List (Tm n)) (a : Option Addr) (cap : Nat) (hK : KAt K w (VAt K w n) ks a) (hr : ks.all (rightB n) = true) (hz : ∀ t ∈ ks, siz n t ≤ 2000) (hl : ks.length ≤ 2 ^ 48) (hW : Wri K b most xs w) (hmost : most ≤ 2 ^ 40) :
    Calls Tryz.prog 198 #[.pointer (some ⟨b, 0, none⟩), .slice a ks.length cap] w fun e w' => WEnd K b most xs (packS ks) w e w' := by
  go_enter Tryz.func198, Tryz.ntmps198
  have HW := hide hW
  have HK := hide hK
  have HR := hide hr
  have HZ := hide hz
  clear hW hK hr hz
  go_wp2_with fail
  go_loopw [8] (fun iv wr => ∃ i : Nat, i ≤ ks.length ∧ iv = .int .i64 i ∧ Stay K w wr ∧ Wri K b most (xs ++ packS (ks.take i)) wr) (fun iv _ => ks.length - (intOf iv).toNat)
  case atStart => exact ⟨0, Nat.zero_le _, rfl, Stay.refl _ _, by simpa [packS] using unhide HW⟩
  case round =>
    obtain ⟨i, hi, rfl, hst, hwr⟩ := hrel
    by_cases hlt : i < ks.length
    · obtain ⟨bb, off, v, rfl, hS, hcell, hv⟩ := unhide HK i hlt
      have hc : wr.cell? ⟨bb, off + i, none⟩ = some v := (hst.cell hS _).trans hcell
      have hf := hide (packS_take ks i hlt)
      have hle := hide (packS_le ks (i + 1))
      have hrt : rightB n ks[i] = true := List.all_eq_true.1 (unhide HR) _ (List.getElem_mem hlt)
      obtain ⟨u, x, g, rfl, hm, hcf, hcall⟩ := h ks[i] v K b most _ wr (hv.keep fun k hk => hst.block k hk) hrt (unhide HZ _ (List.getElem_mem hlt)) hwr hmost
      have hfew := hide hwr.few
      have HC := hide hcall
      have HST := hide hst
      clear hcell hv hrt hcall hst hwr
      go_wp2_with fail
      refine (unhide HC).mono ?_
      rintro e w' ⟨hst, ⟨h1, rfl, h2⟩ | ⟨h1, rfl⟩⟩
      · rw [List.append_assoc, ← unhide hf] at h2
        have HW2 := hide h2
        have HST2 := hide ((unhide HST).trans hst)
        clear h1 h2 hst
        go_wp2_with fail
        go_roundw
        case rel => exact ⟨i + 1, hlt, by go_num, unhide HST2, unhide HW2⟩
        case measure => simp [intOf]; omega
      · refine ⟨rfl, (unhide HST).trans hst, .inr ⟨?_, rfl⟩⟩
        have h2 := unhide hle
        rw [unhide hf, List.length_append] at h2
        rw [List.length_append] at h1
        omega
    · have hkk : i = ks.length := by omega
      subst hkk
      rw [List.take_length] at hwr
      have HWR := hide hwr
      have HST := hide hst
      clear hwr hst
      go_wp2_with fail
      exact bodyPost_ret (v := .tuple #[]) (by simp [results, Tryz.results198, go_sem]) rfl (WEnd.done (unhide HST) (unhide HWR))

/-- The bytes ahead of a Tuple's kids. -/
def tupL (len : Nat) : List Int := if len ≤ 255 then [104, (len : Int)] else 105 :: beL len 2

set_option maxRecDepth 40000 in
set_option maxHeartbeats 1000000 in
theorem pack_tup {n : Nat} (h : PackV n) (ks : List (Tm n)) (a : Option Addr) (cap : Nat) (hK : KAt K w (VAt K w n) ks a) (hr : ks.all (rightB n) = true) (hz : ∀ t ∈ ks, siz n t ≤ 2000) (hl : ks.length ≤ 2 ^ 48) (hW : Wri K b most xs w) (hmost : most ≤ 2 ^ 40) :
    Calls Tryz.prog 203 #[.slice a ks.length cap, .pointer (some ⟨b, 0, none⟩)] w fun e w' => WEnd K b most xs (tupL ks.length ++ packS ks) w e w' := by
  have hrow := hide (fun (ys : List Int) (w' : World) (hst : Stay K w w') (hW : Wri K b most ys w') => packRow_any K b most ys w' h ks a cap (hK.keep (fun k hk => hst.block k hk) fun t _ v hv => hv.keep fun k hk => hst.block k hk) hr hz hl hW hmost)
  clear hK hr hz h
  by_cases hb : ks.length ≤ 255
  · have hmm : (ks.length : Int) % 256 = ks.length := by omega
    have h1 := hide (lit_any K b most xs [104, (ks.length : Int)] 2 5 w hW rfl (by simp [B8]; omega) hmost (by omega))
    have hL := hide (show tupL ks.length = [104, (ks.length : Int)] from if_pos hb)
    clear hW
    go_enter Tryz.func203, Tryz.ntmps203
    go_wp2_with fail
    refine (unhide h1).mono ?_
    rintro e w1 ⟨s1, ⟨l1, rfl, hw1⟩ | ⟨l1, rfl⟩⟩
    rotate_left
    · refine ⟨rfl, ?_⟩
      rw [unhide hL]
      exact WEnd.stop s1 l1 rfl
    have h2 := hide ((unhide hrow) _ w1 s1 hw1)
    have S1 := hide s1
    clear hw1 s1 l1
    go_wp2_with fail
    refine (unhide h2).mono ?_
    rintro e w2 hend
    have hend' := hend.go (unhide S1) rfl
    rw [← unhide hL] at hend'
    obtain ⟨s2, ⟨l2, rfl, hw2⟩ | ⟨l2, rfl⟩⟩ := hend
    rotate_left
    · exact ⟨rfl, hend'⟩
    have HE := hide hend'
    clear hend' s2 hw2 l2
    go_wp2_with fail
    exact bodyPost_ret (v := .tuple #[]) (by simp [results, Tryz.results203, go_sem]) rfl (unhide HE)
  · have h1 := hide (lit_any K b most xs [105] 1 5 w hW rfl (by simp [B8]) hmost (by omega))
    have hL := hide (show tupL ks.length = 105 :: beL ks.length 2 from if_neg hb)
    clear hW
    go_enter Tryz.func203, Tryz.ntmps203
    go_wp2_with fail
    refine (unhide h1).mono ?_
    rintro e w1 ⟨s1, ⟨l1, rfl, hw1⟩ | ⟨l1, rfl⟩⟩
    rotate_left
    · refine ⟨rfl, ?_⟩
      rw [unhide hL]
      exact WEnd.stop s1 l1 rfl
    have h2 := hide (number_any K b most _ ks.length 2 w1 hw1 hmost (by omega))
    have S1 := hide s1
    clear hw1 s1 l1
    go_wp2_with fail
    refine (unhide h2).mono ?_
    rintro e w2 hend
    have hend' := hend.go (unhide S1) (us := tupL ks.length) (unhide hL)
    obtain ⟨s2, ⟨l2, rfl, hw2⟩ | ⟨l2, rfl⟩⟩ := hend'
    rotate_left
    · exact ⟨rfl, WEnd.stop s2 l2 rfl⟩
    clear hend
    have h3 := hide ((unhide hrow) _ w2 s2 hw2)
    have S2 := hide s2
    clear hw2 s2 l2
    go_wp2_with fail
    refine (unhide h3).mono ?_
    rintro e w3 hend
    have hend' := hend.go (unhide S2) rfl
    obtain ⟨s3, ⟨l3, rfl, hw3⟩ | ⟨l3, rfl⟩⟩ := hend
    rotate_left
    · exact ⟨rfl, hend'⟩
    have HE := hide hend'
    clear hend' s3 hw3 l3
    go_wp2_with fail
    exact bodyPost_ret (v := .tuple #[]) (by simp [results, Tryz.results203, go_sem]) rfl (unhide HE)

set_option maxRecDepth 40000 in
set_option maxHeartbeats 1000000 in
theorem pack_fun {n : Nat} (h : PackV n) (m : Int) (ks : List (Tm n)) (a : Option Addr) (cap : Nat) (hK : KAt K w (VAt K w n) ks a) (hr : ks.all (rightB n) = true) (hz : ∀ t ∈ ks, siz n t ≤ 2000) (hl : ks.length ≤ 2 ^ 48) (hW : Wri K b most xs w) (hmost : most ≤ 2 ^ 40) :
    Calls Tryz.prog 195 #[.agg #[.int .i64 m, .slice a ks.length cap], .pointer (some ⟨b, 0, none⟩)] w fun e w' => WEnd K b most xs (112 :: (beL m 7 ++ beL ks.length 2) ++ packS ks) w e w' := by
  obtain ⟨w0, hw0⟩ : ∃ w0, w0 = w.alloc (.cells #[.int .i64 m, .slice a ks.length cap] 108) := ⟨_, rfl⟩
  have hb0 : Below w.heap.size w w0 := by rw [hw0]; exact (Below.refl _ _).alloc (Nat.le_refl _) _
  have hst0 : Stay K w w0 := Stay.below hb0 hW.lt
  have g0 : w0.heap[w.heap.size]? = some (.cells #[.int .i64 m, .slice a ks.length cap] 108 (0, 0)) := by rw [hw0]; exact heap_new _ _
  have hW0 : Wri (fun k => K k ∨ k = w.heap.size) b most xs w0 := hW.more hb0 fun k hk => hk.imp id fun e => by subst e; rw [hw0]; simp
  have hrow := hide (fun (ys : List Int) (w' : World) (hst : Stay (fun k => K k ∨ k = w.heap.size) w0 w') (hW : Wri (fun k => K k ∨ k = w.heap.size) b most ys w') =>
    packRow_any (fun k => K k ∨ k = w.heap.size) b most ys w' h ks a cap
      ((hK.keep (R' := VAt K w' n) (fun k hk => ((hst0.trans (hst.mono fun _ h => .inl h)).block k hk)) fun t _ v hv => hv.keep fun k hk => ((hst0.trans (hst.mono fun _ h => .inl h)).block k hk)).mono (fun _ h => .inl h) fun t _ v hv => hv.mono fun _ h => .inl h) hr hz hl hW hmost)
  have hcell := hide (fun (w' : World) (hst : Stay (fun k => K k ∨ k = w.heap.size) w0 w') => (show w'.cell? ⟨w.heap.size, 0, none⟩ = some (.int .i64 m) ∧ w'.cell? ⟨w.heap.size, 1, none⟩ = some (.slice a ks.length cap) from
    have e := (hst.block w.heap.size (.inr rfl)).trans g0
    ⟨cell_of_heap e 0, cell_of_heap e 1⟩))
  have h1 := hide (lit_any (fun k => K k ∨ k = w.heap.size) b most xs [112] 1 5 w0 hW0 rfl (by simp [B8]) hmost (by omega))
  have hup := hide (fun (us : List Int) (e : Ending) (w' : World) (hE : WEnd (fun k => K k ∨ k = w.heap.size) b most xs us w0 e w') => hE.step (fun _ h => .inl h) hst0)
  have HW0 := hide hw0
  have hs0 : w0.heap.size = w.heap.size + 1 := by rw [hw0]; simp
  clear hK hr hz h hW hW0 hst0 hb0 g0
  go_enter Tryz.func195, Tryz.ntmps195
  go_upto_region 1 with fail
  rw [← hw0]
  clear hw0
  clear hs0
  go_wp2_with fail
  refine (unhide h1).mono ?_
  rintro e w1 ⟨s1, ⟨l1, rfl, hw1⟩ | ⟨l1, rfl⟩⟩
  rotate_left
  · exact ⟨rfl, unhide hup _ _ _ (WEnd.stop s1 l1 rfl)⟩
  obtain ⟨p0, p1⟩ := unhide hcell w1 s1
  have h2 := hide (number_any _ b most _ m 7 w1 hw1 hmost (by omega))
  have S1 := hide s1
  clear hw1 s1 l1
  go_wp2_with fail
  refine (unhide h2).mono ?_
  rintro e w2 hend
  have hend' := hend.go (unhide S1) (us := 112 :: beL m 7) rfl
  obtain ⟨s2, ⟨l2, rfl, hw2⟩ | ⟨l2, rfl⟩⟩ := hend'
  rotate_left
  · exact ⟨rfl, unhide hup _ _ _ (WEnd.stop s2 l2 (zs := beL ks.length 2 ++ packS ks) (by simp))⟩
  clear hend p0 p1
  obtain ⟨p0, p1⟩ := unhide hcell w2 s2
  have h3 := hide (number_any _ b most _ ks.length 2 w2 hw2 hmost (by omega))
  have S2 := hide s2
  clear hw2 s2 l2
  go_wp2_with fail
  refine (unhide h3).mono ?_
  rintro e w3 hend
  have hend' := hend.go (unhide S2) (us := 112 :: (beL m 7 ++ beL ks.length 2)) (by simp)
  obtain ⟨s3, ⟨l3, rfl, hw3⟩ | ⟨l3, rfl⟩⟩ := hend'
  rotate_left
  · exact ⟨rfl, unhide hup _ _ _ (WEnd.stop s3 l3 rfl)⟩
  clear hend p0 p1
  obtain ⟨p0, p1⟩ := unhide hcell w3 s3
  have h4 := hide ((unhide hrow) _ w3 s3 hw3)
  have S3 := hide s3
  clear hw3 s3 l3
  go_wp2_with fail
  refine (unhide h4).mono ?_
  rintro e w4 hend
  have hend' := unhide hup _ _ _ (hend.go (unhide S3) rfl)
  obtain ⟨s4, ⟨l4, rfl, hw4⟩ | ⟨l4, rfl⟩⟩ := hend
  rotate_left
  · exact ⟨rfl, hend'⟩
  have HE := hide hend'
  clear hend' s4 hw4 l4
  go_wp2_with fail
  exact bodyPost_ret (v := .tuple #[]) (by simp [results, Tryz.results195, go_sem]) rfl (unhide HE)

end
end Go.Proofs.YthfjgffhncogaaaGreat
