/- impl's unpacker: value, a theorem a tag. -/
import Derived.Test.YthfjgffhncogaaaGreatUn3
import Derived.Test.YthfjgffhncogaaaGreatQ23
namespace Go.Proofs.YthfjgffhncogaaaGreat
open Go.RowKit Go.Deep

theorem takeV_tag {m c : Nat} {l r : List Int} {q : Nat} (hc : c + 1 ≤ 2000) (h : takeN 1 l = some (q, r)) : takeV (m + 1) l c = takeT (takeV m) q r (c + 1) := by
  show (if 2000 < c + 1 then none else match takeN 1 l with | none => none | some (tag, r) => takeT (takeV m) tag r (c + 1)) = _
  rw [if_neg (by omega), h]

theorem But.below' {g : Nat} {w w1 w2 : World} (h : But g w w1) (hb : Below w1.heap.size w1 w2) : But g w w2 := h.trans (But.below hb)
theorem fresh_sub {w w1 w2 : World} (h : w.heap.size ≤ w1.heap.size) : ∀ b, Fresh w1 w2 b → Fresh w w2 b := fun _ hb => ⟨Nat.le_trans h hb.1, hb.2⟩

set_option maxRecDepth 40000 in
set_option maxHeartbeats 1000000 in
theorem usigned_any (g c : Nat) (data : ByteArray) (pos : Nat) (w : World) (hu : Unp g c data pos w) (hp : pos ≤ data.size) (hd : data.size ≤ 2 ^ 47) :
    Calls Tryz.prog 112 #[.pointer (some ⟨g, 0, none⟩)] w fun e w' => But g w w' ∧
      ((∃ q y : Nat, takeN 1 (suf data pos) = some (q, suf data (pos + 1)) ∧ takeN 7 (suf data (pos + 1)) = some (y, suf data (pos + 1 + 7)) ∧ pos + 1 + 7 ≤ data.size ∧ y < 256 ^ 7 ∧ e = .returned (.iface 101 (.int .i64 (if q = 1 then -(y : Int) else y))) ∧ Unp g c data (pos + 1 + 7) w') ∨
       ((takeN 1 (suf data pos) = none ∨ ∃ q, takeN 1 (suf data pos) = some (q, suf data (pos + 1)) ∧ takeN 7 (suf data (pos + 1)) = none) ∧ e = formE)) := by
  have h1 := hide (unumber_any g c data pos 1 w hu hp hd (by omega))
  clear hu
  go_enter Tryz.func112, Tryz.ntmps112
  go_wp2_with fail
  refine (unhide h1).mono ?_
  rintro e w1 ⟨b1, ⟨f1, ⟨q, t1, l1, rfl⟩, u1⟩ | ⟨n1, rfl⟩⟩
  rotate_left
  · exact ⟨rfl, b1, .inr ⟨.inl n1, rfl⟩⟩
  have h2 := hide (unumber_any g c data (pos + 1) 7 w1 u1 f1 hd (by omega))
  have B1 := hide b1
  have T1 := hide t1
  have L1 := hide l1
  clear b1 t1 u1 l1 f1
  go_wp2_with fail
  refine (unhide h2).mono ?_
  rintro e w2 ⟨b2, ⟨f2, ⟨y, t2, l2, rfl⟩, u2⟩ | ⟨n2, rfl⟩⟩
  rotate_left
  · exact ⟨rfl, (unhide B1).trans b2, .inr ⟨.inr ⟨q, unhide T1, n2⟩, rfl⟩⟩
  have hy : (y : Int) < 72057594037927936 := by have : y < 72057594037927936 := l2; omega
  have B2 := hide ((unhide B1).trans b2)
  have T2 := hide t2
  have L2 := hide l2
  have F2 := hide f2
  have U2 := hide u2
  clear b2 t2 l2 f2 u2
  by_cases hq : q = 1
  · subst hq
    go_wp2_with fail
    go_ret
    exact ⟨unhide B2, .inl ⟨1, y, unhide T1, unhide T2, unhide F2, unhide L2, rfl, unhide U2⟩⟩
  · have hq' : ((q : Int) == 1) = false := by simp; omega
    have hq2 : ¬ (q : Int) = 1 := by omega
    have HQ := hide hq
    clear hq
    go_wp2_with fail
    go_ret
    exact ⟨unhide B2, .inl ⟨q, y, unhide T1, unhide T2, unhide F2, unhide L2, by rw [if_neg (unhide HQ)]; rfl, unhide U2⟩⟩

section
variable (m : Nat) (h : UvSaid m) (g c : Nat) (data : ByteArray) (pos d : Nat) (w : World)

set_option maxRecDepth 40000 in
set_option maxHeartbeats 1000000 in
theorem uv97 (hu : Unp g c data pos w) (hp : pos ≤ data.size) (hd : data.size ≤ 2 ^ 47) (hdm : d + (m + 1) = 101) (hc : c + 1 ≤ 2000) (htag : takeN 1 (suf data pos) = some (97, suf data (pos + 1))) :
    Calls Tryz.prog 85 #[.pointer (some ⟨g, 0, none⟩), .int .i64 d] w fun e w' => UvEnd (m + 1) g c data pos w e w' := by
  have HV := hide (takeV_tag (m := m) hc htag)
  have hps := hide (upassed_any g c data pos d w hu (by omega) (by omega))
  have hdec : (decide (2000 < c + 1) || decide (100 < d)) = false := by simp; omega
  rw [hdec] at hps
  clear hu hdec
  go_enter Tryz.func85, Tryz.ntmps85
  go_wp2_with fail
  refine (unhide hps).mono ?_
  rintro e w1 ⟨rfl, b1, u1⟩
  have h1 := hide (unumber_any g (c + 1) data pos 1 w1 u1 hp hd (by omega))
  have B1 := hide b1
  clear b1 u1 hps
  go_wp2_with fail
  refine (unhide h1).mono ?_
  rintro e w2 ⟨b2, ⟨f2, ⟨q, t2, _, rfl⟩, u2⟩ | ⟨n2, rfl⟩⟩
  rotate_left
  · rw [htag] at n2; cases n2
  obtain rfl : 97 = q := by
    rw [htag] at t2
    injection t2 with e1
    injection e1
  have B2 := hide ((unhide B1).trans b2)
  clear b2 t2 htag
  have h3 := hide (unumber_any g (c + 1) data (pos + 1) 1 w2 u2 f2 hd (by omega))
  clear u2 f2
  go_wp2_with fail
  refine (unhide h3).mono ?_
  rintro e w3 ⟨b3, ⟨f3, ⟨x3, t3, l3, rfl⟩, u3⟩ | ⟨n3, rfl⟩⟩
  rotate_left
  · refine ⟨rfl, (unhide B2).trans b3, .inr ⟨?_, rfl⟩⟩
    rw [unhide HV]
    show (match takeN 1 (suf data (pos + 1)) with | some (x, r) => some (leafT (m + 1) 1 x noText, r, c + 1) | none => none) = none
    rw [n3]
  have B3 := hide ((unhide B2).trans b3)
  have T3 := hide t3
  have L3 := hide l3
  clear b3 t3 l3
  have BZ := hide (unhide B3)
  have FZ := hide f3
  have UZ := hide u3
  clear u3 f3
  go_wp2_with fail
  go_ret
  refine ⟨unhide BZ, .inl ⟨leafT (m + 1) 1 x3 noText, c + 1, pos + 1 + 1, _, ?_, unhide FZ, by omega, by omega, rfl, ?_, unhide UZ⟩⟩
  · rw [unhide HV]
    show (match takeN 1 (suf data (pos + 1)) with | some (x, r) => some (leafT (m + 1) 1 x noText, r, c + 1) | none => none) = _
    rw [unhide T3]
  · exact ⟨⟨by omega, by have : x3 < 256 := unhide L3; omega⟩, by decide, .inl ⟨rfl, rfl, rfl, rfl⟩⟩

set_option maxRecDepth 40000 in
set_option maxHeartbeats 1000000 in
theorem uv114 (hu : Unp g c data pos w) (hp : pos ≤ data.size) (hd : data.size ≤ 2 ^ 47) (hdm : d + (m + 1) = 101) (hc : c + 1 ≤ 2000) (htag : takeN 1 (suf data pos) = some (114, suf data (pos + 1))) :
    Calls Tryz.prog 85 #[.pointer (some ⟨g, 0, none⟩), .int .i64 d] w fun e w' => UvEnd (m + 1) g c data pos w e w' := by
  have HV := hide (takeV_tag (m := m) hc htag)
  have hps := hide (upassed_any g c data pos d w hu (by omega) (by omega))
  have hdec : (decide (2000 < c + 1) || decide (100 < d)) = false := by simp; omega
  rw [hdec] at hps
  clear hu hdec
  go_enter Tryz.func85, Tryz.ntmps85
  go_wp2_with fail
  refine (unhide hps).mono ?_
  rintro e w1 ⟨rfl, b1, u1⟩
  have h1 := hide (unumber_any g (c + 1) data pos 1 w1 u1 hp hd (by omega))
  have B1 := hide b1
  clear b1 u1 hps
  go_wp2_with fail
  refine (unhide h1).mono ?_
  rintro e w2 ⟨b2, ⟨f2, ⟨q, t2, _, rfl⟩, u2⟩ | ⟨n2, rfl⟩⟩
  rotate_left
  · rw [htag] at n2; cases n2
  obtain rfl : 114 = q := by
    rw [htag] at t2
    injection t2 with e1
    injection e1
  have B2 := hide ((unhide B1).trans b2)
  clear b2 t2 htag
  have h3 := hide (unumber_any g (c + 1) data (pos + 1) 7 w2 u2 f2 hd (by omega))
  clear u2 f2
  go_wp2_with fail
  refine (unhide h3).mono ?_
  rintro e w3 ⟨b3, ⟨f3, ⟨x3, t3, l3, rfl⟩, u3⟩ | ⟨n3, rfl⟩⟩
  rotate_left
  · refine ⟨rfl, (unhide B2).trans b3, .inr ⟨?_, rfl⟩⟩
    rw [unhide HV]
    show (match takeN 7 (suf data (pos + 1)) with | some (x, r) => some (leafT (m + 1) 3 x noText, r, c + 1) | none => none) = none
    rw [n3]
  have B3 := hide ((unhide B2).trans b3)
  have T3 := hide t3
  have L3 := hide l3
  clear b3 t3 l3
  have BZ := hide (unhide B3)
  have FZ := hide f3
  have UZ := hide u3
  clear u3 f3
  go_wp2_with fail
  go_ret
  refine ⟨unhide BZ, .inl ⟨leafT (m + 1) 3 x3 noText, c + 1, pos + 1 + 7, _, ?_, unhide FZ, by omega, by omega, rfl, ?_, unhide UZ⟩⟩
  · rw [unhide HV]
    show (match takeN 7 (suf data (pos + 1)) with | some (x, r) => some (leafT (m + 1) 3 x noText, r, c + 1) | none => none) = _
    rw [unhide T3]
  · exact ⟨⟨by omega, by have : x3 < 72057594037927936 := unhide L3; omega⟩, by decide, .inr (.inr (.inl ⟨rfl, rfl, rfl, rfl⟩))⟩

set_option maxRecDepth 40000 in
set_option maxHeartbeats 1000000 in
theorem uv103 (hu : Unp g c data pos w) (hp : pos ≤ data.size) (hd : data.size ≤ 2 ^ 47) (hdm : d + (m + 1) = 101) (hc : c + 1 ≤ 2000) (htag : takeN 1 (suf data pos) = some (103, suf data (pos + 1))) :
    Calls Tryz.prog 85 #[.pointer (some ⟨g, 0, none⟩), .int .i64 d] w fun e w' => UvEnd (m + 1) g c data pos w e w' := by
  have HV := hide (takeV_tag (m := m) hc htag)
  have hps := hide (upassed_any g c data pos d w hu (by omega) (by omega))
  have hdec : (decide (2000 < c + 1) || decide (100 < d)) = false := by simp; omega
  rw [hdec] at hps
  clear hu hdec
  go_enter Tryz.func85, Tryz.ntmps85
  go_wp2_with fail
  refine (unhide hps).mono ?_
  rintro e w1 ⟨rfl, b1, u1⟩
  have h1 := hide (unumber_any g (c + 1) data pos 1 w1 u1 hp hd (by omega))
  have B1 := hide b1
  clear b1 u1 hps
  go_wp2_with fail
  refine (unhide h1).mono ?_
  rintro e w2 ⟨b2, ⟨f2, ⟨q, t2, _, rfl⟩, u2⟩ | ⟨n2, rfl⟩⟩
  rotate_left
  · rw [htag] at n2; cases n2
  obtain rfl : 103 = q := by
    rw [htag] at t2
    injection t2 with e1
    injection e1
  have B2 := hide ((unhide B1).trans b2)
  clear b2 t2 htag
  have h3 := hide (unumber_any g (c + 1) data (pos + 1) 7 w2 u2 f2 hd (by omega))
  clear u2 f2
  go_wp2_with fail
  refine (unhide h3).mono ?_
  rintro e w3 ⟨b3, ⟨f3, ⟨x3, t3, l3, rfl⟩, u3⟩ | ⟨n3, rfl⟩⟩
  rotate_left
  · refine ⟨rfl, (unhide B2).trans b3, .inr ⟨?_, rfl⟩⟩
    rw [unhide HV]
    show (match takeN 7 (suf data (pos + 1)) with | some (x, r) => some (leafT (m + 1) 5 x noText, r, c + 1) | none => none) = none
    rw [n3]
  have B3 := hide ((unhide B2).trans b3)
  have T3 := hide t3
  have L3 := hide l3
  clear b3 t3 l3
  have BZ := hide (unhide B3)
  have FZ := hide f3
  have UZ := hide u3
  clear u3 f3
  go_wp2_with fail
  go_ret
  refine ⟨unhide BZ, .inl ⟨leafT (m + 1) 5 x3 noText, c + 1, pos + 1 + 7, _, ?_, unhide FZ, by omega, by omega, rfl, ?_, unhide UZ⟩⟩
  · rw [unhide HV]
    show (match takeN 7 (suf data (pos + 1)) with | some (x, r) => some (leafT (m + 1) 5 x noText, r, c + 1) | none => none) = _
    rw [unhide T3]
  · exact ⟨⟨by omega, by have : x3 < 72057594037927936 := unhide L3; omega⟩, by decide, .inr (.inr (.inr (.inl ⟨rfl, rfl, rfl, rfl⟩)))⟩

set_option maxRecDepth 40000 in
set_option maxHeartbeats 1000000 in
theorem uv98 (hu : Unp g c data pos w) (hp : pos ≤ data.size) (hd : data.size ≤ 2 ^ 47) (hdm : d + (m + 1) = 101) (hc : c + 1 ≤ 2000) (htag : takeN 1 (suf data pos) = some (98, suf data (pos + 1))) :
    Calls Tryz.prog 85 #[.pointer (some ⟨g, 0, none⟩), .int .i64 d] w fun e w' => UvEnd (m + 1) g c data pos w e w' := by
  have HV := hide (takeV_tag (m := m) hc htag)
  have hps := hide (upassed_any g c data pos d w hu (by omega) (by omega))
  have hdec : (decide (2000 < c + 1) || decide (100 < d)) = false := by simp; omega
  rw [hdec] at hps
  clear hu hdec
  go_enter Tryz.func85, Tryz.ntmps85
  go_wp2_with fail
  refine (unhide hps).mono ?_
  rintro e w1 ⟨rfl, b1, u1⟩
  have h1 := hide (unumber_any g (c + 1) data pos 1 w1 u1 hp hd (by omega))
  have B1 := hide b1
  clear b1 u1 hps
  go_wp2_with fail
  refine (unhide h1).mono ?_
  rintro e w2 ⟨b2, ⟨f2, ⟨q, t2, _, rfl⟩, u2⟩ | ⟨n2, rfl⟩⟩
  rotate_left
  · rw [htag] at n2; cases n2
  obtain rfl : 98 = q := by
    rw [htag] at t2
    injection t2 with e1
    injection e1
  have B2 := hide ((unhide B1).trans b2)
  clear b2 t2 htag
  have h3 := hide (usigned_any g (c + 1) data (pos + 1) w2 u2 f2 hd)
  clear u2 f2
  go_wp2_with fail
  refine (unhide h3).mono ?_
  rintro e w3 ⟨b3, ⟨x3, y3, t3, t4, f3, l3, rfl, u3⟩ | ⟨n3, rfl⟩⟩
  rotate_left
  · refine ⟨rfl, (unhide B2).trans b3, .inr ⟨?_, rfl⟩⟩
    rw [unhide HV]
    show (match takeN 1 (suf data (pos + 1)) with | some (x, r) => (match takeN 7 r with | some (y, r) => some (leafT (m + 1) 1 (if x = 1 then -(y : Int) else y) noText, r, c + 1) | none => none) | none => none) = none
    rcases n3 with n3 | ⟨x3, t3, n3⟩
    · rw [n3]
    · rw [t3]
      dsimp only
      rw [n3]
  have B3 := hide ((unhide B2).trans b3)
  have T3 := hide t3
  have T4 := hide t4
  have L3 := hide l3
  clear b3 t3 t4 l3
  obtain ⟨z, hz⟩ : ∃ z, z = (if x3 = 1 then -(y3 : Int) else y3) := ⟨_, rfl⟩
  rw [← hz]
  have HZ := hide hz
  clear hz
  have BZ := hide (unhide B3)
  have FZ := hide f3
  have UZ := hide u3
  clear u3 f3
  go_wp2_with fail
  go_ret
  refine ⟨unhide BZ, .inl ⟨leafT (m + 1) 1 z noText, c + 1, pos + 1 + 1 + 7, _, ?_, unhide FZ, by omega, by omega, rfl, ?_, unhide UZ⟩⟩
  · rw [unhide HV]
    show (match takeN 1 (suf data (pos + 1)) with | some (x, r) => (match takeN 7 r with | some (y, r) => some (leafT (m + 1) 1 (if x = 1 then -(y : Int) else y) noText, r, c + 1) | none => none) | none => none) = _
    rw [unhide T3]
    dsimp only
    rw [unhide T4, unhide HZ]
  · exact ⟨by have h1 : y3 < 72057594037927936 := unhide L3; have h2 := unhide HZ; unfold In64; split at h2 <;> omega, by decide, .inl ⟨rfl, rfl, rfl, rfl⟩⟩

set_option maxRecDepth 40000 in
set_option maxHeartbeats 1000000 in
theorem uv119 (hu : Unp g c data pos w) (hp : pos ≤ data.size) (hd : data.size ≤ 2 ^ 47) (hdm : d + (m + 1) = 101) (hc : c + 1 ≤ 2000) (htag : takeN 1 (suf data pos) = some (119, suf data (pos + 1))) :
    Calls Tryz.prog 85 #[.pointer (some ⟨g, 0, none⟩), .int .i64 d] w fun e w' => UvEnd (m + 1) g c data pos w e w' := by
  have HV := hide (takeV_tag (m := m) hc htag)
  have hps := hide (upassed_any g c data pos d w hu (by omega) (by omega))
  have hdec : (decide (2000 < c + 1) || decide (100 < d)) = false := by simp; omega
  rw [hdec] at hps
  clear hu hdec
  go_enter Tryz.func85, Tryz.ntmps85
  go_wp2_with fail
  refine (unhide hps).mono ?_
  rintro e w1 ⟨rfl, b1, u1⟩
  have h1 := hide (unumber_any g (c + 1) data pos 1 w1 u1 hp hd (by omega))
  have B1 := hide b1
  clear b1 u1 hps
  go_wp2_with fail
  refine (unhide h1).mono ?_
  rintro e w2 ⟨b2, ⟨f2, ⟨q, t2, _, rfl⟩, u2⟩ | ⟨n2, rfl⟩⟩
  rotate_left
  · rw [htag] at n2; cases n2
  obtain rfl : 119 = q := by
    rw [htag] at t2
    injection t2 with e1
    injection e1
  have B2 := hide ((unhide B1).trans b2)
  clear b2 t2 htag
  have h3 := hide (unumber_any g (c + 1) data (pos + 1) 1 w2 u2 f2 hd (by omega))
  clear u2 f2
  go_wp2_with fail
  refine (unhide h3).mono ?_
  rintro e w3 ⟨b3, ⟨f3, ⟨x3, t3, l3, rfl⟩, u3⟩ | ⟨n3, rfl⟩⟩
  rotate_left
  · refine ⟨rfl, (unhide B2).trans b3, .inr ⟨?_, rfl⟩⟩
    rw [unhide HV]
    show (match takeN 1 (suf data (pos + 1)) with | some (x, r) => (match takeB x r with | some (s, r) => some (leafT (m + 1) 2 0 (strOfNums s), r, c + 1) | none => none) | none => none) = none
    rw [n3]
  have B3 := hide ((unhide B2).trans b3)
  have T3 := hide t3
  have L3 := hide l3
  clear b3 t3 l3
  have hlim : x3 < 256 := unhide L3
  have h4 := hide (ubytes_any g (c + 1) data (pos + 1 + 1) x3 w3 u3 f3 hd (by omega))
  have F3 := hide f3
  clear u3 f3
  go_wp2_with fail
  refine (unhide h4).mono ?_
  rintro e w4 ⟨b4, ⟨f4, rfl, u4⟩ | ⟨n4, rfl⟩⟩
  rotate_left
  · refine ⟨rfl, (unhide B3).trans b4, .inr ⟨?_, rfl⟩⟩
    rw [unhide HV]
    show (match takeN 1 (suf data (pos + 1)) with | some (x, r) => (match takeB x r with | some (s, r) => some (leafT (m + 1) 2 0 (strOfNums s), r, c + 1) | none => none) | none => none) = none
    rw [unhide T3]
    dsimp only
    rw [take_no (unhide F3) n4]
  have B4 := hide ((unhide B3).trans b4)
  have T4 := hide (take_yes f4)
  obtain ⟨xs, hxs⟩ : ∃ xs, xs = (suf data (pos + 1 + 1)).take x3 := ⟨_, rfl⟩
  have hxl : (strOfNums xs).size = x3 := by rw [← txtL_length, txtL_nums xs (fun y hy => suf_byte data _ y (by rw [hxs] at hy; exact List.mem_of_mem_take hy)), hxs, List.length_take, suf_length]; omega
  rw [← hxs] at T4 ⊢
  obtain ⟨S, hS⟩ : ∃ S, S = strOfNums xs := ⟨_, rfl⟩
  rw [← hS] at hxl ⊢
  have HS := hide hS
  have HXL := hide hxl
  clear b4 hxs hS hxl
  have BZ := hide (unhide B4)
  have FZ := hide f4
  have UZ := hide u4
  clear u4 f4
  go_wp2_with fail
  go_ret
  refine ⟨unhide BZ, .inl ⟨leafT (m + 1) 2 0 S, c + 1, pos + 1 + 1 + x3, _, ?_, unhide FZ, by omega, by omega, rfl, ?_, unhide UZ⟩⟩
  · rw [unhide HV]
    show (match takeN 1 (suf data (pos + 1)) with | some (x, r) => (match takeB x r with | some (s, r) => some (leafT (m + 1) 2 0 (strOfNums s), r, c + 1) | none => none) | none => none) = _
    rw [unhide T3]
    dsimp only
    rw [unhide T4, unhide HS]
  · exact ⟨⟨by decide, by decide⟩, by have := unhide HXL; omega, .inr (.inl ⟨rfl, rfl, rfl, rfl⟩)⟩

set_option maxRecDepth 40000 in
set_option maxHeartbeats 1000000 in
theorem uv109 (hu : Unp g c data pos w) (hp : pos ≤ data.size) (hd : data.size ≤ 2 ^ 47) (hdm : d + (m + 1) = 101) (hc : c + 1 ≤ 2000) (htag : takeN 1 (suf data pos) = some (109, suf data (pos + 1))) :
    Calls Tryz.prog 85 #[.pointer (some ⟨g, 0, none⟩), .int .i64 d] w fun e w' => UvEnd (m + 1) g c data pos w e w' := by
  have HV := hide (takeV_tag (m := m) hc htag)
  have hps := hide (upassed_any g c data pos d w hu (by omega) (by omega))
  have hdec : (decide (2000 < c + 1) || decide (100 < d)) = false := by simp; omega
  rw [hdec] at hps
  clear hu hdec
  go_enter Tryz.func85, Tryz.ntmps85
  go_wp2_with fail
  refine (unhide hps).mono ?_
  rintro e w1 ⟨rfl, b1, u1⟩
  have h1 := hide (unumber_any g (c + 1) data pos 1 w1 u1 hp hd (by omega))
  have B1 := hide b1
  clear b1 u1 hps
  go_wp2_with fail
  refine (unhide h1).mono ?_
  rintro e w2 ⟨b2, ⟨f2, ⟨q, t2, _, rfl⟩, u2⟩ | ⟨n2, rfl⟩⟩
  rotate_left
  · rw [htag] at n2; cases n2
  obtain rfl : 109 = q := by
    rw [htag] at t2
    injection t2 with e1
    injection e1
  have B2 := hide ((unhide B1).trans b2)
  clear b2 t2 htag
  have h3 := hide (unumber_any g (c + 1) data (pos + 1) 2 w2 u2 f2 hd (by omega))
  clear u2 f2
  go_wp2_with fail
  refine (unhide h3).mono ?_
  rintro e w3 ⟨b3, ⟨f3, ⟨x3, t3, l3, rfl⟩, u3⟩ | ⟨n3, rfl⟩⟩
  rotate_left
  · refine ⟨rfl, (unhide B2).trans b3, .inr ⟨?_, rfl⟩⟩
    rw [unhide HV]
    show (match takeN 2 (suf data (pos + 1)) with | some (x, r) => (match takeB x r with | some (s, r) => some (leafT (m + 1) 9 0 (strOfNums s), r, c + 1) | none => none) | none => none) = none
    rw [n3]
  have B3 := hide ((unhide B2).trans b3)
  have T3 := hide t3
  have L3 := hide l3
  clear b3 t3 l3
  have hlim : x3 < 65536 := unhide L3
  have h4 := hide (ubytes_any g (c + 1) data (pos + 1 + 2) x3 w3 u3 f3 hd (by omega))
  have F3 := hide f3
  clear u3 f3
  go_wp2_with fail
  refine (unhide h4).mono ?_
  rintro e w4 ⟨b4, ⟨f4, rfl, u4⟩ | ⟨n4, rfl⟩⟩
  rotate_left
  · refine ⟨rfl, (unhide B3).trans b4, .inr ⟨?_, rfl⟩⟩
    rw [unhide HV]
    show (match takeN 2 (suf data (pos + 1)) with | some (x, r) => (match takeB x r with | some (s, r) => some (leafT (m + 1) 9 0 (strOfNums s), r, c + 1) | none => none) | none => none) = none
    rw [unhide T3]
    dsimp only
    rw [take_no (unhide F3) n4]
  have B4 := hide ((unhide B3).trans b4)
  have T4 := hide (take_yes f4)
  obtain ⟨xs, hxs⟩ : ∃ xs, xs = (suf data (pos + 1 + 2)).take x3 := ⟨_, rfl⟩
  have hxl : (strOfNums xs).size = x3 := by rw [← txtL_length, txtL_nums xs (fun y hy => suf_byte data _ y (by rw [hxs] at hy; exact List.mem_of_mem_take hy)), hxs, List.length_take, suf_length]; omega
  rw [← hxs] at T4 ⊢
  obtain ⟨S, hS⟩ : ∃ S, S = strOfNums xs := ⟨_, rfl⟩
  rw [← hS] at hxl ⊢
  have HS := hide hS
  have HXL := hide hxl
  clear b4 hxs hS hxl
  have BZ := hide (unhide B4)
  have FZ := hide f4
  have UZ := hide u4
  clear u4 f4
  go_wp2_with fail
  go_ret
  refine ⟨unhide BZ, .inl ⟨leafT (m + 1) 9 0 S, c + 1, pos + 1 + 2 + x3, _, ?_, unhide FZ, by omega, by omega, rfl, ?_, unhide UZ⟩⟩
  · rw [unhide HV]
    show (match takeN 2 (suf data (pos + 1)) with | some (x, r) => (match takeB x r with | some (s, r) => some (leafT (m + 1) 9 0 (strOfNums s), r, c + 1) | none => none) | none => none) = _
    rw [unhide T3]
    dsimp only
    rw [unhide T4, unhide HS]
  · exact ⟨⟨by decide, by decide⟩, by have := unhide HXL; omega, .inr (.inr (.inr (.inr (.inl ⟨rfl, rfl, rfl, rfl⟩))))⟩

set_option maxRecDepth 40000 in
set_option maxHeartbeats 1000000 in
theorem uv106 (hu : Unp g c data pos w) (hp : pos ≤ data.size) (hd : data.size ≤ 2 ^ 47) (hdm : d + (m + 1) = 101) (hc : c + 1 ≤ 2000) (htag : takeN 1 (suf data pos) = some (106, suf data (pos + 1))) :
    Calls Tryz.prog 85 #[.pointer (some ⟨g, 0, none⟩), .int .i64 d] w fun e w' => UvEnd (m + 1) g c data pos w e w' := by
  have HV := hide (takeV_tag (m := m) hc htag)
  have hps := hide (upassed_any g c data pos d w hu (by omega) (by omega))
  have hdec : (decide (2000 < c + 1) || decide (100 < d)) = false := by simp; omega
  rw [hdec] at hps
  clear hu hdec
  go_enter Tryz.func85, Tryz.ntmps85
  go_wp2_with fail
  refine (unhide hps).mono ?_
  rintro e w1 ⟨rfl, b1, u1⟩
  have h1 := hide (unumber_any g (c + 1) data pos 1 w1 u1 hp hd (by omega))
  have B1 := hide b1
  clear b1 u1 hps
  go_wp2_with fail
  refine (unhide h1).mono ?_
  rintro e w2 ⟨b2, ⟨f2, ⟨q, t2, _, rfl⟩, u2⟩ | ⟨n2, rfl⟩⟩
  rotate_left
  · rw [htag] at n2; cases n2
  obtain rfl : 106 = q := by
    rw [htag] at t2
    injection t2 with e1
    injection e1
  have B2 := hide ((unhide B1).trans b2)
  clear b2 t2 htag
  have BZ := hide (unhide B2)
  have FZ := hide f2
  have UZ := hide u2
  clear u2 f2
  go_wp2_with fail
  go_ret
  refine ⟨unhide BZ, .inl ⟨leafT (m + 1) 8 0 noText, c + 1, pos + 1, _, ?_, unhide FZ, by omega, by omega, rfl, ?_, unhide UZ⟩⟩
  · rw [unhide HV]
    rfl
  · exact ⟨⟨by decide, by decide⟩, by decide, .inr (.inr (.inr (.inr (.inr ⟨none, 0, kat_nil, by simp, rfl, .inr (.inr (.inl ⟨rfl, rfl, rfl⟩))⟩))))⟩

end
end Go.Proofs.YthfjgffhncogaaaGreat
