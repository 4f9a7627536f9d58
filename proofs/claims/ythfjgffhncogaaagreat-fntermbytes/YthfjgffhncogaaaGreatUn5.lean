/- impl's unpacker: value, the tags with rows. -/
import Derived.Test.YthfjgffhncogaaaGreatUn4
namespace Go.Proofs.YthfjgffhncogaaaGreat
open Go.RowKit Go.Deep

theorem KAt.cellsOf' {α : Type} {S : Nat → Prop} {w : World} {R : α → Value → Prop} {ks : List α} {a : Option Addr} (h : KAt S w R ks a) :
    ∃ vs : List Value, vs.length = ks.length ∧ ∀ i (h : i < ks.length) (h' : i < vs.length), ∃ b off, a = some ⟨b, off, none⟩ ∧ S b ∧ w.cell? ⟨b, off + i, none⟩ = some vs[i] ∧ R ks[i] vs[i] := by
  refine ⟨(List.finRange ks.length).map fun i => (h i.1 i.2).choose_spec.choose_spec.choose, by simp, fun i hi hi' => ?_⟩
  obtain ⟨h1, h2, h3, h4⟩ := (h i hi).choose_spec.choose_spec.choose_spec
  refine ⟨_, _, h1, h2, ?_, ?_⟩
  · simpa using h3
  · simpa using h4

set_option maxRecDepth 40000 in
set_option maxHeartbeats 1000000 in
theorem pairsOf_nil (a : Option Addr) (cap : Nat) (w : World) : Calls Tryz.prog 114 #[.slice a 0 cap] w fun e w' => e = .returned (.slice (some ⟨w.heap.size, 0, none⟩) 0 0) ∧ w.heap.size < w'.heap.size ∧ Below w.heap.size w w' := by
  have hmk := run_mkp 0 (by omega)
  rw [show ((0 : Nat) : Int) = 0 from rfl] at hmk
  go_enter Tryz.func114, Tryz.ntmps114
  go_wp2_with fail
  clear hmk
  go_loopw [3, 4] (fun rv iv wr => iv = .int .i64 0 ∧ rv = .slice (some ⟨w.heap.size, 0, none⟩) 0 0 ∧ w.heap.size < wr.heap.size ∧ Below w.heap.size w wr) (fun _ _ _ => 0)
  case atStart => exact ⟨rfl, rfl, by simp, (Below.refl _ _).alloc (Nat.le_refl _) _⟩
  case round =>
    obtain ⟨rfl, rfl, hs, hb⟩ := hrel
    go_wp2_with fail
    go_ret
    exact ⟨rfl, hs, hb⟩

section
variable (m : Nat) (g c : Nat) (data : ByteArray) (pos d : Nat) (w : World)

set_option maxRecDepth 40000 in
set_option maxHeartbeats 1000000 in
theorem uv104 (h : UvSaid m) (hu : Unp g c data pos w) (hp : pos ≤ data.size) (hd : data.size ≤ 2 ^ 47) (hdm : d + (m + 1) = 101) (hc : c + 1 ≤ 2000) (htag : takeN 1 (suf data pos) = some (104, suf data (pos + 1))) :
    Calls Tryz.prog 85 #[.pointer (some ⟨g, 0, none⟩), .int .i64 d] w fun e w' => UvEnd (m + 1) g c data pos w e w' := by
  have HV := hide (takeV_tag (m := m) hc htag)
  have hps := hide (upassed_any g c data pos d w hu (by omega) (by omega))
  have hdec : (decide (2000 < c + 1) || decide (100 < d)) = false := by simp; omega
  rw [hdec] at hps
  clear hu hdec
  go_enter Tryz.func85, Tryz.ntmps85
  go_wp2_with fail
  refine (unhide hps).mono ?_
  rintro e w1 ⟨rfl, b1, u1⟩
  have h1 := hide (unumber_any g (c + 1) data pos 1 w1 u1 hp hd (by omega))
  have B1 := hide b1
  clear b1 u1 hps
  go_wp2_with fail
  refine (unhide h1).mono ?_
  rintro e w2 ⟨b2, ⟨f2, ⟨q, t2, _, rfl⟩, u2⟩ | ⟨n2, rfl⟩⟩
  rotate_left
  · rw [htag] at n2; cases n2
  obtain rfl : 104 = q := by
    rw [htag] at t2
    injection t2 with e1
    injection e1
  have B2 := hide ((unhide B1).trans b2)
  clear b2 t2 htag
  have h3 := hide (unumber_any g (c + 1) data (pos + 1) 1 w2 u2 f2 hd (by omega))
  clear u2 f2
  go_wp2_with fail
  refine (unhide h3).mono ?_
  rintro e w3 ⟨b3, ⟨f3, ⟨x3, t3, l3, rfl⟩, u3⟩ | ⟨n3, rfl⟩⟩
  rotate_left
  · refine ⟨rfl, (unhide B2).trans b3, .inr ⟨?_, rfl⟩⟩
    rw [unhide HV]
    show (match takeN 1 (suf data (pos + 1)) with | some (x, r) => takeK (takeV m) 6 0 x r (c + 1) | none => none) = none
    rw [n3]
  have B3 := hide ((unhide B2).trans b3)
  have T3 := hide t3
  have L3 := hide l3
  clear b3 t3 l3
  have hlim : x3 < 256 := unhide L3
  have hr := urow_any m h g (c + 1) (x3) data (pos + 1 + 1) (d + 1) w3 u3 f3 hd (by omega) (by omega) (by omega)
  rw [show ((d + 1 : Nat) : Int) = (d : Int) + 1 from by omega] at hr
  have HR := hide hr
  clear u3 f3 hr
  go_wp2_with fail
  refine (unhide HR).mono ?_
  rintro e w4 ⟨b4, ⟨ks, c', pos', a, cap, tr, f4, hcc, hc2, hkl, rfl, hcap, ha, hK, u4⟩ | ⟨nr, rfl⟩⟩
  rotate_left
  · refine ⟨rfl, (unhide B3).trans b4, .inr ⟨?_, rfl⟩⟩
    rw [unhide HV]
    show (match takeN 1 (suf data (pos + 1)) with | some (x, r) => takeK (takeV m) 6 0 x r (c + 1) | none => none) = none
    rw [unhide T3]
    dsimp only
    unfold takeK
    rw [nr]
  have hbs := (unhide B3).size
  have B4 := hide ((unhide B3).trans b4)
  have TR := hide tr
  have HCC := hide (And.intro hcc hc2)
  have HKA := hide ((hK.mono (fresh_sub hbs) fun _ _ _ hv => hv.mono (fresh_sub hbs)) : KAt (Fresh w w4) w4 (XAt (Fresh w w4) w4 (m + 1)) ks a)
  clear b4 tr hcc hc2 hK
  have HKL := hide hkl
  clear hkl ha hcap
  have BZ := hide (unhide B4)
  have FZ := hide f4
  have UZ := hide u4
  clear u4 f4
  go_wp2_with fail
  go_ret
  obtain ⟨q1, q2⟩ := unhide HCC
  refine ⟨unhide BZ, .inl ⟨((6, 0, noText, ks) : Tm (m + 2)), c', pos', _, ?_, unhide FZ, by omega, by omega, rfl, ?_, unhide UZ⟩⟩
  · rw [unhide HV]
    show (match takeN 1 (suf data (pos + 1)) with | some (x, r) => takeK (takeV m) 6 0 x r (c + 1) | none => none) = _
    rw [unhide T3]
    dsimp only
    unfold takeK
    rw [unhide TR]
  · exact ⟨⟨by decide, by decide⟩, by decide, .inr (.inr (.inr (.inr (.inr ⟨a, cap, unhide HKA, by have := unhide HKL; omega, rfl, .inr (.inl ⟨rfl, rfl, by rw [unhide HKL]; rfl⟩)⟩))))⟩

set_option maxRecDepth 40000 in
set_option maxHeartbeats 1000000 in
theorem uv105 (h : UvSaid m) (hu : Unp g c data pos w) (hp : pos ≤ data.size) (hd : data.size ≤ 2 ^ 47) (hdm : d + (m + 1) = 101) (hc : c + 1 ≤ 2000) (htag : takeN 1 (suf data pos) = some (105, suf data (pos + 1))) :
    Calls Tryz.prog 85 #[.pointer (some ⟨g, 0, none⟩), .int .i64 d] w fun e w' => UvEnd (m + 1) g c data pos w e w' := by
  have HV := hide (takeV_tag (m := m) hc htag)
  have hps := hide (upassed_any g c data pos d w hu (by omega) (by omega))
  have hdec : (decide (2000 < c + 1) || decide (100 < d)) = false := by simp; omega
  rw [hdec] at hps
  clear hu hdec
  go_enter Tryz.func85, Tryz.ntmps85
  go_wp2_with fail
  refine (unhide hps).mono ?_
  rintro e w1 ⟨rfl, b1, u1⟩
  have h1 := hide (unumber_any g (c + 1) data pos 1 w1 u1 hp hd (by omega))
  have B1 := hide b1
  clear b1 u1 hps
  go_wp2_with fail
  refine (unhide h1).mono ?_
  rintro e w2 ⟨b2, ⟨f2, ⟨q, t2, _, rfl⟩, u2⟩ | ⟨n2, rfl⟩⟩
  rotate_left
  · rw [htag] at n2; cases n2
  obtain rfl : 105 = q := by
    rw [htag] at t2
    injection t2 with e1
    injection e1
  have B2 := hide ((unhide B1).trans b2)
  clear b2 t2 htag
  have h3 := hide (unumber_any g (c + 1) data (pos + 1) 2 w2 u2 f2 hd (by omega))
  clear u2 f2
  go_wp2_with fail
  refine (unhide h3).mono ?_
  rintro e w3 ⟨b3, ⟨f3, ⟨x3, t3, l3, rfl⟩, u3⟩ | ⟨n3, rfl⟩⟩
  rotate_left
  · refine ⟨rfl, (unhide B2).trans b3, .inr ⟨?_, rfl⟩⟩
    rw [unhide HV]
    show (match takeN 2 (suf data (pos + 1)) with | some (x, r) => takeK (takeV m) 6 0 x r (c + 1) | none => none) = none
    rw [n3]
  have B3 := hide ((unhide B2).trans b3)
  have T3 := hide t3
  have L3 := hide l3
  clear b3 t3 l3
  have hlim : x3 < 65536 := unhide L3
  have hr := urow_any m h g (c + 1) (x3) data (pos + 1 + 2) (d + 1) w3 u3 f3 hd (by omega) (by omega) (by omega)
  rw [show ((d + 1 : Nat) : Int) = (d : Int) + 1 from by omega] at hr
  have HR := hide hr
  clear u3 f3 hr
  go_wp2_with fail
  refine (unhide HR).mono ?_
  rintro e w4 ⟨b4, ⟨ks, c', pos', a, cap, tr, f4, hcc, hc2, hkl, rfl, hcap, ha, hK, u4⟩ | ⟨nr, rfl⟩⟩
  rotate_left
  · refine ⟨rfl, (unhide B3).trans b4, .inr ⟨?_, rfl⟩⟩
    rw [unhide HV]
    show (match takeN 2 (suf data (pos + 1)) with | some (x, r) => takeK (takeV m) 6 0 x r (c + 1) | none => none) = none
    rw [unhide T3]
    dsimp only
    unfold takeK
    rw [nr]
  have hbs := (unhide B3).size
  have B4 := hide ((unhide B3).trans b4)
  have TR := hide tr
  have HCC := hide (And.intro hcc hc2)
  have HKA := hide ((hK.mono (fresh_sub hbs) fun _ _ _ hv => hv.mono (fresh_sub hbs)) : KAt (Fresh w w4) w4 (XAt (Fresh w w4) w4 (m + 1)) ks a)
  clear b4 tr hcc hc2 hK
  have HKL := hide hkl
  clear hkl ha hcap
  have BZ := hide (unhide B4)
  have FZ := hide f4
  have UZ := hide u4
  clear u4 f4
  go_wp2_with fail
  go_ret
  obtain ⟨q1, q2⟩ := unhide HCC
  refine ⟨unhide BZ, .inl ⟨((6, 0, noText, ks) : Tm (m + 2)), c', pos', _, ?_, unhide FZ, by omega, by omega, rfl, ?_, unhide UZ⟩⟩
  · rw [unhide HV]
    show (match takeN 2 (suf data (pos + 1)) with | some (x, r) => takeK (takeV m) 6 0 x r (c + 1) | none => none) = _
    rw [unhide T3]
    dsimp only
    unfold takeK
    rw [unhide TR]
  · exact ⟨⟨by decide, by decide⟩, by decide, .inr (.inr (.inr (.inr (.inr ⟨a, cap, unhide HKA, by have := unhide HKL; omega, rfl, .inr (.inl ⟨rfl, rfl, by rw [unhide HKL]; rfl⟩)⟩))))⟩

set_option maxRecDepth 40000 in
set_option maxHeartbeats 1000000 in
theorem uv108 (h : UvSaid m) (hu : Unp g c data pos w) (hp : pos ≤ data.size) (hd : data.size ≤ 2 ^ 47) (hdm : d + (m + 1) = 101) (hc : c + 1 ≤ 2000) (htag : takeN 1 (suf data pos) = some (108, suf data (pos + 1))) :
    Calls Tryz.prog 85 #[.pointer (some ⟨g, 0, none⟩), .int .i64 d] w fun e w' => UvEnd (m + 1) g c data pos w e w' := by
  have HV := hide (takeV_tag (m := m) hc htag)
  have hps := hide (upassed_any g c data pos d w hu (by omega) (by omega))
  have hdec : (decide (2000 < c + 1) || decide (100 < d)) = false := by simp; omega
  rw [hdec] at hps
  clear hu hdec
  go_enter Tryz.func85, Tryz.ntmps85
  go_wp2_with fail
  refine (unhide hps).mono ?_
  rintro e w1 ⟨rfl, b1, u1⟩
  have h1 := hide (unumber_any g (c + 1) data pos 1 w1 u1 hp hd (by omega))
  have B1 := hide b1
  clear b1 u1 hps
  go_wp2_with fail
  refine (unhide h1).mono ?_
  rintro e w2 ⟨b2, ⟨f2, ⟨q, t2, _, rfl⟩, u2⟩ | ⟨n2, rfl⟩⟩
  rotate_left
  · rw [htag] at n2; cases n2
  obtain rfl : 108 = q := by
    rw [htag] at t2
    injection t2 with e1
    injection e1
  have B2 := hide ((unhide B1).trans b2)
  clear b2 t2 htag
  have h3 := hide (unumber_any g (c + 1) data (pos + 1) 2 w2 u2 f2 hd (by omega))
  clear u2 f2
  go_wp2_with fail
  refine (unhide h3).mono ?_
  rintro e w3 ⟨b3, ⟨f3, ⟨x3, t3, l3, rfl⟩, u3⟩ | ⟨n3, rfl⟩⟩
  rotate_left
  · refine ⟨rfl, (unhide B2).trans b3, .inr ⟨?_, rfl⟩⟩
    rw [unhide HV]
    show (match takeN 2 (suf data (pos + 1)) with | some (x, r) => takeK (takeV m) 8 0 x r (c + 1) | none => none) = none
    rw [n3]
  have B3 := hide ((unhide B2).trans b3)
  have T3 := hide t3
  have L3 := hide l3
  clear b3 t3 l3
  have hlim : x3 < 65536 := unhide L3
  have hr := urow_any m h g (c + 1) (x3) data (pos + 1 + 2) (d + 1) w3 u3 f3 hd (by omega) (by omega) (by omega)
  rw [show ((d + 1 : Nat) : Int) = (d : Int) + 1 from by omega] at hr
  have HR := hide hr
  clear u3 f3 hr
  go_wp2_with fail
  refine (unhide HR).mono ?_
  rintro e w4 ⟨b4, ⟨ks, c', pos', a, cap, tr, f4, hcc, hc2, hkl, rfl, hcap, ha, hK, u4⟩ | ⟨nr, rfl⟩⟩
  rotate_left
  · refine ⟨rfl, (unhide B3).trans b4, .inr ⟨?_, rfl⟩⟩
    rw [unhide HV]
    show (match takeN 2 (suf data (pos + 1)) with | some (x, r) => takeK (takeV m) 8 0 x r (c + 1) | none => none) = none
    rw [unhide T3]
    dsimp only
    unfold takeK
    rw [nr]
  have hbs := (unhide B3).size
  have B4 := hide ((unhide B3).trans b4)
  have TR := hide tr
  have HCC := hide (And.intro hcc hc2)
  have HKA := hide ((hK.mono (fresh_sub hbs) fun _ _ _ hv => hv.mono (fresh_sub hbs)) : KAt (Fresh w w4) w4 (XAt (Fresh w w4) w4 (m + 1)) ks a)
  clear b4 tr hcc hc2 hK
  have HKL := hide hkl
  clear hkl ha hcap
  have BZ := hide (unhide B4)
  have FZ := hide f4
  have UZ := hide u4
  clear u4 f4
  go_wp2_with fail
  go_ret
  obtain ⟨q1, q2⟩ := unhide HCC
  refine ⟨unhide BZ, .inl ⟨((8, 0, noText, ks) : Tm (m + 2)), c', pos', _, ?_, unhide FZ, by omega, by omega, rfl, ?_, unhide UZ⟩⟩
  · rw [unhide HV]
    show (match takeN 2 (suf data (pos + 1)) with | some (x, r) => takeK (takeV m) 8 0 x r (c + 1) | none => none) = _
    rw [unhide T3]
    dsimp only
    unfold takeK
    rw [unhide TR]
  · exact ⟨⟨by decide, by decide⟩, by decide, .inr (.inr (.inr (.inr (.inr ⟨a, cap, unhide HKA, by have := unhide HKL; omega, rfl, .inr (.inr (.inl ⟨rfl, rfl, by rw [unhide HKL]; rfl⟩))⟩))))⟩

set_option maxRecDepth 40000 in
set_option maxHeartbeats 1000000 in
theorem uv112 (h : UvSaid m) (hu : Unp g c data pos w) (hp : pos ≤ data.size) (hd : data.size ≤ 2 ^ 47) (hdm : d + (m + 1) = 101) (hc : c + 1 ≤ 2000) (htag : takeN 1 (suf data pos) = some (112, suf data (pos + 1))) :
    Calls Tryz.prog 85 #[.pointer (some ⟨g, 0, none⟩), .int .i64 d] w fun e w' => UvEnd (m + 1) g c data pos w e w' := by
  have HV := hide (takeV_tag (m := m) hc htag)
  have hps := hide (upassed_any g c data pos d w hu (by omega) (by omega))
  have hdec : (decide (2000 < c + 1) || decide (100 < d)) = false := by simp; omega
  rw [hdec] at hps
  clear hu hdec
  go_enter Tryz.func85, Tryz.ntmps85
  go_wp2_with fail
  refine (unhide hps).mono ?_
  rintro e w1 ⟨rfl, b1, u1⟩
  have h1 := hide (unumber_any g (c + 1) data pos 1 w1 u1 hp hd (by omega))
  have B1 := hide b1
  clear b1 u1 hps
  go_wp2_with fail
  refine (unhide h1).mono ?_
  rintro e w2 ⟨b2, ⟨f2, ⟨q, t2, _, rfl⟩, u2⟩ | ⟨n2, rfl⟩⟩
  rotate_left
  · rw [htag] at n2; cases n2
  obtain rfl : 112 = q := by
    rw [htag] at t2
    injection t2 with e1
    injection e1
  have B2 := hide ((unhide B1).trans b2)
  clear b2 t2 htag
  have h3 := hide (unumber_any g (c + 1) data (pos + 1) 7 w2 u2 f2 hd (by omega))
  clear u2 f2
  go_wp2_with fail
  refine (unhide h3).mono ?_
  rintro e w3 ⟨b3, ⟨f3, ⟨x3, t3, l3, rfl⟩, u3⟩ | ⟨n3, rfl⟩⟩
  rotate_left
  · refine ⟨rfl, (unhide B2).trans b3, .inr ⟨?_, rfl⟩⟩
    rw [unhide HV]
    show (match takeN 7 (suf data (pos + 1)) with | some (x, r) => (match takeN 2 r with | some (y, r) => takeK (takeV m) 4 x y r (c + 1) | none => none) | none => none) = none
    rw [n3]
  have B3 := hide ((unhide B2).trans b3)
  have T3 := hide t3
  have L3 := hide l3
  clear b3 t3 l3
  have h4 := hide (unumber_any g (c + 1) data (pos + 1 + 7) 2 w3 u3 f3 hd (by omega))
  clear u3 f3
  go_wp2_with fail
  refine (unhide h4).mono ?_
  rintro e w4 ⟨b4, ⟨f4, ⟨x4, t4, l4, rfl⟩, u4⟩ | ⟨n4, rfl⟩⟩
  rotate_left
  · refine ⟨rfl, (unhide B3).trans b4, .inr ⟨?_, rfl⟩⟩
    rw [unhide HV]
    show (match takeN 7 (suf data (pos + 1)) with | some (x, r) => (match takeN 2 r with | some (y, r) => takeK (takeV m) 4 x y r (c + 1) | none => none) | none => none) = none
    rw [unhide T3]
    dsimp only
    rw [n4]
  have B4 := hide ((unhide B3).trans b4)
  have T4 := hide t4
  have L4 := hide l4
  clear b4 t4 l4
  have hlim : x4 < 65536 := unhide L4
  have hr := urow_any m h g (c + 1) (x4) data (pos + 1 + 7 + 2) (d + 1) w4 u4 f4 hd (by omega) (by omega) (by omega)
  rw [show ((d + 1 : Nat) : Int) = (d : Int) + 1 from by omega] at hr
  have HR := hide hr
  clear u4 f4 hr
  go_wp2_with fail
  refine (unhide HR).mono ?_
  rintro e w5 ⟨b5, ⟨ks, c', pos', a, cap, tr, f5, hcc, hc2, hkl, rfl, hcap, ha, hK, u5⟩ | ⟨nr, rfl⟩⟩
  rotate_left
  · refine ⟨rfl, (unhide B4).trans b5, .inr ⟨?_, rfl⟩⟩
    rw [unhide HV]
    show (match takeN 7 (suf data (pos + 1)) with | some (x, r) => (match takeN 2 r with | some (y, r) => takeK (takeV m) 4 x y r (c + 1) | none => none) | none => none) = none
    rw [unhide T3]
    dsimp only
    rw [unhide T4]
    dsimp only
    unfold takeK
    rw [nr]
  have hbs := (unhide B4).size
  have B5 := hide ((unhide B4).trans b5)
  have TR := hide tr
  have HCC := hide (And.intro hcc hc2)
  have HKA := hide ((hK.mono (fresh_sub hbs) fun _ _ _ hv => hv.mono (fresh_sub hbs)) : KAt (Fresh w w5) w5 (XAt (Fresh w w5) w5 (m + 1)) ks a)
  clear b5 tr hcc hc2 hK
  have HKL := hide hkl
  clear hkl ha hcap
  have BZ := hide (unhide B5)
  have FZ := hide f5
  have UZ := hide u5
  clear u5 f5
  go_wp2_with fail
  go_ret
  obtain ⟨q1, q2⟩ := unhide HCC
  refine ⟨unhide BZ, .inl ⟨((4, (x3 : Int), noText, ks) : Tm (m + 2)), c', pos', _, ?_, unhide FZ, by omega, by omega, rfl, ?_, unhide UZ⟩⟩
  · rw [unhide HV]
    show (match takeN 7 (suf data (pos + 1)) with | some (x, r) => (match takeN 2 r with | some (y, r) => takeK (takeV m) 4 x y r (c + 1) | none => none) | none => none) = _
    rw [unhide T3]
    dsimp only
    rw [unhide T4]
    dsimp only
    unfold takeK
    rw [unhide TR]
  · exact ⟨⟨by omega, by have : x3 < 72057594037927936 := unhide L3; omega⟩, by decide, .inr (.inr (.inr (.inr (.inr ⟨a, cap, unhide HKA, by have := unhide HKL; omega, rfl, .inl ⟨rfl, by rw [unhide HKL]; rfl⟩⟩))))⟩

set_option maxRecDepth 40000 in
set_option maxHeartbeats 1000000 in
theorem uv116 (h : UvSaid m) (hu : Unp g c data pos w) (hp : pos ≤ data.size) (hd : data.size ≤ 2 ^ 47) (hdm : d + (m + 1) = 101) (hc : c + 1 ≤ 2000) (htag : takeN 1 (suf data pos) = some (116, suf data (pos + 1))) :
    Calls Tryz.prog 85 #[.pointer (some ⟨g, 0, none⟩), .int .i64 d] w fun e w' => UvEnd (m + 1) g c data pos w e w' := by
  have HV := hide (takeV_tag (m := m) hc htag)
  have hps := hide (upassed_any g c data pos d w hu (by omega) (by omega))
  have hdec : (decide (2000 < c + 1) || decide (100 < d)) = false := by simp; omega
  rw [hdec] at hps
  clear hu hdec
  go_enter Tryz.func85, Tryz.ntmps85
  go_wp2_with fail
  refine (unhide hps).mono ?_
  rintro e w1 ⟨rfl, b1, u1⟩
  have h1 := hide (unumber_any g (c + 1) data pos 1 w1 u1 hp hd (by omega))
  have B1 := hide b1
  clear b1 u1 hps
  go_wp2_with fail
  refine (unhide h1).mono ?_
  rintro e w2 ⟨b2, ⟨f2, ⟨q, t2, _, rfl⟩, u2⟩ | ⟨n2, rfl⟩⟩
  rotate_left
  · rw [htag] at n2; cases n2
  obtain rfl : 116 = q := by
    rw [htag] at t2
    injection t2 with e1
    injection e1
  have B2 := hide ((unhide B1).trans b2)
  clear b2 t2 htag
  have h3 := hide (unumber_any g (c + 1) data (pos + 1) 2 w2 u2 f2 hd (by omega))
  clear u2 f2
  go_wp2_with fail
  refine (unhide h3).mono ?_
  rintro e w3 ⟨b3, ⟨f3, ⟨x3, t3, l3, rfl⟩, u3⟩ | ⟨n3, rfl⟩⟩
  rotate_left
  · refine ⟨rfl, (unhide B2).trans b3, .inr ⟨?_, rfl⟩⟩
    rw [unhide HV]
    show (match takeN 2 (suf data (pos + 1)) with | some (x, r) => takeK (takeV m) 7 0 (2 * x) r (c + 1) | none => none) = none
    rw [n3]
  have B3 := hide ((unhide B2).trans b3)
  have T3 := hide t3
  have L3 := hide l3
  clear b3 t3 l3
  have hlim : x3 < 65536 := unhide L3
  have hr := urow_any m h g (c + 1) (2 * x3) data (pos + 1 + 2) (d + 1) w3 u3 f3 hd (by omega) (by omega) (by omega)
  rw [show ((d + 1 : Nat) : Int) = (d : Int) + 1 from by omega] at hr
  rw [show ((2 * x3 : Nat) : Int) = 2 * (x3 : Int) from by omega] at hr
  have HR := hide hr
  clear u3 f3 hr
  go_wp2_with fail
  refine (unhide HR).mono ?_
  rintro e w4 ⟨b4, ⟨ks, c', pos', a, cap, tr, f4, hcc, hc2, hkl, rfl, hcap, ha, hK, u4⟩ | ⟨nr, rfl⟩⟩
  rotate_left
  · refine ⟨rfl, (unhide B3).trans b4, .inr ⟨?_, rfl⟩⟩
    rw [unhide HV]
    show (match takeN 2 (suf data (pos + 1)) with | some (x, r) => takeK (takeV m) 7 0 (2 * x) r (c + 1) | none => none) = none
    rw [unhide T3]
    dsimp only
    unfold takeK
    rw [nr]
  have hbs := (unhide B3).size
  have B4 := hide ((unhide B3).trans b4)
  have TR := hide tr
  have HCC := hide (And.intro hcc hc2)
  have HKA := hide ((hK.mono (fresh_sub hbs) fun _ _ _ hv => hv.mono (fresh_sub hbs)) : KAt (Fresh w w4) w4 (XAt (Fresh w w4) w4 (m + 1)) ks a)
  clear b4 tr hcc hc2 hK
  have hp1 : x3 ≤ 1000 := by have := (unhide HCC).1; have := (unhide HCC).2; omega
  obtain ⟨vs, hvl, hvs⟩ := (unhide HKA).cellsOf'
  have hpo : Calls Tryz.prog 114 #[.slice a (2 * x3) cap] w4 fun e w' => e = .returned (.slice (some ⟨w4.heap.size, 0, none⟩) x3 x3) ∧ w4.heap.size < w'.heap.size ∧ (∀ j (hj : j < vs.length), w'.cell? ⟨w4.heap.size, j, none⟩ = some vs[j]) ∧ Below w4.heap.size w4 w' := by
    by_cases h0 : x3 = 0
    · subst h0
      exact (pairsOf_nil a cap w4).mono fun e w' hh => ⟨hh.1, hh.2.1, fun j hj => by omega, hh.2.2⟩
    · obtain ⟨R, hR, hRl⟩ := ha.resolve_left (by omega)
      subst hR
      refine pairsOf_any vs (2 * x3) x3 R cap w4 (by omega) rfl hp1 hcap (fun _ => hRl) (fun j hj => ?_) fun v hv => ?_
      · obtain ⟨b, off, e1, _, e2, _⟩ := hvs j (by omega) hj
        cases e1
        simpa using e2
      · obtain ⟨j, hj, rfl⟩ := List.getElem_of_mem hv
        obtain ⟨_, _, _, _, _, e3⟩ := hvs j (by omega) hj
        exact e3.iface
  have HPO := hide hpo
  have HVS := hide hvs
  have HKL := hide hkl
  have HVL := hide hvl
  have hu4 := hide u4
  have hf4 := hide f4
  clear hpo hvs hkl hvl ha hcap u4 f4
  go_wp2_with fail
  refine (unhide HPO).mono ?_
  rintro e w5 ⟨rfl, hs5, hc5, hb5⟩
  have B5 := hide ((unhide B4).below' hb5)
  have u5 := (unhide hu4).below hb5
  have f5 := unhide hf4
  have hbs4 := (unhide B4).size
  have HK5 := hide (show KAt (Fresh w w5) w5 (XAt (Fresh w w5) w5 (m + 1)) ks (some ⟨w4.heap.size, 0, none⟩) from fun j hj => by
    have hj' : j < vs.length := by rw [unhide HVL]; exact hj
    obtain ⟨_, _, _, _, _, e3⟩ := unhide HVS j hj hj'
    refine ⟨w4.heap.size, 0, vs[j], rfl, ⟨hbs4, hs5⟩, by rw [Nat.zero_add]; exact hc5 j hj', (e3.keep fun b hb => hb5.block b hb.2).mono fun b hb => ⟨hb.1, by have := hb.2; omega⟩⟩)
  clear hs5 hc5 hb5 hbs4
  have BZ := hide (unhide B5)
  have FZ := hide f5
  have UZ := hide u5
  clear u5 f5
  go_wp2_with fail
  go_ret
  obtain ⟨q1, q2⟩ := unhide HCC
  refine ⟨unhide BZ, .inl ⟨((7, 0, noText, ks) : Tm (m + 2)), c', pos', _, ?_, unhide FZ, by omega, by omega, rfl, ?_, unhide UZ⟩⟩
  · rw [unhide HV]
    show (match takeN 2 (suf data (pos + 1)) with | some (x, r) => takeK (takeV m) 7 0 (2 * x) r (c + 1) | none => none) = _
    rw [unhide T3]
    dsimp only
    unfold takeK
    rw [unhide TR]
  · have hkl := unhide HKL
    exact ⟨⟨by decide, by decide⟩, by decide, .inr (.inr (.inr (.inr (.inr ⟨some ⟨w4.heap.size, 0, none⟩, x3, unhide HK5, by omega, rfl, .inr (.inr (.inr ⟨rfl, rfl, by omega, by rw [hkl, show 2 * x3 / 2 = x3 by omega]; rfl⟩))⟩))))⟩

set_option maxRecDepth 40000 in
set_option maxHeartbeats 1000000 in
theorem uv107 (hu : Unp g c data pos w) (hp : pos ≤ data.size) (hd : data.size ≤ 2 ^ 47) (hdm : d + (m + 1) = 101) (hc : c + 1 ≤ 2000) (htag : takeN 1 (suf data pos) = some (107, suf data (pos + 1))) :
    Calls Tryz.prog 85 #[.pointer (some ⟨g, 0, none⟩), .int .i64 d] w fun e w' => UvEnd (m + 1) g c data pos w e w' := by
  have HV := hide (takeV_tag (m := m) hc htag)
  have hps := hide (upassed_any g c data pos d w hu (by omega) (by omega))
  have hdec : (decide (2000 < c + 1) || decide (100 < d)) = false := by simp; omega
  rw [hdec] at hps
  clear hu hdec
  go_enter Tryz.func85, Tryz.ntmps85
  go_wp2_with fail
  refine (unhide hps).mono ?_
  rintro e w1 ⟨rfl, b1, u1⟩
  have h1 := hide (unumber_any g (c + 1) data pos 1 w1 u1 hp hd (by omega))
  have B1 := hide b1
  clear b1 u1 hps
  go_wp2_with fail
  refine (unhide h1).mono ?_
  rintro e w2 ⟨b2, ⟨f2, ⟨q, t2, _, rfl⟩, u2⟩ | ⟨n2, rfl⟩⟩
  rotate_left
  · rw [htag] at n2; cases n2
  obtain rfl : 107 = q := by
    rw [htag] at t2
    injection t2 with e1
    injection e1
  have B2 := hide ((unhide B1).trans b2)
  clear b2 t2 htag
  have h3 := hide (unumber_any g (c + 1) data (pos + 1) 2 w2 u2 f2 hd (by omega))
  clear u2 f2
  go_wp2_with fail
  refine (unhide h3).mono ?_
  rintro e w3 ⟨b3, ⟨f3, ⟨x3, t3, l3, rfl⟩, u3⟩ | ⟨n3, rfl⟩⟩
  rotate_left
  · refine ⟨rfl, (unhide B2).trans b3, .inr ⟨?_, rfl⟩⟩
    rw [unhide HV]
    show (match takeN 2 (suf data (pos + 1)) with | some (x, r) => (match takeB x r with | some (s, r) => some (((8, 0, noText, s.map fun b => leafT m 1 b noText) : Tm (m + 2)), r, c + 1) | none => none) | none => none) = none
    rw [n3]
  have B3 := hide ((unhide B2).trans b3)
  have T3 := hide t3
  have L3 := hide l3
  clear b3 t3 l3
  have hlim : x3 < 65536 := unhide L3
  have h4 := hide (ubytes_any g (c + 1) data (pos + 1 + 2) x3 w3 u3 f3 hd (by omega))
  have F3 := hide f3
  clear u3 f3
  go_wp2_with fail
  refine (unhide h4).mono ?_
  rintro e w4 ⟨b4, ⟨f4, rfl, u4⟩ | ⟨n4, rfl⟩⟩
  rotate_left
  · refine ⟨rfl, (unhide B3).trans b4, .inr ⟨?_, rfl⟩⟩
    rw [unhide HV]
    show (match takeN 2 (suf data (pos + 1)) with | some (x, r) => (match takeB x r with | some (s, r) => some (((8, 0, noText, s.map fun b => leafT m 1 b noText) : Tm (m + 2)), r, c + 1) | none => none) | none => none) = none
    rw [unhide T3]
    dsimp only
    rw [take_no (unhide F3) n4]
  have B4 := hide ((unhide B3).trans b4)
  have T4 := hide (take_yes f4)
  obtain ⟨xs, hxs⟩ : ∃ xs, xs = (suf data (pos + 1 + 2)).take x3 := ⟨_, rfl⟩
  have hxb : ∀ y ∈ xs, B8 y := fun y hy => suf_byte data _ y (by rw [hxs] at hy; exact List.mem_of_mem_take hy)
  have hxl : xs.length = x3 := by rw [hxs, List.length_take, suf_length]; omega
  have hbl := hide (byteList_any m xs (strOfNums xs) w4 (txtL_nums xs hxb) (by omega))
  rw [← hxs] at T4 ⊢
  obtain ⟨S, hS⟩ : ∃ S, S = strOfNums xs := ⟨_, rfl⟩
  rw [← hS] at hbl ⊢
  have hu4 := hide u4
  have hf4 := hide f4
  have HXL := hide hxl
  clear b4 hxs hS hxl hxb u4 f4
  go_wp2_with fail
  refine (unhide hbl).mono ?_
  rintro e w5 ⟨hb5, a5, cap5, rfl, hK5⟩
  have B5 := hide ((unhide B4).below' hb5)
  have u5 := (unhide hu4).below hb5
  have f5 := unhide hf4
  have hbs4 := (unhide B4).size
  have HK5 := hide (hK5.mono (fresh_sub hbs4) (fun _ _ _ hv => hv.mono (fresh_sub hbs4)) : KAt (Fresh w w5) w5 (XAt (Fresh w w5) w5 (m + 1)) (xs.map fun b => leafT m 1 b noText) a5)
  clear hb5 hK5 hbs4
  have BZ := hide (unhide B5)
  have FZ := hide f5
  have UZ := hide u5
  clear u5 f5
  go_wp2_with fail
  go_ret
  refine ⟨unhide BZ, .inl ⟨((8, 0, noText, xs.map fun b => leafT m 1 b noText) : Tm (m + 2)), c + 1, pos + 1 + 2 + x3, _, ?_, unhide FZ, by omega, by omega, rfl, ?_, unhide UZ⟩⟩
  · rw [unhide HV]
    show (match takeN 2 (suf data (pos + 1)) with | some (x, r) => (match takeB x r with | some (s, r) => some (((8, 0, noText, s.map fun b => leafT m 1 b noText) : Tm (m + 2)), r, c + 1) | none => none) | none => none) = _
    rw [unhide T3]
    dsimp only
    rw [unhide T4]
    rfl
  · exact ⟨⟨by decide, by decide⟩, by decide, .inr (.inr (.inr (.inr (.inr ⟨a5, cap5, unhide HK5, by rw [List.length_map, unhide HXL]; omega, rfl, .inr (.inr (.inl ⟨rfl, rfl, by rw [List.length_map]; rfl⟩))⟩))))⟩

end
end Go.Proofs.YthfjgffhncogaaaGreat
