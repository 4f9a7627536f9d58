/- impl's unpacker: value at every byte, whole. -/
import Derived.Test.YthfjgffhncogaaaGreatUn5
import Derived.Test.YthfjgffhncogaaaGreatQ27
import Derived.Test.YthfjgffhncogaaaGreatUn3
namespace Go.Proofs.YthfjgffhncogaaaGreat
open Go.RowKit Go.Deep

section
variable (m g c : Nat) (data : ByteArray) (pos d : Nat) (w : World)

set_option maxRecDepth 40000 in
set_option maxHeartbeats 1000000 in
/-- Too many, or too deep. -/
theorem uv_much (hu : Unp g c data pos w) (hc : c ≤ 2000) (hd2 : d ≤ 101) (hbig : 2000 < c + 1 ∨ 100 < d) (hv : takeV m (suf data pos) c = none) :
    Calls Tryz.prog 85 #[.pointer (some ⟨g, 0, none⟩), .int .i64 d] w fun e w' => UvEnd m g c data pos w e w' := by
  have HV := hide hv
  have hps := hide (upassed_any g c data pos d w hu hc (by omega))
  have hdec : (decide (2000 < c + 1) || decide (100 < d)) = true := by simp; omega
  rw [hdec] at hps
  clear hu hdec hv hbig
  go_enter Tryz.func85, Tryz.ntmps85
  go_wp2_with fail
  refine (unhide hps).mono ?_
  rintro e w1 ⟨rfl, b1, u1⟩
  have B1 := hide b1
  clear b1 u1
  go_wp2_with fail
  exact ⟨rfl, unhide B1, .inr ⟨unhide HV, rfl⟩⟩

set_option maxRecDepth 40000 in
set_option maxHeartbeats 1000000 in
/-- No byte is left. -/
theorem uv_out (hu : Unp g c data pos w) (hp : pos ≤ data.size) (hd : data.size ≤ 2 ^ 47) (hdm : d + (m + 1) = 101) (hc : c + 1 ≤ 2000) (hno : takeN 1 (suf data pos) = none) :
    Calls Tryz.prog 85 #[.pointer (some ⟨g, 0, none⟩), .int .i64 d] w fun e w' => UvEnd (m + 1) g c data pos w e w' := by
  have HV := hide (show takeV (m + 1) (suf data pos) c = none by
    show (if 2000 < c + 1 then none else match takeN 1 (suf data pos) with | none => none | some (tag, r) => takeT (takeV m) tag r (c + 1)) = _
    rw [if_neg (by omega), hno])
  have hps := hide (upassed_any g c data pos d w hu (by omega) (by omega))
  have hdec : (decide (2000 < c + 1) || decide (100 < d)) = false := by simp; omega
  rw [hdec] at hps
  clear hu hdec
  go_enter Tryz.func85, Tryz.ntmps85
  go_wp2_with fail
  refine (unhide hps).mono ?_
  rintro e w1 ⟨rfl, b1, u1⟩
  have h1 := hide (unumber_any g (c + 1) data pos 1 w1 u1 hp hd (by omega))
  have B1 := hide b1
  clear b1 u1 hps
  go_wp2_with fail
  refine (unhide h1).mono ?_
  rintro e w2 ⟨b2, ⟨f2, ⟨q, t2, _, rfl⟩, u2⟩ | ⟨n2, rfl⟩⟩
  · rw [hno] at t2; cases t2
  · exact ⟨rfl, (unhide B1).trans b2, .inr ⟨unhide HV, rfl⟩⟩

set_option maxRecDepth 40000 in
set_option maxHeartbeats 1000000 in
/-- A byte with which no term begins. -/
theorem uv_else (tag : Nat) (hu : Unp g c data pos w) (hp : pos ≤ data.size) (hd : data.size ≤ 2 ^ 47) (hdm : d + (m + 1) = 101) (hc : c + 1 ≤ 2000) (htag : takeN 1 (suf data pos) = some (tag, suf data (pos + 1)))
    (n1 : ¬ (tag : Int) = 97) (n2 : ¬ (tag : Int) = 98) (n3 : ¬ (tag : Int) = 119) (n4 : ¬ (tag : Int) = 114) (n5 : ¬ (tag : Int) = 103) (n6 : ¬ (tag : Int) = 112) (n7 : ¬ (tag : Int) = 104) (n8 : ¬ (tag : Int) = 105) (n9 : ¬ (tag : Int) = 116)
    (n10 : ¬ (tag : Int) = 106) (n11 : ¬ (tag : Int) = 107) (n12 : ¬ (tag : Int) = 108) (n13 : ¬ (tag : Int) = 109) :
    Calls Tryz.prog 85 #[.pointer (some ⟨g, 0, none⟩), .int .i64 d] w fun e w' => UvEnd (m + 1) g c data pos w e w' := by
  have HV := hide (show takeV (m + 1) (suf data pos) c = none by
    rw [takeV_tag hc htag]
    unfold takeT
    rw [if_neg n1, if_neg n2, if_neg n3, if_neg n4, if_neg n5, if_neg n6, if_neg n7, if_neg n8, if_neg n9, if_neg n10, if_neg n11, if_neg n12, if_neg n13])
  have hps := hide (upassed_any g c data pos d w hu (by omega) (by omega))
  have hdec : (decide (2000 < c + 1) || decide (100 < d)) = false := by simp; omega
  rw [hdec] at hps
  clear hu hdec
  go_enter Tryz.func85, Tryz.ntmps85
  go_wp2_with fail
  refine (unhide hps).mono ?_
  rintro e w1 ⟨rfl, b1, u1⟩
  have h1 := hide (unumber_any g (c + 1) data pos 1 w1 u1 hp hd (by omega))
  have B1 := hide b1
  clear b1 u1 hps
  go_wp2_with fail
  refine (unhide h1).mono ?_
  rintro e w2 ⟨b2, ⟨f2, ⟨q, t2, _, rfl⟩, u2⟩ | ⟨nn, rfl⟩⟩
  rotate_left
  · rw [htag] at nn; cases nn
  obtain rfl : tag = q := by
    rw [htag] at t2
    injection t2 with e1
    injection e1
  have B2 := hide ((unhide B1).trans b2)
  clear b2 t2 htag u2 f2
  go_wp2_with fail
  exact ⟨rfl, unhide B2, .inr ⟨unhide HV, rfl⟩⟩

theorem takeN_at (data : ByteArray) (pos : Nat) (hp : pos ≤ data.size) : takeN 1 (suf data pos) = none ∨ ∃ tag, takeN 1 (suf data pos) = some (tag, suf data (pos + 1)) := by
  unfold takeN
  by_cases h : pos + 1 ≤ data.size
  · rw [take_yes h]
    exact .inr ⟨_, rfl⟩
  · rw [take_no hp h]
    exact .inl rfl

theorem uval_of (h : UvSaid m) : UvSaid (m + 1) := by
  intro g c data pos d w hu hp hd hdm hc
  by_cases h1 : 2000 < c + 1
  · refine uv_much _ g c data pos d w hu hc (by omega) (.inl h1) ?_
    show (if 2000 < c + 1 then none else match takeN 1 (suf data pos) with | none => none | some (tag, r) => takeT (takeV m) tag r (c + 1)) = _
    rw [if_pos h1]
  · have hc1 : c + 1 ≤ 2000 := by omega
    rcases takeN_at data pos hp with hno | ⟨tag, htag⟩
    · exact uv_out m g c data pos d w hu hp hd hdm hc1 hno
    · by_cases n1 : tag = 97
      · subst n1; exact uv97 m g c data pos d w hu hp hd hdm hc1 htag
      by_cases n2 : tag = 98
      · subst n2; exact uv98 m g c data pos d w hu hp hd hdm hc1 htag
      by_cases n3 : tag = 119
      · subst n3; exact uv119 m g c data pos d w hu hp hd hdm hc1 htag
      by_cases n4 : tag = 114
      · subst n4; exact uv114 m g c data pos d w hu hp hd hdm hc1 htag
      by_cases n5 : tag = 103
      · subst n5; exact uv103 m g c data pos d w hu hp hd hdm hc1 htag
      by_cases n6 : tag = 112
      · subst n6; exact uv112 m g c data pos d w h hu hp hd hdm hc1 htag
      by_cases n7 : tag = 104
      · subst n7; exact uv104 m g c data pos d w h hu hp hd hdm hc1 htag
      by_cases n8 : tag = 105
      · subst n8; exact uv105 m g c data pos d w h hu hp hd hdm hc1 htag
      by_cases n9 : tag = 116
      · subst n9; exact uv116 m g c data pos d w h hu hp hd hdm hc1 htag
      by_cases n10 : tag = 106
      · subst n10; exact uv106 m g c data pos d w hu hp hd hdm hc1 htag
      by_cases n11 : tag = 107
      · subst n11; exact uv107 m g c data pos d w hu hp hd hdm hc1 htag
      by_cases n12 : tag = 108
      · subst n12; exact uv108 m g c data pos d w h hu hp hd hdm hc1 htag
      by_cases n13 : tag = 109
      · subst n13; exact uv109 m g c data pos d w hu hp hd hdm hc1 htag
      exact uv_else m g c data pos d w tag hu hp hd hdm hc1 htag (by omega) (by omega) (by omega) (by omega) (by omega) (by omega) (by omega) (by omega) (by omega) (by omega) (by omega) (by omega) (by omega)

theorem uval_any : ∀ m, UvSaid m
  | 0 => fun g c data pos d w hu _ _ hdm hc => uv_much 0 g c data pos d w hu hc (by omega) (.inr (by omega)) rfl
  | m + 1 => uval_of m (uval_any m)

/-- What whole takes: the first byte, then a term. -/
def wholeT (data : ByteArray) : Option (Tm 101 × List Int × Nat) := match takeN 1 (suf data 0) with
  | some (q, r) => if q = 131 then takeV 100 r 0 else none
  | none => none

set_option maxRecDepth 40000 in
set_option maxHeartbeats 1000000 in
theorem whole_any (hu : Unp g 0 data 0 w) (hd : data.size ≤ 2 ^ 47) :
    Calls Tryz.prog 45 #[.pointer (some ⟨g, 0, none⟩)] w fun e w' => But g w w' ∧ ((∃ t r c' v, wholeT data = some (t, r, c') ∧ e = .returned v ∧ XAt (Fresh w w') w' 101 t v) ∨ (wholeT data = none ∧ e = formE)) := by
  have h1 := hide (unumber_any g 0 data 0 1 w hu (Nat.zero_le _) hd (by omega))
  clear hu
  go_enter Tryz.func45, Tryz.ntmps45
  go_wp2_with fail
  refine (unhide h1).mono ?_
  rintro e w1 ⟨b1, ⟨f1, ⟨q, t1, l1, rfl⟩, u1⟩ | ⟨n1, rfl⟩⟩
  rotate_left
  · refine ⟨rfl, b1, .inr ⟨?_, rfl⟩⟩
    unfold wholeT
    rw [n1]
  have B1 := hide b1
  have T1 := hide t1
  by_cases hq : q = 131
  · subst hq
    have h2 := hide (uval_any 100 g 0 data (0 + 1) 1 w1 u1 f1 hd (by omega) (by omega))
    clear b1 t1 u1 f1
    go_wp2_with fail
    refine (unhide h2).mono ?_
    rintro e w2 ⟨b2, ⟨t, c', p', v, ht, _, _, _, rfl, hx, _⟩ | ⟨n2, rfl⟩⟩
    rotate_left
    · refine ⟨rfl, (unhide B1).trans b2, .inr ⟨?_, rfl⟩⟩
      unfold wholeT
      rw [unhide T1]
      dsimp only
      rw [if_pos rfl, n2]
    have hbs := (unhide B1).size
    have B2 := hide ((unhide B1).trans b2)
    have HT := hide ht
    have HX := hide (hx.mono (fresh_sub hbs))
    clear b2 ht hx
    go_wp2_with fail
    go_ret
    refine ⟨unhide B2, .inl ⟨t, suf data p', c', v, ?_, rfl, unhide HX⟩⟩
    unfold wholeT
    rw [unhide T1]
    dsimp only
    rw [if_pos rfl, unhide HT]
  · have hq2 : ((q : Int) != 131) = true := by simp; omega
    have hq3 : ¬ (q : Int) = 131 := by omega
    have HQ := hide hq
    clear b1 t1 u1 f1 hq
    go_wp2_with fail
    refine ⟨rfl, unhide B1, .inr ⟨?_, rfl⟩⟩
    unfold wholeT
    rw [unhide T1]
    dsimp only
    rw [if_neg (unhide HQ)]

end
end Go.Proofs.YthfjgffhncogaaaGreat
/- spec's taker: what it holds; take, l01Number. -/
namespace Go.Proofs.YthfjgffhncogaaaGreat
open Go.RowKit Go.Deep

/-- The taker in block g. -/
def Tkr (g c : Nat) (data : ByteArray) (pos : Nat) (bad : Bool) (w : World) : Prop := w.heap[g]? = some (.cells #[.string data, .int .i64 pos, .bool bad, .int .i64 c, .slice none 0 0] 84 (0, 0))
theorem Tkr.lt {g c pos : Nat} {data : ByteArray} {bad : Bool} {w : World} (h : Tkr g c data pos bad w) : g < w.heap.size := (Array.getElem?_eq_some_iff.1 h).1
theorem Tkr.cells {g c pos : Nat} {data : ByteArray} {bad : Bool} {w : World} (h : Tkr g c data pos bad w) : w.cell? ⟨g, 0, none⟩ = some (.string data) ∧ w.cell? ⟨g, 1, none⟩ = some (.int .i64 pos) ∧ w.cell? ⟨g, 2, none⟩ = some (.bool bad) ∧ w.cell? ⟨g, 3, none⟩ = some (.int .i64 c) ∧ w.cell? ⟨g, 4, none⟩ = some (.slice none 0 0) :=
  ⟨cell_of_heap h 0, cell_of_heap h 1, cell_of_heap h 2, cell_of_heap h 3, cell_of_heap h 4⟩
theorem Tkr.setPos {g c pos : Nat} {data : ByteArray} {bad : Bool} {w : World} (h : Tkr g c data pos bad w) (p : Nat) : Tkr g c data p bad (w.setCell ⟨g, 1, none⟩ (.int .i64 p)) := Row.setHeap h 1 (.int .i64 p)
theorem Tkr.setBad {g c pos : Nat} {data : ByteArray} {bad : Bool} {w : World} (h : Tkr g c data pos bad w) : Tkr g c data pos true (w.setCell ⟨g, 2, none⟩ (.bool true)) := Row.setHeap h 2 (.bool true)
theorem Tkr.setCount {g c pos : Nat} {data : ByteArray} {bad : Bool} {w : World} (h : Tkr g c data pos bad w) (c' : Nat) : Tkr g c' data pos bad (w.setCell ⟨g, 3, none⟩ (.int .i64 c')) := Row.setHeap h 3 (.int .i64 c')
theorem Tkr.below {g c pos : Nat} {data : ByteArray} {bad : Bool} {w w' : World} (h : Tkr g c data pos bad w) (hb : Below w.heap.size w w') : Tkr g c data pos bad w' := (hb.block g h.lt).trans h

/-- Behind taking n bytes. -/
def TakeEnd (g c : Nat) (data : ByteArray) (pos n : Nat) (w : World) (e : Ending) (w' : World) : Prop :=
  But g w w' ∧ ((pos + n ≤ data.size ∧ e = .returned (.string (strOfNums ((suf data pos).take n))) ∧ Tkr g c data (pos + n) false w') ∨ (¬ pos + n ≤ data.size ∧ e = .returned (.string noText) ∧ Tkr g c data pos true w'))

set_option maxRecDepth 40000 in
set_option maxHeartbeats 1000000 in
theorem take_bad (g c : Nat) (data : ByteArray) (pos n : Nat) (w : World) (hu : Tkr g c data pos true w) :
    Calls Tryz.prog 87 #[.pointer (some ⟨g, 0, none⟩), .int .i64 n] w fun e w' => But g w w' ∧ e = .returned (.string noText) ∧ Tkr g c data pos true w' := by
  obtain ⟨c0, c1, c2, c3, c4⟩ := hu.cells
  have hfr := frozen_of_heap hu 2
  have HU := hide hu
  clear hu c3 c4
  go_enter Tryz.func87, Tryz.ntmps87
  go_upto_region 1 with fail
  go_quiet (fail)
  have HU1 := hide (show Tkr g c data pos true (w.drewN nq) from unhide HU)
  have HB1 := hide ((But.refl g w).drewN nq)
  have c2' : (w.drewN nq).cell? ⟨g, 2, none⟩ = some (.bool true) := c2
  have hfr' : (w.drewN nq).frozen? ⟨g, 2, none⟩ = false := hfr
  clear c0 c1 c2 hfr
  generalize w.drewN nq = w1 at HU1 HB1 c2' hfr' ⊢
  go_wp2_with fail
  go_ret
  exact ⟨(unhide HB1).set 2 _, rfl, (unhide HU1).setBad⟩

set_option maxRecDepth 40000 in
set_option maxHeartbeats 1000000 in
theorem take_cut (g c : Nat) (data : ByteArray) (pos n : Nat) (w : World) (hu : Tkr g c data pos false w) (hp : pos ≤ data.size) (hd : data.size ≤ 2 ^ 47) (hn : n ≤ 2 ^ 47) :
    Calls Tryz.prog 87 #[.pointer (some ⟨g, 0, none⟩), .int .i64 n] w fun e w' => TakeEnd g c data pos n w e w' := by
  obtain ⟨c0, c1, c2, c3, c4⟩ := hu.cells
  have hfr := frozen_of_heap hu 2
  have hfs := frozen_of_heap hu 1
  have HU := hide hu
  have hct := hide (cut_text data pos n)
  clear hu c3 c4
  by_cases hfit : pos + n ≤ data.size
  · have h1 : ¬ (data.size : Int) - (pos : Int) < (n : Int) := by omega
    have h2 : (pos : Int) + (n : Int) ≤ (data.size : Int) := by omega
    have h3 : (pos : Int) ≤ (pos : Int) + (n : Int) := by omega
    have h4 : (0 : Int) ≤ (pos : Int) := by omega
    have h5 : (pos : Int) + (n : Int) - (n : Int) = (pos : Int) := by omega
    have HF := hide hfit
    go_enter Tryz.func87, Tryz.ntmps87
    go_upto_region 1 with fail
    go_quiet (fail)
    have HU1 := hide (show Tkr g c data pos false (w.drewN nq) from unhide HU)
    have HB1 := hide ((But.refl g w).drewN nq)
    have c1' : (w.drewN nq).cell? ⟨g, 1, none⟩ = some (.int .i64 pos) := c1
    have hfs' : (w.drewN nq).frozen? ⟨g, 1, none⟩ = false := hfs
    clear c0 c1 c2 hfr hfs
    generalize w.drewN nq = w1 at HU1 HB1 c1' hfs' ⊢
    go_upto_region 5 with fail
    have hu2 := (unhide HU1).setPos (pos + n)
    have HB2 := hide ((unhide HB1).set 1 (.int .i64 ((pos : Int) + (n : Int))))
    obtain ⟨w2, hw2⟩ : ∃ w2, w2 = w1.setCell ⟨g, 1, none⟩ (.int .i64 ((pos : Int) + (n : Int))) := ⟨_, rfl⟩
    rw [show (w1.setCell ⟨g, 1, none⟩ (.int .i64 ((pos + n : Nat) : Int))) = w2 by rw [hw2]; rfl] at hu2
    rw [← hw2] at HB2 ⊢
    obtain ⟨d0, d1, _, _, _⟩ := hu2.cells
    rw [show ((pos + n : Nat) : Int) = (pos : Int) + (n : Int) by omega] at d1
    have HU2 := hide hu2
    clear hw2 hu2 HU HU1 HB1 c1' hfs'
    go_quiet (fail)
    have HU3 := hide (show Tkr g c data (pos + n) false (w2.drewN nq) from unhide HU2)
    have HB3 := hide ((unhide HB2).drewN nq)
    clear HU2 HB2 d0 d1
    generalize w2.drewN nq = w3 at HU3 HB3 ⊢
    rw [unhide hct]
    go_wp2_with fail
    go_ret
    exact ⟨unhide HB3, .inl ⟨unhide HF, rfl, unhide HU3⟩⟩
  · have h1 : (data.size : Int) - (pos : Int) < (n : Int) := by omega
    have HF := hide hfit
    clear hfit
    go_enter Tryz.func87, Tryz.ntmps87
    go_upto_region 1 with fail
    go_quiet (fail)
    have HU1 := hide (show Tkr g c data pos false (w.drewN nq) from unhide HU)
    have HB1 := hide ((But.refl g w).drewN nq)
    have c2' : (w.drewN nq).cell? ⟨g, 2, none⟩ = some (.bool false) := c2
    have hfr' : (w.drewN nq).frozen? ⟨g, 2, none⟩ = false := hfr
    clear c0 c1 c2 hfr hfs
    generalize w.drewN nq = w1 at HU1 HB1 c2' hfr' ⊢
    go_wp2_with fail
    go_ret
    exact ⟨(unhide HB1).set 2 _, .inr ⟨unhide HF, rfl, (unhide HU1).setBad⟩⟩

set_option maxRecDepth 40000 in
set_option maxHeartbeats 1000000 in
theorem snumber_any (S : ByteArray) (w : World) (hS : S.size ≤ 7) :
    Calls Tryz.prog 88 #[.string S] w fun e w' => e = .returned (.int .i64 (numL (txtL S))) ∧ w' = w := by
  obtain ⟨x, hx⟩ : ∃ x, x = txtL S := ⟨_, rfl⟩
  have hxl : x.length = S.size := by rw [hx, txtL_length]
  have hxb : ∀ y ∈ x, B8 y := fun y hy => txtL_byte S y (by rw [← hx]; exact hy)
  rw [← hx]
  have HX := hide hx
  have HXL := hide hxl
  have HXB := hide hxb
  clear hx hxl hxb
  go_enter Tryz.func88, Tryz.ntmps88
  go_wp2_with fail
  go_loopw [3, 4] (fun nv iv wr => ∃ i : Nat, i ≤ S.size ∧ iv = .int .i64 i ∧ nv = .int .i64 (numL (x.take i)) ∧ wr = w) (fun _ iv _ => S.size - (intOf iv).toNat)
  case atStart => exact ⟨0, Nat.zero_le _, rfl, rfl, rfl⟩
  case round =>
    obtain ⟨i, hi, rfl, rfl, rfl⟩ := hrel
    have hxl := unhide HXL
    by_cases hlt : i < S.size
    · have hbd := numL_lt (x.take i) fun y hy => unhide HXB y (List.mem_of_mem_take hy)
      have hpow : (256 : Int) ^ (x.take i).length ≤ 281474976710656 := by
        rw [List.length_take, hxl, Nat.min_eq_left hi]
        rcases (show i = 0 ∨ i = 1 ∨ i = 2 ∨ i = 3 ∨ i = 4 ∨ i = 5 ∨ i = 6 by omega) with rfl | rfl | rfl | rfl | rfl | rfl | rfl <;> decide
      have hst := hide (numL_take x i (by omega))
      have hel : ((S[i]'(by omega)).toNat : Int) = x[i]'(by omega) := by
        have h1 := txtL_take S i (by omega)
        rw [← unhide HX, List.take_succ_eq_append_getElem (by omega)] at h1
        have h2 := List.append_cancel_left h1
        injection h2 with h3 h4
        exact h3.symm
      have hsi : (i : Int) < (S.size : Int) := by omega
      have hb8 : (S[i]'(by omega)).toNat < 256 := (S[i]'(by omega)).toNat_lt
      obtain ⟨a, ha⟩ : ∃ a, a = numL (x.take i) := ⟨_, rfl⟩
      rw [← ha] at hbd hst ⊢
      obtain ⟨b8, hb8e⟩ : ∃ b8, b8 = x[i]'(by omega) := ⟨_, rfl⟩
      rw [← hb8e] at hel
      obtain ⟨hbd0, hbd1⟩ := hbd
      have HA := hide ha
      have HB8 := hide hb8e
      have hbd2 : a < 281474976710656 := by omega
      clear ha hb8e hpow hbd1
      go_wp2_with fail
      go_roundw
      case rel => exact ⟨i + 1, hlt, by go_num, by rw [unhide hst, ← unhide HB8], by first | rfl | trivial⟩
      case measure => simp [intOf]; omega
    · have hkk : i = S.size := by omega
      subst hkk
      rw [show x.take S.size = x by rw [← hxl, List.take_length]]
      go_wp2_with fail
      go_ret
      exact ⟨rfl, rfl⟩

end Go.Proofs.YthfjgffhncogaaaGreat
