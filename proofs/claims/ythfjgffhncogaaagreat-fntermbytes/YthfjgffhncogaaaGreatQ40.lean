/- spec's l01Pack of Lists that are not empty. -/
import Derived.Test.YthfjgffhncogaaaGreatQ39
import Derived.Test.YthfjgffhncogaaaGreatQ24
import Derived.Defers
import Derived.Recover
import Derived.Test.YthfjgffhncogaaaGreatPkv
import Derived.Deep.RegionWith
namespace Go.Proofs.YthfjgffhncogaaaGreat
open Go.RowKit Go.Deep

set_option maxRecDepth 40000 in
set_option maxHeartbeats 1000000 in
theorem sp_lst1 {n : Nat} (h : SpSaid n) (ks : List (Tm n)) (m : Int) (s : ByteArray) (a : Option Addr) (cap : Nat) (v : Value) (N B : Nat) (xs : List Int) (w : World) (hs : SAt (Under B) w (TAt (Under B) w n) ks (.slice a ks.length cap)) (hr : ks.all (rightB n) = true) (hz : ∀ t ∈ ks, siz n t ≤ 2000)
    (hv : w.ownsRow B 5 1 v N (u8c xs)) (hB : B ≤ w.heap.size) (hN : N + 10 + 10 * ks.length + 10 * totS ks ≤ 2 ^ 40) (h0 : ks.length ≠ 0) (hall : ks.all (smallB n) = false) (hl2 : ks.length ≤ 2 ^ 40) :
    Calls Tryz.prog 41 #[v, .agg #[.int .i64 8, .int .i64 m, .string s, .slice a ks.length cap]] w fun e w' => PkEnd B v xs (108 :: beL ks.length 2 ++ packS ks) w e w' := by
  obtain ⟨b, hb⟩ : ∃ b, b = w.heap.size := ⟨_, rfl⟩
  have hp0 : Sp B b #[.int .i64 8, .int .i64 m, .string s, .slice a ks.length cap] w v v N xs (w.alloc (.cells #[.int .i64 8, .int .i64 m, .string s, .slice a ks.length cap] 26)) := by rw [hb]; exact Sp.start hv hB
  obtain ⟨w0, hw0⟩ : ∃ w0, w0 = w.alloc (.cells #[.int .i64 8, .int .i64 m, .string s, .slice a ks.length cap] 26) := ⟨_, rfl⟩
  rw [← hw0] at hp0
  obtain ⟨i0, hi0, hz0, hz1, hz2⟩ := info_parts info_byte
  have hbl := hp0.blk
  have p0 : w0.cell? ⟨b, 0, none⟩ = some (.int .i64 8) := cell_of_heap hbl 0
  have p3 : w0.cell? ⟨b, 3, none⟩ = some (.slice a ks.length cap) := cell_of_heap hbl 3
  have hsp := hide hp0
  have HW := hide hw0
  have hrow := hide (fun (W : World) (v' : Value) (N' : Nat) (xs' : List Int) (hsp : Sp B b #[.int .i64 8, .int .i64 m, .string s, .slice a ks.length cap] w v v' N' xs' W) (hn : N' ≤ N + 10) => spAll_any ks a cap v' N' B xs' W h (hs.below hsp.below fun _ h => h) hr hz hsp.own hsp.base (by omega))
  have hmx1a := hide (show N + 1 ≤ maxLen by unfold maxLen; omega)
  have hmx1b := hide (show (N + 1) * 1 ≤ 140737488355328 by omega)
  have hone1 := hide (show ∀ u ∈ ([.int .u8 108] : List Value), u.oneCell' = true by intro u hu; simp at hu; subst hu; rfl)
  have hby2 := fun W => bytes_any (ks.length) 2 W (by omega) (by omega) (by omega)
  have hty2 := txtL_nums (beL (ks.length) 2) (beL_byte (ks.length) 2)
  obtain ⟨S, hS2⟩ : ∃ S, S = strOfNums (beL (ks.length) 2) := ⟨_, rfl⟩
  rw [← hS2] at hty2
  simp only [← hS2] at hby2
  have hsz2 : S.size = 2 := by rw [← txtL_length, hty2, beL_length]
  have hmx2a := hide (show N + 1 + S.size ≤ maxLen by rw [hsz2]; unfold maxLen; omega)
  have hmx2b := hide (show N + 1 + S.size ≤ 140737488355328 by rw [hsz2]; omega)
  have HBY2 := hide hby2
  have HTY2 := hide hty2
  clear hS2 hsz2 hby2 hty2
  have hq2 : S.size = 2 := by rw [← txtL_length, unhide HTY2, beL_length]
  have hbn := hide (show N + 1 + S.size ≤ N + 10 by omega)
  clear hq2
  have h0' : ¬ (ks.length : Int) = 0 := by omega
  have hsm := small_any ks a cap B w0 (hs.below hp0.below fun _ h => h)
  rw [hall] at hsm
  have HSM := hide hsm
  clear hsm
  have HSA := hide hs
  clear hp0 hv hbl hB h hs hr hz hall h0
  go_enter Tryz.func41, Tryz.ntmps41
  go_upto_region 1 with fail
  rw [← hb, ← hw0]
  clear hw0 hb
  go_upto_region 29 with (go_at_call 82; refine (unhide HSM).mono ?_; rintro e w' ⟨rfl, rfl⟩)
  have hsp := hide (unhide hsp).drew
  go_region_held3 (fun W => (W.cell? ⟨b, 1, none⟩ = some (.int .i64 m) ∧ W.cell? ⟨b, 2, none⟩ = some (.string s) ∧ W.cell? ⟨b, 3, none⟩ = some (.slice a ks.length cap)) ∧ Bx B b #[.int .i64 8, .int .i64 m, .string s, .slice a ks.length cap] w W)
    (first | exact Sp.all (unhide hsp) | exact Sp.all (Sp.alloc (unhide hsp) _))
    (first
      | (refine step_append_cells _ rfl (.tmp 147) (.tmp 148) 22 rfl B 5 i0 (.int .u8 0) 1 1 Tryz.underlying22 hi0 hz0 hz1 hz2 rfl (by decide) _ (N) _ rfl (Sp.alloc (unhide hsp) _).own _ 1 1 [.int .u8 108] rfl rfl (World.news_of_block (cs := #[.int .u8 108]) (heap_new _ _)) (unhide hone1) (unhide hmx1a) (unhide hmx1b) (Sp.alloc (unhide hsp) _).base ?_; intro v1 W1 ho1 hg1 hat1; have hsp := hide ((Sp.alloc (unhide hsp) _).cells (ys := [108]) ho1 hg1 hat1); clear ho1 hg1 hat1)
      | (go_at_call 80; refine (unhide HBY2 _).mono ?_; rintro e W2 ⟨rfl, hb2⟩; have hsp := hide ((unhide hsp).call hb2); clear hb2)
      | (refine step_append_text _ rfl (.tmp 149) (.tmp 151) 22 9 rfl B 5 i0 Tryz.underlying22 Tryz.underlying9 hi0 hz0 hz1 hz2 _ (N + 1) _ rfl (unhide hsp).own _ rfl (unhide hmx2a) (unhide hmx2b) (unhide hsp).base ?_; intro v2 W3 ho2 hg2 hat2; have hsp := hide ((unhide hsp).text ho2 hg2 hat2); clear ho2 hg2 hat2)
      | (go_at_call 81; refine ((unhide hrow) _ _ _ _ (unhide hsp) (unhide hbn)).mono ?_; rintro e W4 hpe; obtain ⟨v4, rfl, hsp4⟩ := (unhide hsp).pack hpe rfl; have hsp := hide hsp4; clear hpe hsp4))
  go_wp2_with fail
  go_ret
  exact Sp.done (unhide hsp) (by rw [unhide HTY2]; simp)

set_option maxRecDepth 40000 in
set_option maxHeartbeats 1000000 in
theorem sp_lst2 {n : Nat} (h : SpSaid n) (ks : List (Tm n)) (m : Int) (s : ByteArray) (a : Option Addr) (cap : Nat) (v : Value) (N B : Nat) (xs : List Int) (w : World) (hs : SAt (Under B) w (TAt (Under B) w n) ks (.slice a ks.length cap)) (hr : ks.all (rightB n) = true) (hz : ∀ t ∈ ks, siz n t ≤ 2000)
    (hv : w.ownsRow B 5 1 v N (u8c xs)) (hB : B ≤ w.heap.size) (hN : N + 10 + 10 * ks.length + 10 * totS ks ≤ 2 ^ 40) (h0 : ks.length ≠ 0) (hall : ks.all (smallB n) = true) (hl2 : ks.length ≤ 2 ^ 40) :
    Calls Tryz.prog 41 #[v, .agg #[.int .i64 8, .int .i64 m, .string s, .slice a ks.length cap]] w fun e w' => PkEnd B v xs (107 :: (beL ks.length 2 ++ ks.map (numT n))) w e w' := by
  obtain ⟨b, hb⟩ : ∃ b, b = w.heap.size := ⟨_, rfl⟩
  have hp0 : Sp B b #[.int .i64 8, .int .i64 m, .string s, .slice a ks.length cap] w v v N xs (w.alloc (.cells #[.int .i64 8, .int .i64 m, .string s, .slice a ks.length cap] 26)) := by rw [hb]; exact Sp.start hv hB
  obtain ⟨w0, hw0⟩ : ∃ w0, w0 = w.alloc (.cells #[.int .i64 8, .int .i64 m, .string s, .slice a ks.length cap] 26) := ⟨_, rfl⟩
  rw [← hw0] at hp0
  obtain ⟨i0, hi0, hz0, hz1, hz2⟩ := info_parts info_byte
  have hbl := hp0.blk
  have p0 : w0.cell? ⟨b, 0, none⟩ = some (.int .i64 8) := cell_of_heap hbl 0
  have p3 : w0.cell? ⟨b, 3, none⟩ = some (.slice a ks.length cap) := cell_of_heap hbl 3
  have hsp := hide hp0
  have HW := hide hw0
  have hrow := hide (fun (W : World) (v' : Value) (N' : Nat) (xs' : List Int) (hsp : Sp B b #[.int .i64 8, .int .i64 m, .string s, .slice a ks.length cap] w v v' N' xs' W) (hn : N' ≤ N + 10) => spAll_any ks a cap v' N' B xs' W h (hs.below hsp.below fun _ h => h) hr hz hsp.own hsp.base (by omega))
  have hmx1a := hide (show N + 1 ≤ maxLen by unfold maxLen; omega)
  have hmx1b := hide (show (N + 1) * 1 ≤ 140737488355328 by omega)
  have hone1 := hide (show ∀ u ∈ ([.int .u8 107] : List Value), u.oneCell' = true by intro u hu; simp at hu; subst hu; rfl)
  have hby2 := fun W => bytes_any (ks.length) 2 W (by omega) (by omega) (by omega)
  have hty2 := txtL_nums (beL (ks.length) 2) (beL_byte (ks.length) 2)
  obtain ⟨S, hS2⟩ : ∃ S, S = strOfNums (beL (ks.length) 2) := ⟨_, rfl⟩
  rw [← hS2] at hty2
  simp only [← hS2] at hby2
  have hsz2 : S.size = 2 := by rw [← txtL_length, hty2, beL_length]
  have hmx2a := hide (show N + 1 + S.size ≤ maxLen by rw [hsz2]; unfold maxLen; omega)
  have hmx2b := hide (show N + 1 + S.size ≤ 140737488355328 by rw [hsz2]; omega)
  have HBY2 := hide hby2
  have HTY2 := hide hty2
  clear hS2 hsz2 hby2 hty2
  have hq2 := hide (show S.size = 2 by rw [← txtL_length, unhide HTY2, beL_length])
  have hnb := hide (show (w0.alloc (.cells #[.int .u8 107] 5)).heap[w0.heap.size]? = some (.cells #[.int .u8 107] 5 (0, 0)) from heap_new _ _)
  have HALL := hide hall
  have h0' : ¬ (ks.length : Int) = 0 := by omega
  have hsm := small_any ks a cap B w0 (hs.below hp0.below fun _ h => h)
  rw [hall] at hsm
  have HSM := hide hsm
  clear hsm
  have HSA := hide hs
  clear hp0 hv hbl hB h hs hr hz hall h0
  go_enter Tryz.func41, Tryz.ntmps41
  go_upto_region 1 with fail
  rw [← hb, ← hw0]
  clear hw0 hb
  go_upto_region 30 with (go_at_call 82; refine (unhide HSM).mono ?_; rintro e w' ⟨rfl, rfl⟩)
  go_wp2_with (at_builtin; refine wpList_append_own_at _ rfl (.tmp 156) (.tmp 157) 22 rfl B 5 i0 (.int .u8 0) 1 1 Tryz.underlying22 hi0 hz0 hz1 hz2 rfl (by decide) _ N _ rfl (Sp.alloc (unhide hsp) _).own _ 1 1 [.int .u8 107] rfl rfl (World.news_of_block (cs := #[.int .u8 107]) (unhide hnb)) (unhide hone1) (unhide hmx1a) (unhide hmx1b) (Sp.alloc (unhide hsp) _).base ?_)
  intro v1 W1 ho1 hg1 _ hat1
  have hsp := hide ((Sp.alloc (unhide hsp) _).cells (ys := [107]) ho1 hg1 (by simpa using hat1))
  clear ho1 hg1 hat1 p0 p3
  go_wp2_with (first
    | (go_at_call 80; refine (unhide HBY2 _).mono ?_; rintro e W2 ⟨rfl, hb2⟩; have hsp := hide ((unhide hsp).call hb2); clear hb2)
    | (at_builtin; refine wpList_append_text _ rfl (.tmp 158) (.tmp 160) 22 9 rfl B 5 i0 Tryz.underlying22 Tryz.underlying9 hi0 hz0 hz1 hz2 _ (N + 1) _ rfl (unhide hsp).own _ rfl (unhide hmx2a) (unhide hmx2b) (unhide hsp).base ?_))
  intro v2 W3 ho2 hg2 hat2
  have hsp := hide ((unhide hsp).text ho2 hg2 hat2)
  clear ho2 hg2 hat2
  go_wp2_with fail
  go_loopw [0, 6] (fun ov iv wr => ∃ i : Nat, i ≤ ks.length ∧ iv = .int .i64 i ∧ Sp B b #[.int .i64 8, .int .i64 m, .string s, .slice a ks.length cap] w v ov (N + 1 + S.size + i) (xs ++ [107] ++ txtL S ++ (ks.take i).map (numT n)) wr) (fun _ iv _ => ks.length - (intOf iv).toNat)
  case atStart => exact ⟨0, Nat.zero_le _, rfl, by simpa using unhide hsp⟩
  case round =>
    obtain ⟨i, hi, rfl, hsp⟩ := hrel
    have hblk := hsp.blk
    have f3 : wr.cell? ⟨b, 3, none⟩ = some (.slice a ks.length cap) := cell_of_heap hblk 3
    by_cases hlt : i < ks.length
    · obtain ⟨a', cap', hv', hl1, hl3, hel⟩ := (unhide HSA).below hsp.below fun _ h => h
      cases hv'
      obtain ⟨bb, off, d0, d1, d2, d3, rfl, hS, e0, e1, e2, e3, hr⟩ := hel i hlt
      have hsm : smallB n ks[i] = true := List.all_eq_true.1 (unhide HALL) _ (List.getElem_mem hlt)
      obtain ⟨q, hd1, hq⟩ : ∃ q, d1 = .int .i64 q ∧ numT n ks[i] = q := ⟨_, hr.num, rfl⟩
      subst hd1
      have hb8 := small_num hsm
      rw [hq] at hb8
      obtain ⟨hb0, hb1⟩ := hb8
      have hmm : q % 256 = q := by omega
      have hnum := hide (numS_take ks i hlt)
      have HQ := hide hq
      have hsp' := hide hsp
      have hnb2 := hide (show (wr.alloc (.cells #[.int .u8 q] 5)).heap[wr.heap.size]? = some (.cells #[.int .u8 q] 5 (0, 0)) from heap_new _ _)
      have hy1 := hide (show N + 1 + S.size + i + 1 ≤ maxLen by have := unhide hq2; unfold maxLen; omega)
      have hy2 := hide (show (N + 1 + S.size + i + 1) * 1 ≤ 140737488355328 by have := unhide hq2; omega)
      clear e0 e2 e3 hr hsm hq hblk hsp hel
      go_upto_region 34 with fail
      go_wp2_with (at_builtin; refine wpList_append_own_at _ rfl (.tmp 167) (.tmp 175) 22 rfl B 5 i0 (.int .u8 0) 1 1 Tryz.underlying22 hi0 hz0 hz1 hz2 rfl (by decide) _ (N + 1 + S.size + i) _ rfl (Sp.alloc (unhide hsp') _).own _ 1 1 [.int .u8 q] rfl rfl (World.news_of_block (cs := #[.int .u8 q]) (unhide hnb2)) (fun u hu => by simp at hu; subst hu; rfl) (unhide hy1) (unhide hy2) (Sp.alloc (unhide hsp') _).base ?_)
      intro v1 W1 ho1 hg1 _ hat1
      have hsp2 := hide ((Sp.alloc (unhide hsp') _).cells (m := 1) (ys := [q]) (by simpa [u8c] using ho1) hg1 (by simpa using hat1))
      clear ho1 hg1 hat1 f3 e1
      go_wp2_with fail
      go_roundw
      case rel =>
        refine ⟨i + 1, hlt, by go_num, ?_⟩
        have h2 := unhide hsp2
        rw [unhide hnum, ← List.append_assoc, unhide HQ]
        exact h2
      case measure => simp [intOf]; omega
    · have hkk : i = ks.length := by omega
      subst hkk
      rw [List.take_length] at hsp
      have hsp := hide hsp
      clear hblk f3
      go_wp2_with fail
      go_ret
      exact Sp.done (unhide hsp) (by rw [unhide HTY2]; simp)

end Go.Proofs.YthfjgffhncogaaaGreat
/- impl's way inward from a term: inward; faultIn. -/
namespace Go.Proofs.YthfjgffhncogaaaGreat
open Go.RowKit

theorem Ctr.new (w : World) : Ctr w.heap.size 0 (w.alloc (.cells #[.int .i64 0] 95)) := heap_new _ _

def InwEnd (n : Nat) (t : Tm n) (w : World) (e : Ending) (w' : World) : Prop :=
  Below w.heap.size w w' ∧ ((valOK n t 0 1 ∧ ∃ v, e = .returned v ∧ VAt (Fresh w w') w' n t v) ∨ (¬ valOK n t 0 1 ∧ e = faultE))

theorem TAt.inp {w w2 : World} {g : Nat} (hb : Below w.heap.size w w2) (hg : w.heap.size ≤ g) {n : Nat} {t : Tm n} {a b c d : Value} (h : TAt (Under w.heap.size) w n t a b c d) : TAt (Inp w2 g) w2 n t a b c d :=
  (h.keep fun b hs => hb.block b hs).mono fun _ hs => ⟨Nat.lt_of_lt_of_le hs hb.size, by have : _ < w.heap.size := hs; omega⟩

theorem inw_below {w w3 : World} {x y : Obj} (h : But (w.heap.size + 1) ((w.alloc x).alloc y) w3) : Below w.heap.size w w3 :=
  (below_two w x y).trans (h.toBelow (by omega) (by simp; omega))

set_option maxRecDepth 20000 in
set_option maxHeartbeats 1000000 in
theorem inward_any (n : Nat) (t : Tm n) (c0 c1 c2 c3 : Value) (w : World) (ht : TAt (Under w.heap.size) w n t c0 c1 c2 c3) :
    Calls Tryz.prog 32 #[.agg #[c0, c1, c2, c3]] w fun e w' => InwEnd n t w e w' := by
  have hsz : ∀ x : Obj, (w.alloc x).heap.size = w.heap.size + 1 := fun x => by simp
  have hc0 := (fun (x : Obj) => let w1 := w.alloc x; let w2 := w1.alloc (.cells #[.int .i64 0] 95);
    val_any n t c0 c1 c2 c3 w1.heap.size 0 1 w2 (Ctr.new w1) (ht.inp (below_two w x _) (by simp [w1])) (by omega) (by omega) (by omega))
  simp only [hsz] at hc0
  have hc := hide hc0
  clear hc0
  obtain ⟨_, _, _, _, _, _, rfl, rfl, rfl, rfl⟩ := ht.shape
  go_enter Tryz.func32, Tryz.ntmps32
  go_wp2_with fail
  refine ((unhide hc) _).mono ?_
  rintro e w3 ⟨hb3, ⟨hok, v, rfl, hv, hct⟩ | ⟨hno, rfl⟩⟩
  · have HV := hide hv
    have HOK := hide hok
    clear hv hok hct
    go_wp2_with fail
    go_ret
    have hb := inw_below hb3
    exact ⟨hb, .inl ⟨unhide HOK, v, rfl, (unhide HV).mono fun b hb1 => ⟨by have := hb1.1; simp at this; omega, hb1.2⟩⟩⟩
  · exact ⟨rfl, inw_below hb3, .inr ⟨hno, rfl⟩⟩

/-- What faultIn makes of nothing, and of the walk's own fault. -/
theorem faultIn_nil (w : World) : Calls Tryz.prog 31 #[.nilIface] w fun e w' => e = .returned (.tuple #[.agg #[.int .i64 0, .int .i64 0], .bool false]) ∧ Below w.heap.size w w' := by
  have hbx := fun x : Obj => (Below.refl w.heap.size w).alloc (Nat.le_refl _) x
  go_enter Tryz.func31, Tryz.ntmps31
  go_wp2_with fail
  exact bodyPost_ret (v := .tuple #[.agg #[.int .i64 0, .int .i64 0], .bool false]) (by simp [results, Tryz.results31, go_sem]) rfl ⟨rfl, hbx _⟩

theorem ta_fault (x : Value) (w : World) : (Instr.typeAssert (.iface 50 x) 20 50 true).run Tryz.prog w = .ok (.tuple #[x, .bool true]) w := by kernel_rfl

set_option maxRecDepth 40000 in
theorem faultIn_fault (w : World) : Calls Tryz.prog 31 #[faultV] w fun e w' => e = .returned (.tuple #[.agg #[.int .i64 1, .int .i64 0], .bool true]) ∧ Below w.heap.size w w' := by
  unfold faultV
  have hta := ta_fault (.agg #[.int .i64 1, .int .i64 0])
  have hbx := below_two w
  go_enter Tryz.func31, Tryz.ntmps31
  go_wp2_with fail
  exact bodyPost_ret (v := .tuple #[.agg #[.int .i64 1, .int .i64 0], .bool true]) (by simp [results, Tryz.results31, go_sem]) rfl ⟨rfl, hbx _ _⟩

end Go.Proofs.YthfjgffhncogaaaGreat
/- What the closures that recover share. -/
namespace Go.Proofs.YthfjgffhncogaaaGreat
open Go.RowKit

theorem ok_val {n : Nat} {t : Tm n} : okB n t = true ↔ valOK n t 0 1 := by
  unfold okB fitsB valOK
  simp only [Bool.and_eq_true, decide_eq_true_eq]
  constructor
  · rintro ⟨⟨h1, h2⟩, h3⟩; exact ⟨h3, by omega, by omega⟩
  · rintro ⟨h3, h1, h2⟩; exact ⟨⟨by omega, by omega⟩, h3⟩

theorem below_three (w : World) (x y z : Obj) : Below w.heap.size w (((w.alloc x).alloc y).alloc z) := (below_two w x y).alloc (by simp; omega) _

theorem four_1 (w : World) (x y z g : Obj) : ((((w.alloc x).alloc y).alloc z).alloc g).heap[w.heap.size + 1]? = some y := by
  rw [Below.heap_alloc _ _ _ (by simp), Below.heap_alloc _ _ _ (by simp)]
  have := heap_new (w.alloc x) y
  rwa [World.size_alloc] at this
theorem four_2 (w : World) (x y z g : Obj) : ((((w.alloc x).alloc y).alloc z).alloc g).heap[w.heap.size + 1 + 1]? = some z := by
  rw [Below.heap_alloc _ _ _ (by simp)]
  have := heap_new ((w.alloc x).alloc y) z
  rwa [World.size_alloc, World.size_alloc] at this

end Go.Proofs.YthfjgffhncogaaaGreat
/- impl.TermPack: the closure that recovers the walk's fault; the function. -/
namespace Go.Proofs.YthfjgffhncogaaaGreat
open Go.RowKit Go.Deep

theorem slots12 (p0 p1 v0 v1 v2 v3 v4 v5 v6 : Value) : #[p0, p1] ++ ((((((((Array.replicate 10 undef).setIfInBounds 3 v3).setIfInBounds 4 v4).setIfInBounds 2 v2).setIfInBounds 5 v5).setIfInBounds 6 v6).setIfInBounds 0 v0).setIfInBounds 1 v1) = #[p0, p1, v0, v1, v2, v3, v4, v5, v6, undef, undef, undef] := by kernel_rfl

/-- A walk's fault. -/
def fltV (c : Int) : Value := .iface 50 (.agg #[.int .i64 c, .int .i64 0])

set_option maxRecDepth 40000 in
theorem faultIn_any (c : Int) (w : World) : Calls Tryz.prog 31 #[fltV c] w fun e w' => e = .returned (.tuple #[.agg #[.int .i64 c, .int .i64 0], .bool true]) ∧ Below w.heap.size w w' := by
  unfold fltV
  have hta := ta_fault (.agg #[.int .i64 c, .int .i64 0])
  have hbx := below_two w
  go_enter Tryz.func31, Tryz.ntmps31
  go_wp2_with fail
  exact bodyPost_ret (v := .tuple #[.agg #[.int .i64 c, .int .i64 0], .bool true]) (by simp [results, Tryz.results31, go_sem]) rfl ⟨rfl, hbx _ _⟩

set_option maxRecDepth 40000 in
set_option maxHeartbeats 1000000 in
theorem tpk_panicking (c : Int) (b0 b1 : Nat) (x0 x1 : Value) (older : List PanicEntry) (w : World) (h0 : w.heap[b0]? = some (.cells #[x0] 9 (0, 0))) (h1 : w.heap[b1]? = some (.cells #[x1] 3 (0, 0))) (hne : b0 ≠ b1)
    (hl0 : b0 < w.heap.size) (hl1 : b1 < w.heap.size) :
    CallsD Tryz.prog 42 #[.pointer (some ⟨b0, 0, none⟩), .pointer (some ⟨b1, 0, none⟩)] (.panicking ({ v := fltV c, recovered := false } :: older)) w fun e u' w' =>
      e = .returned (.tuple #[]) ∧ u' = .panicking ({ v := fltV c, recovered := true } :: older) ∧ w'.cell? ⟨b0, 0, none⟩ = some (.string ⟨#[]⟩) ∧ w'.cell? ⟨b1, 0, none⟩ = some (.int .i64 c) ∧ ∀ B, B ≤ b0 → B ≤ b1 → Below B w w' := by
  refine callsD_of_wpS Tryz.func42 rfl fun c₀ cs hu => ?_
  apply wpS_seq
  apply wpS_region
  simp [wpOpsS, go_sem, recoverD, hu, Tryz.ntmps42, Exit.thenS]
  refine (faultIn_any c _).mono ?_
  rintro e w1 ⟨rfl, hb1⟩
  simp [go_sem, Oper.upon, Result.andThen]
  have hw0 : (w1.alloc (.cells #[.int .i64 c, .int .i64 0] 50)).heap[b0]? = some (.cells #[x0] 9 (0, 0)) := ((Below.heap_alloc _ _ _ (Nat.lt_of_lt_of_le hl0 hb1.size)).trans (hb1.block _ hl0)).trans h0
  have hw1 : (w1.alloc (.cells #[.int .i64 c, .int .i64 0] 50)).heap[b1]? = some (.cells #[x1] 3 (0, 0)) := ((Below.heap_alloc _ _ _ (Nat.lt_of_lt_of_le hl1 hb1.size)).trans (hb1.block _ hl1)).trans h1
  have hw2 := heap_new w1 (.cells #[.int .i64 c, .int .i64 0] 50)
  have hbw : Below w.heap.size w (w1.alloc (.cells #[.int .i64 c, .int .i64 0] 50)) := hb1.alloc hb1.size _
  have hn0 : b0 ≠ w1.heap.size := by have := hb1.size; omega
  have hn1 : b1 ≠ w1.heap.size := by have := hb1.size; omega
  have hd0 : (w1.alloc (.cells #[.int .i64 c, .int .i64 0] 50)).heap.size > b0 := by simp; have := hb1.size; omega
  generalize w1.alloc (.cells #[.int .i64 c, .int .i64 0] 50) = W at hw0 hw1 hw2 hbw hd0 ⊢
  have c0 : W.cell? ⟨b0, 0, none⟩ = some x0 := cell_of_heap hw0 0
  have c1 : W.cell? ⟨b1, 0, none⟩ = some x1 := cell_of_heap hw1 0
  have c2 : W.cell? ⟨w1.heap.size, 0, none⟩ = some (.int .i64 c) := cell_of_heap hw2 0
  have z0 := frozen_of_heap hw0 0
  have z1 := frozen_of_heap hw1 0
  have R0 : Row b0 9 1 W := ⟨_, hw0, rfl⟩
  have R1 : Row b1 3 1 W := ⟨_, hw1, rfl⟩
  have HR := hide (And.intro R0 R1)
  clear hw0 hw1 hw2 R0 R1
  refine wpS_of_wp ?_
  rw [slots12]
  have hne' := hne.symm
  have hn0' := hn0.symm
  have hn1' := hn1.symm
  go_wp2_with fail
  go_region
  go_wp2_with fail
  obtain ⟨R0, R1⟩ := unhide HR
  have R1' : Row b1 3 1 (W.setCell ⟨b0, 0, none⟩ (.string ⟨#[]⟩)) := R1.keep (Below.heap_setCell _ _ _ _ hne')
  have q0 : ((W.setCell ⟨b0, 0, none⟩ (.string ⟨#[]⟩)).setCell ⟨b1, 0, none⟩ (.int .i64 c)).cell? ⟨b0, 0, none⟩ = some (.string ⟨#[]⟩) := (World.cell?_of_block (Below.heap_setCell _ _ _ _ hne)).trans (R0.set_get (by omega) _)
  have q1 := R1'.set_get (o := 0) (by omega) (.int .i64 c)
  have hB : ∀ B, B ≤ b0 → B ≤ b1 → Below B w ((W.setCell ⟨b0, 0, none⟩ (.string ⟨#[]⟩)).setCell ⟨b1, 0, none⟩ (.int .i64 c)).drew := fun B k0 k1 =>
    (((hbw.mono (by omega)).setCell (p := ⟨b0, 0, none⟩) k0 _).setCell (p := ⟨b1, 0, none⟩) k1 _).drew
  clear c0 c1 c2 z0 z1
  simp [bodyPostS, results, Tryz.results42, q0, q1]
  exact hB

set_option maxRecDepth 40000 in
set_option maxHeartbeats 1000000 in
theorem tpk_idle (b0 b1 : Nat) (w : World) :
    CallsD Tryz.prog 42 #[.pointer (some ⟨b0, 0, none⟩), .pointer (some ⟨b1, 0, none⟩)] .returning w fun e u' w' => e = .returned (.tuple #[]) ∧ u' = .returning ∧ Below w.heap.size w w' := by
  refine callsD_of_wpS Tryz.func42 rfl fun c₀ cs hu => ?_
  apply wpS_seq
  apply wpS_region
  simp [wpOpsS, go_sem, recoverD, hu, Tryz.ntmps42, Exit.thenS]
  refine (faultIn_nil _).mono ?_
  rintro e w1 ⟨rfl, hb1⟩
  simp [go_sem, Oper.upon, Result.andThen]
  have hbw : Below w.heap.size w (w1.alloc (.cells #[.int .i64 0, .int .i64 0] 50)) := hb1.alloc hb1.size _
  generalize w1.alloc (.cells #[.int .i64 0, .int .i64 0] 50) = W at hbw ⊢
  refine wpS_of_wp ?_
  rw [slots12]
  go_wp2_with fail
  have hu' := hide hbw
  clear hb1 hbw
  cases c₀
  simp_all [bodyPostS, results, Tryz.results42]
  exact unhide hu'

set_option maxRecDepth 40000 in
/-- Behind the walk's fault: nothing, and its code. -/
theorem pack_door {w : World} (c : Int) (tm : Array Value) (w3 : World) (b0 b1 : Nat) (x0 x1 : Value) (A : ByteArray) (C : Int) (hA : A = ⟨#[]⟩) (hC : C = c) (h4 : tm.getD 2 undef = .pointer (some ⟨b0, 0, none⟩)) (h5 : tm.getD 3 undef = .pointer (some ⟨b1, 0, none⟩))
    (k1 : w3.heap[b0]? = some (.cells #[x0] 9 (0, 0))) (k2 : w3.heap[b1]? = some (.cells #[x1] 3 (0, 0))) (hne : b0 ≠ b1) (hl0 : b0 < w3.heap.size) (hl1 : b1 < w3.heap.size) (hb0 : w.heap.size ≤ b0) (hb1 : w.heap.size ≤ b1) (hbw : Below w.heap.size w w3) :
    bodyPostD Tryz.prog Tryz.f18 (fun e w' => e = .returned (.tuple #[.string A, .int .i64 C]) ∧ Below w.heap.size w w') (Exit.panic [{ v := fltV c, recovered := false }])
      { tmps := tm, defers := [{ target := Target.fn (Fn.func 42) #[.pointer (some ⟨b0, 0, none⟩), .pointer (some ⟨b1, 0, none⟩)], args := #[] }] } w3 := by
  subst hA hC
  refine leaves_cons (f := 42) (args := #[.pointer (some ⟨b0, 0, none⟩), .pointer (some ⟨b1, 0, none⟩)]) (by simp) (by simp [go_sem]) ?_
  refine (tpk_panicking _ b0 b1 x0 x1 [] w3 k1 k2 hne hl0 hl1).mono ?_
  rintro e u' w4 ⟨rfl, rfl, g1, g2, hb4⟩
  have hB := hide (hbw.trans (hb4 w.heap.size hb0 hb1))
  clear hb4 hbw k1 k2
  have h4' : tm[2]?.getD undef = .pointer (some ⟨b0, 0, none⟩) := by simpa using h4
  have h5' : tm[3]?.getD undef = .pointer (some ⟨b1, 0, none⟩) := by simpa using h5
  simp [Leaves, settle, results, Tryz.results18, go_sem, h4', h5', g1, g2]
  exact unhide hB

end Go.Proofs.YthfjgffhncogaaaGreat
