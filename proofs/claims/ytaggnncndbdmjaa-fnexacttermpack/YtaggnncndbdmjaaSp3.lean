/- spec's l01Pack of the kinds with kids. -/
import Derived.Test.YtaggnncndbdmjaaSp2
namespace Go.Proofs.Ytaggnncndbdmjaa
open Go.RowKit Go.Deep

set_option maxRecDepth 40000 in
set_option maxHeartbeats 1000000 in
theorem sp_fun {n : Nat} (h : SpSaid n) (ks : List (Tm n)) (m : Int) (s : ByteArray) (a : Option Addr) (cap : Nat) (v : Value) (N B : Nat) (xs : List Int) (w : World) (hs : SAt (Under B) w (TAt (Under B) w n) ks (.slice a ks.length cap)) (hr : ks.all (rightB n) = true) (hz : ∀ t ∈ ks, siz n t ≤ 2000)
    (hv : w.ownsRow B 5 1 v N (u8c xs)) (hB : B ≤ w.heap.size) (hN : N + 10 + 10 * ks.length + 10 * totS ks ≤ 2 ^ 40) (hm0 : 0 ≤ m) (hm1 : m ≤ 1000000000000000) (hlk : ks.length ≤ 2 ^ 40) :
    Calls Try.prog 11 #[v, .agg #[.int .i64 4, .int .i64 m, .string s, .slice a ks.length cap]] w fun e w' => PkEnd B v xs (112 :: (beL m 7 ++ beL ks.length 2) ++ packS ks) w e w' := by
  obtain ⟨b, hb⟩ : ∃ b, b = w.heap.size := ⟨_, rfl⟩
  have hp0 : Sp B b #[.int .i64 4, .int .i64 m, .string s, .slice a ks.length cap] w v v N xs (w.alloc (.cells #[.int .i64 4, .int .i64 m, .string s, .slice a ks.length cap] 30)) := by rw [hb]; exact Sp.start hv hB
  obtain ⟨w0, hw0⟩ : ∃ w0, w0 = w.alloc (.cells #[.int .i64 4, .int .i64 m, .string s, .slice a ks.length cap] 30) := ⟨_, rfl⟩
  rw [← hw0] at hp0
  obtain ⟨i0, hi0, hz0, hz1, hz2⟩ := info_parts info_byte
  have hbl := hp0.blk
  have p0 : w0.cell? ⟨b, 0, none⟩ = some (.int .i64 4) := cell_of_heap hbl 0
  have p3 : w0.cell? ⟨b, 3, none⟩ = some (.slice a ks.length cap) := cell_of_heap hbl 3
  have hsp := hide hp0
  have HW := hide hw0
  have hrow := hide (fun (W : World) (v' : Value) (N' : Nat) (xs' : List Int) (hsp : Sp B b #[.int .i64 4, .int .i64 m, .string s, .slice a ks.length cap] w v v' N' xs' W) (hn : N' ≤ N + 10) => spAll_any ks a cap v' N' B xs' W h (hs.below hsp.below fun _ h => h) hr hz hsp.own hsp.base (by omega))
  have hmx1a := hide (show N + 1 ≤ maxLen by unfold maxLen; omega)
  have hmx1b := hide (show (N + 1) * 1 ≤ 140737488355328 by omega)
  have hone1 := hide (show ∀ u ∈ ([.int .u8 112] : List Value), u.oneCell' = true by intro u hu; simp at hu; subst hu; rfl)
  have hby2 := fun W => bytes_any (m) 7 W hm0 (by omega) (by omega)
  have hty2 := txtL_nums (beL (m) 7) (beL_byte (m) 7)
  obtain ⟨S, hS2⟩ : ∃ S, S = strOfNums (beL (m) 7) := ⟨_, rfl⟩
  rw [← hS2] at hty2
  simp only [← hS2] at hby2
  have hsz2 : S.size = 7 := by rw [← txtL_length, hty2, beL_length]
  have hmx2a := hide (show N + 1 + S.size ≤ maxLen by rw [hsz2]; unfold maxLen; omega)
  have hmx2b := hide (show N + 1 + S.size ≤ 140737488355328 by rw [hsz2]; omega)
  have HBY2 := hide hby2
  have HTY2 := hide hty2
  clear hS2 hsz2 hby2 hty2
  have hq2 : S.size = 7 := by rw [← txtL_length, unhide HTY2, beL_length]
  have hby3 := fun W => bytes_any (ks.length) 2 W (by omega) (by omega) (by omega)
  have hty3 := txtL_nums (beL (ks.length) 2) (beL_byte (ks.length) 2)
  obtain ⟨S', hS3⟩ : ∃ S, S = strOfNums (beL (ks.length) 2) := ⟨_, rfl⟩
  rw [← hS3] at hty3
  simp only [← hS3] at hby3
  have hsz3 : S'.size = 2 := by rw [← txtL_length, hty3, beL_length]
  have hmx3a := hide (show N + 1 + S.size + S'.size ≤ maxLen by rw [hsz3, hq2]; unfold maxLen; omega)
  have hmx3b := hide (show N + 1 + S.size + S'.size ≤ 140737488355328 by rw [hsz3, hq2]; omega)
  have HBY3 := hide hby3
  have HTY3 := hide hty3
  clear hS3 hsz3 hby3 hty3
  have hq3 : S'.size = 2 := by rw [← txtL_length, unhide HTY3, beL_length]
  have hbn := hide (show N + 1 + S.size + S'.size ≤ N + 10 by omega)
  clear hq2 hq3
  have HSA := hide hs
  clear hp0 hv hbl hB h hs hr hz hm0 hm1
  go_enter Try.func11, Try.ntmps11
  go_upto_region 1 with fail
  rw [← hb, ← hw0]
  clear hw0 hb
  go_upto_region 16 with fail
  have hsp := hide (unhide hsp).drew
  go_region_held3 (fun W => (W.cell? ⟨b, 1, none⟩ = some (.int .i64 m) ∧ W.cell? ⟨b, 2, none⟩ = some (.string s) ∧ W.cell? ⟨b, 3, none⟩ = some (.slice a ks.length cap)) ∧ Bx B b #[.int .i64 4, .int .i64 m, .string s, .slice a ks.length cap] w W)
    (first | exact Sp.all (unhide hsp) | exact Sp.all (Sp.alloc (unhide hsp) _))
    (first
      | (refine step_append_cells _ rfl (.tmp 78) (.tmp 79) 36 rfl B 5 i0 (.int .u8 0) 1 1 Try.underlying36 hi0 hz0 hz1 hz2 rfl (by decide) _ (N) _ rfl (Sp.alloc (unhide hsp) _).own _ 1 1 [.int .u8 112] rfl rfl (World.news_of_block (cs := #[.int .u8 112]) (heap_new _ _)) (unhide hone1) (unhide hmx1a) (unhide hmx1b) (Sp.alloc (unhide hsp) _).base ?_; intro v1 W1 ho1 hg1 hat1; have hsp := hide ((Sp.alloc (unhide hsp) _).cells (ys := [112]) ho1 hg1 hat1); clear ho1 hg1 hat1)
      | (go_at_call 20; refine (unhide HBY2 _).mono ?_; rintro e W2 ⟨rfl, hb2⟩; have hsp := hide ((unhide hsp).call hb2); clear hb2)
      | (refine step_append_text _ rfl (.tmp 80) (.tmp 83) 36 9 rfl B 5 i0 Try.underlying36 Try.underlying9 hi0 hz0 hz1 hz2 _ (N + 1) _ rfl (unhide hsp).own _ rfl (unhide hmx2a) (unhide hmx2b) (unhide hsp).base ?_; intro v2 W3 ho2 hg2 hat2; have hsp := hide ((unhide hsp).text ho2 hg2 hat2); clear ho2 hg2 hat2))
  go_upto_region 17 with fail
  have hsp := hide (unhide hsp).drew
  go_region_held3 (fun W => (W.cell? ⟨b, 1, none⟩ = some (.int .i64 m) ∧ W.cell? ⟨b, 2, none⟩ = some (.string s) ∧ W.cell? ⟨b, 3, none⟩ = some (.slice a ks.length cap)) ∧ Bx B b #[.int .i64 4, .int .i64 m, .string s, .slice a ks.length cap] w W)
    (first | exact Sp.all (unhide hsp) | exact Sp.all (Sp.alloc (unhide hsp) _))
    (first
      | (go_at_call 20; refine (unhide HBY3 _).mono ?_; rintro e W2 ⟨rfl, hb2⟩; have hsp := hide ((unhide hsp).call hb2); clear hb2)
      | (refine step_append_text _ rfl (.tmp 85) (.tmp 87) 36 9 rfl B 5 i0 Try.underlying36 Try.underlying9 hi0 hz0 hz1 hz2 _ (N + 1 + S.size) _ rfl (unhide hsp).own _ rfl (unhide hmx3a) (unhide hmx3b) (unhide hsp).base ?_; intro v2 W3 ho2 hg2 hat2; have hsp := hide ((unhide hsp).text ho2 hg2 hat2); clear ho2 hg2 hat2)
      | (go_at_call 21; refine ((unhide hrow) _ _ _ _ (unhide hsp) (unhide hbn)).mono ?_; rintro e W4 hpe; obtain ⟨v4, rfl, hsp4⟩ := (unhide hsp).pack hpe rfl; have hsp := hide hsp4; clear hpe hsp4))
  go_wp2_with fail
  go_ret
  exact Sp.done (unhide hsp) (by rw [unhide HTY2, unhide HTY3]; simp)

set_option maxRecDepth 40000 in
set_option maxHeartbeats 1000000 in
theorem sp_tup0 {n : Nat} (h : SpSaid n) (ks : List (Tm n)) (m : Int) (s : ByteArray) (a : Option Addr) (cap : Nat) (v : Value) (N B : Nat) (xs : List Int) (w : World) (hs : SAt (Under B) w (TAt (Under B) w n) ks (.slice a ks.length cap)) (hr : ks.all (rightB n) = true) (hz : ∀ t ∈ ks, siz n t ≤ 2000)
    (hv : w.ownsRow B 5 1 v N (u8c xs)) (hB : B ≤ w.heap.size) (hN : N + 10 + 10 * ks.length + 10 * totS ks ≤ 2 ^ 40) (hlk : ks.length ≤ 255) :
    Calls Try.prog 11 #[v, .agg #[.int .i64 6, .int .i64 m, .string s, .slice a ks.length cap]] w fun e w' => PkEnd B v xs ([104, (ks.length : Int)] ++ packS ks) w e w' := by
  obtain ⟨b, hb⟩ : ∃ b, b = w.heap.size := ⟨_, rfl⟩
  have hp0 : Sp B b #[.int .i64 6, .int .i64 m, .string s, .slice a ks.length cap] w v v N xs (w.alloc (.cells #[.int .i64 6, .int .i64 m, .string s, .slice a ks.length cap] 30)) := by rw [hb]; exact Sp.start hv hB
  obtain ⟨w0, hw0⟩ : ∃ w0, w0 = w.alloc (.cells #[.int .i64 6, .int .i64 m, .string s, .slice a ks.length cap] 30) := ⟨_, rfl⟩
  rw [← hw0] at hp0
  obtain ⟨i0, hi0, hz0, hz1, hz2⟩ := info_parts info_byte
  have hbl := hp0.blk
  have p0 : w0.cell? ⟨b, 0, none⟩ = some (.int .i64 6) := cell_of_heap hbl 0
  have p3 : w0.cell? ⟨b, 3, none⟩ = some (.slice a ks.length cap) := cell_of_heap hbl 3
  have hsp := hide hp0
  have HW := hide hw0
  have hrow := hide (fun (W : World) (v' : Value) (N' : Nat) (xs' : List Int) (hsp : Sp B b #[.int .i64 6, .int .i64 m, .string s, .slice a ks.length cap] w v v' N' xs' W) (hn : N' ≤ N + 10) => spAll_any ks a cap v' N' B xs' W h (hs.below hsp.below fun _ h => h) hr hz hsp.own hsp.base (by omega))
  have hmx1a := hide (show N + 2 ≤ maxLen by unfold maxLen; omega)
  have hmx1b := hide (show (N + 2) * 1 ≤ 140737488355328 by omega)
  have hone1 := hide (show ∀ u ∈ ([.int .u8 104, .int .u8 (ks.length : Int)] : List Value), u.oneCell' = true by intro u hu; simp at hu; rcases hu with rfl | rfl <;> rfl)
  have hmm : (ks.length : Int) % 256 = ks.length := by omega
  have hwr : IntKind.u8.wrap (ks.length : Int) = ks.length := by rw [IntKind.wrap_u8]; omega
  have hbn := hide (show N + 2 ≤ N + 10 by omega)
  have HSA := hide hs
  clear hp0 hv hbl hB h hs hr hz
  go_enter Try.func11, Try.ntmps11
  go_upto_region 1 with fail
  rw [← hb, ← hw0]
  clear hw0 hb
  go_upto_region 20 with fail
  have hsp := hide (unhide hsp).drew
  go_region_held3 (fun W => (W.cell? ⟨b, 1, none⟩ = some (.int .i64 m) ∧ W.cell? ⟨b, 2, none⟩ = some (.string s) ∧ W.cell? ⟨b, 3, none⟩ = some (.slice a ks.length cap)) ∧ Bx B b #[.int .i64 6, .int .i64 m, .string s, .slice a ks.length cap] w W)
    (first | exact Sp.all (unhide hsp) | exact Sp.all (Sp.alloc (unhide hsp) _))
    (first
      | (refine step_append_cells _ rfl (.tmp 96) (.tmp 99) 36 rfl B 5 i0 (.int .u8 0) 1 1 Try.underlying36 hi0 hz0 hz1 hz2 rfl (by decide) _ (N) _ rfl (Sp.alloc (unhide hsp) _).own _ 2 2 [.int .u8 104, .int .u8 (ks.length : Int)] rfl rfl (World.news_of_block (cs := #[.int .u8 104, .int .u8 (ks.length : Int)]) (heap_new _ _)) (unhide hone1) (unhide hmx1a) (unhide hmx1b) (Sp.alloc (unhide hsp) _).base ?_; intro v1 W1 ho1 hg1 hat1; have hsp := hide ((Sp.alloc (unhide hsp) _).cells (ys := [104, (ks.length : Int)]) ho1 hg1 hat1); clear ho1 hg1 hat1)
      | (go_at_call 21; refine ((unhide hrow) _ _ _ _ (unhide hsp) (unhide hbn)).mono ?_; rintro e W4 hpe; obtain ⟨v4, rfl, hsp4⟩ := (unhide hsp).pack hpe rfl; have hsp := hide hsp4; clear hpe hsp4))
  go_wp2_with fail
  go_ret
  exact Sp.done (unhide hsp) (by simp)

set_option maxRecDepth 40000 in
set_option maxHeartbeats 1000000 in
theorem sp_tup1 {n : Nat} (h : SpSaid n) (ks : List (Tm n)) (m : Int) (s : ByteArray) (a : Option Addr) (cap : Nat) (v : Value) (N B : Nat) (xs : List Int) (w : World) (hs : SAt (Under B) w (TAt (Under B) w n) ks (.slice a ks.length cap)) (hr : ks.all (rightB n) = true) (hz : ∀ t ∈ ks, siz n t ≤ 2000)
    (hv : w.ownsRow B 5 1 v N (u8c xs)) (hB : B ≤ w.heap.size) (hN : N + 10 + 10 * ks.length + 10 * totS ks ≤ 2 ^ 40) (hlk : ¬ ks.length ≤ 255) (hl2 : ks.length ≤ 2 ^ 40) :
    Calls Try.prog 11 #[v, .agg #[.int .i64 6, .int .i64 m, .string s, .slice a ks.length cap]] w fun e w' => PkEnd B v xs (105 :: beL ks.length 2 ++ packS ks) w e w' := by
  obtain ⟨b, hb⟩ : ∃ b, b = w.heap.size := ⟨_, rfl⟩
  have hp0 : Sp B b #[.int .i64 6, .int .i64 m, .string s, .slice a ks.length cap] w v v N xs (w.alloc (.cells #[.int .i64 6, .int .i64 m, .string s, .slice a ks.length cap] 30)) := by rw [hb]; exact Sp.start hv hB
  obtain ⟨w0, hw0⟩ : ∃ w0, w0 = w.alloc (.cells #[.int .i64 6, .int .i64 m, .string s, .slice a ks.length cap] 30) := ⟨_, rfl⟩
  rw [← hw0] at hp0
  obtain ⟨i0, hi0, hz0, hz1, hz2⟩ := info_parts info_byte
  have hbl := hp0.blk
  have p0 : w0.cell? ⟨b, 0, none⟩ = some (.int .i64 6) := cell_of_heap hbl 0
  have p3 : w0.cell? ⟨b, 3, none⟩ = some (.slice a ks.length cap) := cell_of_heap hbl 3
  have hsp := hide hp0
  have HW := hide hw0
  have hrow := hide (fun (W : World) (v' : Value) (N' : Nat) (xs' : List Int) (hsp : Sp B b #[.int .i64 6, .int .i64 m, .string s, .slice a ks.length cap] w v v' N' xs' W) (hn : N' ≤ N + 10) => spAll_any ks a cap v' N' B xs' W h (hs.below hsp.below fun _ h => h) hr hz hsp.own hsp.base (by omega))
  have hmx1a := hide (show N + 1 ≤ maxLen by unfold maxLen; omega)
  have hmx1b := hide (show (N + 1) * 1 ≤ 140737488355328 by omega)
  have hone1 := hide (show ∀ u ∈ ([.int .u8 105] : List Value), u.oneCell' = true by intro u hu; simp at hu; subst hu; rfl)
  have hby2 := fun W => bytes_any (ks.length) 2 W (by omega) (by omega) (by omega)
  have hty2 := txtL_nums (beL (ks.length) 2) (beL_byte (ks.length) 2)
  obtain ⟨S, hS2⟩ : ∃ S, S = strOfNums (beL (ks.length) 2) := ⟨_, rfl⟩
  rw [← hS2] at hty2
  simp only [← hS2] at hby2
  have hsz2 : S.size = 2 := by rw [← txtL_length, hty2, beL_length]
  have hmx2a := hide (show N + 1 + S.size ≤ maxLen by rw [hsz2]; unfold maxLen; omega)
  have hmx2b := hide (show N + 1 + S.size ≤ 140737488355328 by rw [hsz2]; omega)
  have HBY2 := hide hby2
  have HTY2 := hide hty2
  clear hS2 hsz2 hby2 hty2
  have hq2 : S.size = 2 := by rw [← txtL_length, unhide HTY2, beL_length]
  have hbn := hide (show N + 1 + S.size ≤ N + 10 by omega)
  clear hq2
  have hlk' : ¬ (ks.length : Int) ≤ 255 := by omega
  have HSA := hide hs
  clear hp0 hv hbl hB h hs hr hz
  go_enter Try.func11, Try.ntmps11
  go_upto_region 1 with fail
  rw [← hb, ← hw0]
  clear hw0 hb
  go_upto_region 21 with fail
  have hsp := hide (unhide hsp).drew
  go_region_held3 (fun W => (W.cell? ⟨b, 1, none⟩ = some (.int .i64 m) ∧ W.cell? ⟨b, 2, none⟩ = some (.string s) ∧ W.cell? ⟨b, 3, none⟩ = some (.slice a ks.length cap)) ∧ Bx B b #[.int .i64 6, .int .i64 m, .string s, .slice a ks.length cap] w W)
    (first | exact Sp.all (unhide hsp) | exact Sp.all (Sp.alloc (unhide hsp) _))
    (first
      | (refine step_append_cells _ rfl (.tmp 104) (.tmp 105) 36 rfl B 5 i0 (.int .u8 0) 1 1 Try.underlying36 hi0 hz0 hz1 hz2 rfl (by decide) _ (N) _ rfl (Sp.alloc (unhide hsp) _).own _ 1 1 [.int .u8 105] rfl rfl (World.news_of_block (cs := #[.int .u8 105]) (heap_new _ _)) (unhide hone1) (unhide hmx1a) (unhide hmx1b) (Sp.alloc (unhide hsp) _).base ?_; intro v1 W1 ho1 hg1 hat1; have hsp := hide ((Sp.alloc (unhide hsp) _).cells (ys := [105]) ho1 hg1 hat1); clear ho1 hg1 hat1)
      | (go_at_call 20; refine (unhide HBY2 _).mono ?_; rintro e W2 ⟨rfl, hb2⟩; have hsp := hide ((unhide hsp).call hb2); clear hb2)
      | (refine step_append_text _ rfl (.tmp 106) (.tmp 108) 36 9 rfl B 5 i0 Try.underlying36 Try.underlying9 hi0 hz0 hz1 hz2 _ (N + 1) _ rfl (unhide hsp).own _ rfl (unhide hmx2a) (unhide hmx2b) (unhide hsp).base ?_; intro v2 W3 ho2 hg2 hat2; have hsp := hide ((unhide hsp).text ho2 hg2 hat2); clear ho2 hg2 hat2)
      | (go_at_call 21; refine ((unhide hrow) _ _ _ _ (unhide hsp) (unhide hbn)).mono ?_; rintro e W4 hpe; obtain ⟨v4, rfl, hsp4⟩ := (unhide hsp).pack hpe rfl; have hsp := hide hsp4; clear hpe hsp4))
  go_wp2_with fail
  go_ret
  exact Sp.done (unhide hsp) (by rw [unhide HTY2]; simp)

set_option maxRecDepth 40000 in
set_option maxHeartbeats 1000000 in
theorem sp_map {n : Nat} (h : SpSaid n) (ks : List (Tm n)) (m : Int) (s : ByteArray) (a : Option Addr) (cap : Nat) (v : Value) (N B : Nat) (xs : List Int) (w : World) (hs : SAt (Under B) w (TAt (Under B) w n) ks (.slice a ks.length cap)) (hr : ks.all (rightB n) = true) (hz : ∀ t ∈ ks, siz n t ≤ 2000)
    (hv : w.ownsRow B 5 1 v N (u8c xs)) (hB : B ≤ w.heap.size) (hN : N + 10 + 10 * ks.length + 10 * totS ks ≤ 2 ^ 40) (p : Nat) (hp : ks.length = 2 * p) (hl2 : ks.length ≤ 2 ^ 40) :
    Calls Try.prog 11 #[v, .agg #[.int .i64 7, .int .i64 m, .string s, .slice a ks.length cap]] w fun e w' => PkEnd B v xs (116 :: beL p 2 ++ packS ks) w e w' := by
  obtain ⟨b, hb⟩ : ∃ b, b = w.heap.size := ⟨_, rfl⟩
  have hp0 : Sp B b #[.int .i64 7, .int .i64 m, .string s, .slice a ks.length cap] w v v N xs (w.alloc (.cells #[.int .i64 7, .int .i64 m, .string s, .slice a ks.length cap] 30)) := by rw [hb]; exact Sp.start hv hB
  obtain ⟨w0, hw0⟩ : ∃ w0, w0 = w.alloc (.cells #[.int .i64 7, .int .i64 m, .string s, .slice a ks.length cap] 30) := ⟨_, rfl⟩
  rw [← hw0] at hp0
  obtain ⟨i0, hi0, hz0, hz1, hz2⟩ := info_parts info_byte
  have hbl := hp0.blk
  have p0 : w0.cell? ⟨b, 0, none⟩ = some (.int .i64 7) := cell_of_heap hbl 0
  have p3 : w0.cell? ⟨b, 3, none⟩ = some (.slice a ks.length cap) := cell_of_heap hbl 3
  have hsp := hide hp0
  have HW := hide hw0
  have hrow := hide (fun (W : World) (v' : Value) (N' : Nat) (xs' : List Int) (hsp : Sp B b #[.int .i64 7, .int .i64 m, .string s, .slice a ks.length cap] w v v' N' xs' W) (hn : N' ≤ N + 10) => spAll_any ks a cap v' N' B xs' W h (hs.below hsp.below fun _ h => h) hr hz hsp.own hsp.base (by omega))
  have hmx1a := hide (show N + 1 ≤ maxLen by unfold maxLen; omega)
  have hmx1b := hide (show (N + 1) * 1 ≤ 140737488355328 by omega)
  have hone1 := hide (show ∀ u ∈ ([.int .u8 116] : List Value), u.oneCell' = true by intro u hu; simp at hu; subst hu; rfl)
  have hby2 := fun W => bytes_any ((p : Int)) 2 W (by omega) (by omega) (by omega)
  have hty2 := txtL_nums (beL ((p : Int)) 2) (beL_byte ((p : Int)) 2)
  obtain ⟨S, hS2⟩ : ∃ S, S = strOfNums (beL ((p : Int)) 2) := ⟨_, rfl⟩
  rw [← hS2] at hty2
  simp only [← hS2] at hby2
  have hsz2 : S.size = 2 := by rw [← txtL_length, hty2, beL_length]
  have hmx2a := hide (show N + 1 + S.size ≤ maxLen by rw [hsz2]; unfold maxLen; omega)
  have hmx2b := hide (show N + 1 + S.size ≤ 140737488355328 by rw [hsz2]; omega)
  have HBY2 := hide hby2
  have HTY2 := hide hty2
  clear hS2 hsz2 hby2 hty2
  have hq2 : S.size = 2 := by rw [← txtL_length, unhide HTY2, beL_length]
  have hbn := hide (show N + 1 + S.size ≤ N + 10 by omega)
  clear hq2
  have hquo : (ks.length : Int).tdiv 2 = p := by rw [Int.tdiv_eq_ediv_of_nonneg (by omega)]; omega
  have hquo2 : (ks.length : Int) / 2 = p := by omega
  have hwq : IntKind.i64.wrap (p : Int) = p := by rw [IntKind.wrap_i64]; omega
  have Hp := hide hp
  clear hp
  have HSA := hide hs
  clear hp0 hv hbl hB h hs hr hz
  go_enter Try.func11, Try.ntmps11
  go_upto_region 1 with fail
  rw [← hb, ← hw0]
  clear hw0 hb
  go_upto_region 23 with fail
  have hsp := hide (unhide hsp).drew
  go_region_held3 (fun W => (W.cell? ⟨b, 1, none⟩ = some (.int .i64 m) ∧ W.cell? ⟨b, 2, none⟩ = some (.string s) ∧ W.cell? ⟨b, 3, none⟩ = some (.slice a ks.length cap)) ∧ Bx B b #[.int .i64 7, .int .i64 m, .string s, .slice a ks.length cap] w W)
    (first | exact Sp.all (unhide hsp) | exact Sp.all (Sp.alloc (unhide hsp) _))
    (first
      | (refine step_append_cells _ rfl (.tmp 115) (.tmp 116) 36 rfl B 5 i0 (.int .u8 0) 1 1 Try.underlying36 hi0 hz0 hz1 hz2 rfl (by decide) _ (N) _ rfl (Sp.alloc (unhide hsp) _).own _ 1 1 [.int .u8 116] rfl rfl (World.news_of_block (cs := #[.int .u8 116]) (heap_new _ _)) (unhide hone1) (unhide hmx1a) (unhide hmx1b) (Sp.alloc (unhide hsp) _).base ?_; intro v1 W1 ho1 hg1 hat1; have hsp := hide ((Sp.alloc (unhide hsp) _).cells (ys := [116]) ho1 hg1 hat1); clear ho1 hg1 hat1)
      | (go_at_call 20; refine (unhide HBY2 _).mono ?_; rintro e W2 ⟨rfl, hb2⟩; have hsp := hide ((unhide hsp).call hb2); clear hb2)
      | (refine step_append_text _ rfl (.tmp 117) (.tmp 120) 36 9 rfl B 5 i0 Try.underlying36 Try.underlying9 hi0 hz0 hz1 hz2 _ (N + 1) _ rfl (unhide hsp).own _ rfl (unhide hmx2a) (unhide hmx2b) (unhide hsp).base ?_; intro v2 W3 ho2 hg2 hat2; have hsp := hide ((unhide hsp).text ho2 hg2 hat2); clear ho2 hg2 hat2)
      | (go_at_call 21; refine ((unhide hrow) _ _ _ _ (unhide hsp) (unhide hbn)).mono ?_; rintro e W4 hpe; obtain ⟨v4, rfl, hsp4⟩ := (unhide hsp).pack hpe rfl; have hsp := hide hsp4; clear hpe hsp4))
  go_wp2_with fail
  go_ret
  exact Sp.done (unhide hsp) (by rw [unhide HTY2]; simp)

end Go.Proofs.Ytaggnncndbdmjaa
