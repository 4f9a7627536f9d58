/- spec's l01Pack of the kinds without kids. -/
import Derived.Test.YthfjgffhncogaaaGreatSp0
namespace Go.Proofs.YthfjgffhncogaaaGreat
open Go.RowKit Go.Deep

set_option maxRecDepth 40000 in
set_option maxHeartbeats 1000000 in
theorem sp_ref (m : Int) (s : ByteArray) (a : Option Addr) (l cap : Nat) (v : Value) (N B : Nat) (xs : List Int) (w : World) (hv : w.ownsRow B 5 1 v N (u8c xs)) (hB : B ≤ w.heap.size) (hN : N ≤ 2 ^ 40) (hm0 : 0 ≤ m) (hm1 : m ≤ 1000000000000000) :
    Calls Tryz.prog 41 #[v, .agg #[.int .i64 3, .int .i64 m, .string s, .slice a l cap]] w fun e w' => PkEnd B v xs (114 :: beL m 7) w e w' := by
  obtain ⟨b, hb⟩ : ∃ b, b = w.heap.size := ⟨_, rfl⟩
  have hp0 : Sp B b #[.int .i64 3, .int .i64 m, .string s, .slice a l cap] w v v N xs (w.alloc (.cells #[.int .i64 3, .int .i64 m, .string s, .slice a l cap] 26)) := by rw [hb]; exact Sp.start hv hB
  obtain ⟨w0, hw0⟩ : ∃ w0, w0 = w.alloc (.cells #[.int .i64 3, .int .i64 m, .string s, .slice a l cap] 26) := ⟨_, rfl⟩
  rw [← hw0] at hp0
  obtain ⟨i0, hi0, hz0, hz1, hz2⟩ := info_parts info_byte
  have hbl := hp0.blk
  have p0 : w0.cell? ⟨b, 0, none⟩ = some (.int .i64 3) := cell_of_heap hbl 0
  have p3 : w0.cell? ⟨b, 3, none⟩ = some (.slice a l cap) := cell_of_heap hbl 3
  have hsp := hide hp0
  have HW := hide hw0
  have hmx1a := hide (show N + 1 ≤ maxLen by unfold maxLen; omega)
  have hmx1b := hide (show (N + 1) * 1 ≤ 140737488355328 by omega)
  have hone1 := hide (show ∀ u ∈ ([.int .u8 114] : List Value), u.oneCell' = true by intro u hu; simp at hu; subst hu; rfl)
  have hby2 := fun W => bytes_any (m) 7 W hm0 (by omega) (by omega)
  have hty2 := txtL_nums (beL (m) 7) (beL_byte (m) 7)
  obtain ⟨S, hS2⟩ : ∃ S, S = strOfNums (beL (m) 7) := ⟨_, rfl⟩
  rw [← hS2] at hty2
  simp only [← hS2] at hby2
  have hsz2 : S.size = 7 := by rw [← txtL_length, hty2, beL_length]
  have hmx2a := hide (show N + 1 + S.size ≤ maxLen by rw [hsz2]; unfold maxLen; omega)
  have hmx2b := hide (show N + 1 + S.size ≤ 140737488355328 by rw [hsz2]; omega)
  have HBY2 := hide hby2
  have HTY2 := hide hty2
  clear hS2 hsz2 hby2 hty2
  clear hp0 hv hbl hB hm0 hm1
  go_enter Tryz.func41, Tryz.ntmps41
  go_upto_region 1 with fail
  rw [← hb, ← hw0]
  clear hw0 hb
  go_upto_region 12 with fail
  have hsp := hide (unhide hsp).drew
  go_region_held3 (fun W => (W.cell? ⟨b, 1, none⟩ = some (.int .i64 m) ∧ W.cell? ⟨b, 2, none⟩ = some (.string s) ∧ W.cell? ⟨b, 3, none⟩ = some (.slice a l cap)) ∧ Bx B b #[.int .i64 3, .int .i64 m, .string s, .slice a l cap] w W)
    (first | exact Sp.all (unhide hsp) | exact Sp.all (Sp.alloc (unhide hsp) _))
    (first
      | (refine step_append_cells _ rfl (.tmp 60) (.tmp 61) 22 rfl B 5 i0 (.int .u8 0) 1 1 Tryz.underlying22 hi0 hz0 hz1 hz2 rfl (by decide) _ (N) _ rfl (Sp.alloc (unhide hsp) _).own _ 1 1 [.int .u8 114] rfl rfl (World.news_of_block (cs := #[.int .u8 114]) (heap_new _ _)) (unhide hone1) (unhide hmx1a) (unhide hmx1b) (Sp.alloc (unhide hsp) _).base ?_; intro v1 W1 ho1 hg1 hat1; have hsp := hide ((Sp.alloc (unhide hsp) _).cells (ys := [114]) ho1 hg1 hat1); clear ho1 hg1 hat1)
      | (go_at_call 80; refine (unhide HBY2 _).mono ?_; rintro e W2 ⟨rfl, hb2⟩; have hsp := hide ((unhide hsp).call hb2); clear hb2)
      | (refine step_append_text _ rfl (.tmp 62) (.tmp 65) 22 9 rfl B 5 i0 Tryz.underlying22 Tryz.underlying9 hi0 hz0 hz1 hz2 _ (N + 1) _ rfl (unhide hsp).own _ rfl (unhide hmx2a) (unhide hmx2b) (unhide hsp).base ?_; intro v2 W3 ho2 hg2 hat2; have hsp := hide ((unhide hsp).text ho2 hg2 hat2); clear ho2 hg2 hat2))
  go_wp2_with fail
  go_ret
  exact Sp.done (unhide hsp) (by rw [unhide HTY2, List.append_assoc]; rfl)

set_option maxRecDepth 40000 in
set_option maxHeartbeats 1000000 in
theorem sp_pid (m : Int) (s : ByteArray) (a : Option Addr) (l cap : Nat) (v : Value) (N B : Nat) (xs : List Int) (w : World) (hv : w.ownsRow B 5 1 v N (u8c xs)) (hB : B ≤ w.heap.size) (hN : N ≤ 2 ^ 40) (hm0 : 0 ≤ m) (hm1 : m ≤ 1000000000000000) :
    Calls Tryz.prog 41 #[v, .agg #[.int .i64 5, .int .i64 m, .string s, .slice a l cap]] w fun e w' => PkEnd B v xs (103 :: beL m 7) w e w' := by
  obtain ⟨b, hb⟩ : ∃ b, b = w.heap.size := ⟨_, rfl⟩
  have hp0 : Sp B b #[.int .i64 5, .int .i64 m, .string s, .slice a l cap] w v v N xs (w.alloc (.cells #[.int .i64 5, .int .i64 m, .string s, .slice a l cap] 26)) := by rw [hb]; exact Sp.start hv hB
  obtain ⟨w0, hw0⟩ : ∃ w0, w0 = w.alloc (.cells #[.int .i64 5, .int .i64 m, .string s, .slice a l cap] 26) := ⟨_, rfl⟩
  rw [← hw0] at hp0
  obtain ⟨i0, hi0, hz0, hz1, hz2⟩ := info_parts info_byte
  have hbl := hp0.blk
  have p0 : w0.cell? ⟨b, 0, none⟩ = some (.int .i64 5) := cell_of_heap hbl 0
  have p3 : w0.cell? ⟨b, 3, none⟩ = some (.slice a l cap) := cell_of_heap hbl 3
  have hsp := hide hp0
  have HW := hide hw0
  have hmx1a := hide (show N + 1 ≤ maxLen by unfold maxLen; omega)
  have hmx1b := hide (show (N + 1) * 1 ≤ 140737488355328 by omega)
  have hone1 := hide (show ∀ u ∈ ([.int .u8 103] : List Value), u.oneCell' = true by intro u hu; simp at hu; subst hu; rfl)
  have hby2 := fun W => bytes_any (m) 7 W hm0 (by omega) (by omega)
  have hty2 := txtL_nums (beL (m) 7) (beL_byte (m) 7)
  obtain ⟨S, hS2⟩ : ∃ S, S = strOfNums (beL (m) 7) := ⟨_, rfl⟩
  rw [← hS2] at hty2
  simp only [← hS2] at hby2
  have hsz2 : S.size = 7 := by rw [← txtL_length, hty2, beL_length]
  have hmx2a := hide (show N + 1 + S.size ≤ maxLen by rw [hsz2]; unfold maxLen; omega)
  have hmx2b := hide (show N + 1 + S.size ≤ 140737488355328 by rw [hsz2]; omega)
  have HBY2 := hide hby2
  have HTY2 := hide hty2
  clear hS2 hsz2 hby2 hty2
  clear hp0 hv hbl hB hm0 hm1
  go_enter Tryz.func41, Tryz.ntmps41
  go_upto_region 1 with fail
  rw [← hb, ← hw0]
  clear hw0 hb
  go_upto_region 14 with fail
  have hsp := hide (unhide hsp).drew
  go_region_held3 (fun W => (W.cell? ⟨b, 1, none⟩ = some (.int .i64 m) ∧ W.cell? ⟨b, 2, none⟩ = some (.string s) ∧ W.cell? ⟨b, 3, none⟩ = some (.slice a l cap)) ∧ Bx B b #[.int .i64 5, .int .i64 m, .string s, .slice a l cap] w W)
    (first | exact Sp.all (unhide hsp) | exact Sp.all (Sp.alloc (unhide hsp) _))
    (first
      | (refine step_append_cells _ rfl (.tmp 69) (.tmp 70) 22 rfl B 5 i0 (.int .u8 0) 1 1 Tryz.underlying22 hi0 hz0 hz1 hz2 rfl (by decide) _ (N) _ rfl (Sp.alloc (unhide hsp) _).own _ 1 1 [.int .u8 103] rfl rfl (World.news_of_block (cs := #[.int .u8 103]) (heap_new _ _)) (unhide hone1) (unhide hmx1a) (unhide hmx1b) (Sp.alloc (unhide hsp) _).base ?_; intro v1 W1 ho1 hg1 hat1; have hsp := hide ((Sp.alloc (unhide hsp) _).cells (ys := [103]) ho1 hg1 hat1); clear ho1 hg1 hat1)
      | (go_at_call 80; refine (unhide HBY2 _).mono ?_; rintro e W2 ⟨rfl, hb2⟩; have hsp := hide ((unhide hsp).call hb2); clear hb2)
      | (refine step_append_text _ rfl (.tmp 71) (.tmp 74) 22 9 rfl B 5 i0 Tryz.underlying22 Tryz.underlying9 hi0 hz0 hz1 hz2 _ (N + 1) _ rfl (unhide hsp).own _ rfl (unhide hmx2a) (unhide hmx2b) (unhide hsp).base ?_; intro v2 W3 ho2 hg2 hat2; have hsp := hide ((unhide hsp).text ho2 hg2 hat2); clear ho2 hg2 hat2))
  go_wp2_with fail
  go_ret
  exact Sp.done (unhide hsp) (by rw [unhide HTY2, List.append_assoc]; rfl)

set_option maxRecDepth 40000 in
set_option maxHeartbeats 1000000 in
theorem sp_int0 (m : Int) (s : ByteArray) (a : Option Addr) (l cap : Nat) (v : Value) (N B : Nat) (xs : List Int) (w : World) (hv : w.ownsRow B 5 1 v N (u8c xs)) (hB : B ≤ w.heap.size) (hN : N ≤ 2 ^ 40) (hm0 : 0 ≤ m) (hm1 : m ≤ 255) :
    Calls Tryz.prog 41 #[v, .agg #[.int .i64 1, .int .i64 m, .string s, .slice a l cap]] w fun e w' => PkEnd B v xs ([97, m]) w e w' := by
  obtain ⟨b, hb⟩ : ∃ b, b = w.heap.size := ⟨_, rfl⟩
  have hp0 : Sp B b #[.int .i64 1, .int .i64 m, .string s, .slice a l cap] w v v N xs (w.alloc (.cells #[.int .i64 1, .int .i64 m, .string s, .slice a l cap] 26)) := by rw [hb]; exact Sp.start hv hB
  obtain ⟨w0, hw0⟩ : ∃ w0, w0 = w.alloc (.cells #[.int .i64 1, .int .i64 m, .string s, .slice a l cap] 26) := ⟨_, rfl⟩
  rw [← hw0] at hp0
  obtain ⟨i0, hi0, hz0, hz1, hz2⟩ := info_parts info_byte
  have hbl := hp0.blk
  have p0 : w0.cell? ⟨b, 0, none⟩ = some (.int .i64 1) := cell_of_heap hbl 0
  have p3 : w0.cell? ⟨b, 3, none⟩ = some (.slice a l cap) := cell_of_heap hbl 3
  have hsp := hide hp0
  have HW := hide hw0
  have hmx1a := hide (show N + 2 ≤ maxLen by unfold maxLen; omega)
  have hmx1b := hide (show (N + 2) * 1 ≤ 140737488355328 by omega)
  have hone1 := hide (show ∀ u ∈ ([.int .u8 97, .int .u8 m] : List Value), u.oneCell' = true by intro u hu; simp at hu; rcases hu with rfl | rfl <;> rfl)
  have hmm : m % 256 = m := by omega
  have p1 : w0.cell? ⟨b, 1, none⟩ = some (.int .i64 m) := cell_of_heap hbl 1
  have hnb := hide (show (w0.alloc (.cells #[.int .u8 97, .int .u8 m] 5)).heap[w0.heap.size]? = some (.cells #[.int .u8 97, .int .u8 m] 5 (0, 0)) from heap_new _ _)
  clear hp0 hv hbl hB
  go_enter Tryz.func41, Tryz.ntmps41
  go_upto_region 1 with fail
  rw [← hb, ← hw0]
  clear hw0 hb
  go_upto_region 5 with fail
  go_wp2_with (at_builtin; refine wpList_append_own_at _ rfl (.tmp 22) (.tmp 26) 22 rfl B 5 i0 (.int .u8 0) 1 1 Tryz.underlying22 hi0 hz0 hz1 hz2 rfl (by decide) _ N _ rfl (Sp.alloc (unhide hsp) _).own _ 2 2 [.int .u8 97, .int .u8 m] rfl rfl (World.news_of_block (cs := #[.int .u8 97, .int .u8 m]) (unhide hnb)) (unhide hone1) (unhide hmx1a) (unhide hmx1b) (Sp.alloc (unhide hsp) _).base ?_)
  intro v1 W1 ho1 hg1 _ hat1
  have hsp := hide ((Sp.alloc (unhide hsp) _).cells (ys := [97, m]) ho1 hg1 (by simpa using hat1))
  clear ho1 hg1 hat1
  go_wp2_with fail
  go_ret
  exact Sp.done (unhide hsp) (by rfl)

set_option maxRecDepth 40000 in
set_option maxHeartbeats 1000000 in
theorem sp_int1 (m : Int) (s : ByteArray) (a : Option Addr) (l cap : Nat) (v : Value) (N B : Nat) (xs : List Int) (w : World) (hv : w.ownsRow B 5 1 v N (u8c xs)) (hB : B ≤ w.heap.size) (hN : N ≤ 2 ^ 40) (hm0 : m < 0) (hm1 : -1000000000000000 ≤ m) :
    Calls Tryz.prog 41 #[v, .agg #[.int .i64 1, .int .i64 m, .string s, .slice a l cap]] w fun e w' => PkEnd B v xs (98 :: 1 :: beL (-m) 7) w e w' := by
  obtain ⟨b, hb⟩ : ∃ b, b = w.heap.size := ⟨_, rfl⟩
  have hp0 : Sp B b #[.int .i64 1, .int .i64 m, .string s, .slice a l cap] w v v N xs (w.alloc (.cells #[.int .i64 1, .int .i64 m, .string s, .slice a l cap] 26)) := by rw [hb]; exact Sp.start hv hB
  obtain ⟨w0, hw0⟩ : ∃ w0, w0 = w.alloc (.cells #[.int .i64 1, .int .i64 m, .string s, .slice a l cap] 26) := ⟨_, rfl⟩
  rw [← hw0] at hp0
  obtain ⟨i0, hi0, hz0, hz1, hz2⟩ := info_parts info_byte
  have hbl := hp0.blk
  have p0 : w0.cell? ⟨b, 0, none⟩ = some (.int .i64 1) := cell_of_heap hbl 0
  have p3 : w0.cell? ⟨b, 3, none⟩ = some (.slice a l cap) := cell_of_heap hbl 3
  have hsp := hide hp0
  have HW := hide hw0
  have hmx1a := hide (show N + 2 ≤ maxLen by unfold maxLen; omega)
  have hmx1b := hide (show (N + 2) * 1 ≤ 140737488355328 by omega)
  have hone1 := hide (show ∀ u ∈ ([.int .u8 98, .int .u8 1] : List Value), u.oneCell' = true by intro u hu; simp at hu; rcases hu with rfl | rfl <;> rfl)
  have hby2 := fun W => bytes_any (-m) 7 W (by omega) (by omega) (by omega)
  have hty2 := txtL_nums (beL (-m) 7) (beL_byte (-m) 7)
  obtain ⟨S, hS2⟩ : ∃ S, S = strOfNums (beL (-m) 7) := ⟨_, rfl⟩
  rw [← hS2] at hty2
  simp only [← hS2] at hby2
  have hsz2 : S.size = 7 := by rw [← txtL_length, hty2, beL_length]
  have hmx2a := hide (show N + 2 + S.size ≤ maxLen by rw [hsz2]; unfold maxLen; omega)
  have hmx2b := hide (show N + 2 + S.size ≤ 140737488355328 by rw [hsz2]; omega)
  have HBY2 := hide hby2
  have HTY2 := hide hty2
  clear hS2 hsz2 hby2 hty2
  have p1 : w0.cell? ⟨b, 1, none⟩ = some (.int .i64 m) := cell_of_heap hbl 1
  have hwr : IntKind.i64.wrap (-m) = -m := by rw [IntKind.wrap_i64]; omega
  clear hp0 hv hbl hB
  go_enter Tryz.func41, Tryz.ntmps41
  go_upto_region 1 with fail
  rw [← hb, ← hw0]
  clear hw0 hb
  go_upto_region 7 with fail
  have hsp := hide (unhide hsp).drew
  clear p1
  go_region_held3 (fun W => (W.cell? ⟨b, 1, none⟩ = some (.int .i64 m) ∧ W.cell? ⟨b, 2, none⟩ = some (.string s) ∧ W.cell? ⟨b, 3, none⟩ = some (.slice a l cap)) ∧ Bx B b #[.int .i64 1, .int .i64 m, .string s, .slice a l cap] w W)
    (first | exact Sp.all (unhide hsp) | exact Sp.all (Sp.alloc (unhide hsp) _))
    (first
      | (refine step_append_cells _ rfl (.tmp 31) (.tmp 32) 22 rfl B 5 i0 (.int .u8 0) 1 1 Tryz.underlying22 hi0 hz0 hz1 hz2 rfl (by decide) _ (N) _ rfl (Sp.alloc (unhide hsp) _).own _ 2 2 [.int .u8 98, .int .u8 1] rfl rfl (World.news_of_block (cs := #[.int .u8 98, .int .u8 1]) (heap_new _ _)) (unhide hone1) (unhide hmx1a) (unhide hmx1b) (Sp.alloc (unhide hsp) _).base ?_; intro v1 W1 ho1 hg1 hat1; have hsp := hide ((Sp.alloc (unhide hsp) _).cells (ys := [98, 1]) ho1 hg1 hat1); clear ho1 hg1 hat1)
      | (go_at_call 80; refine (unhide HBY2 _).mono ?_; rintro e W2 ⟨rfl, hb2⟩; have hsp := hide ((unhide hsp).call hb2); clear hb2)
      | (refine step_append_text _ rfl (.tmp 33) (.tmp 37) 22 9 rfl B 5 i0 Tryz.underlying22 Tryz.underlying9 hi0 hz0 hz1 hz2 _ (N + 2) _ rfl (unhide hsp).own _ rfl (unhide hmx2a) (unhide hmx2b) (unhide hsp).base ?_; intro v2 W3 ho2 hg2 hat2; have hsp := hide ((unhide hsp).text ho2 hg2 hat2); clear ho2 hg2 hat2))
  go_wp2_with fail
  go_ret
  exact Sp.done (unhide hsp) (by rw [unhide HTY2, List.append_assoc]; rfl)

set_option maxRecDepth 40000 in
set_option maxHeartbeats 1000000 in
theorem sp_int2 (m : Int) (s : ByteArray) (a : Option Addr) (l cap : Nat) (v : Value) (N B : Nat) (xs : List Int) (w : World) (hv : w.ownsRow B 5 1 v N (u8c xs)) (hB : B ≤ w.heap.size) (hN : N ≤ 2 ^ 40) (hm0 : 255 < m) (hm1 : m ≤ 1000000000000000) :
    Calls Tryz.prog 41 #[v, .agg #[.int .i64 1, .int .i64 m, .string s, .slice a l cap]] w fun e w' => PkEnd B v xs (98 :: 0 :: beL (m) 7) w e w' := by
  obtain ⟨b, hb⟩ : ∃ b, b = w.heap.size := ⟨_, rfl⟩
  have hp0 : Sp B b #[.int .i64 1, .int .i64 m, .string s, .slice a l cap] w v v N xs (w.alloc (.cells #[.int .i64 1, .int .i64 m, .string s, .slice a l cap] 26)) := by rw [hb]; exact Sp.start hv hB
  obtain ⟨w0, hw0⟩ : ∃ w0, w0 = w.alloc (.cells #[.int .i64 1, .int .i64 m, .string s, .slice a l cap] 26) := ⟨_, rfl⟩
  rw [← hw0] at hp0
  obtain ⟨i0, hi0, hz0, hz1, hz2⟩ := info_parts info_byte
  have hbl := hp0.blk
  have p0 : w0.cell? ⟨b, 0, none⟩ = some (.int .i64 1) := cell_of_heap hbl 0
  have p3 : w0.cell? ⟨b, 3, none⟩ = some (.slice a l cap) := cell_of_heap hbl 3
  have hsp := hide hp0
  have HW := hide hw0
  have hmx1a := hide (show N + 2 ≤ maxLen by unfold maxLen; omega)
  have hmx1b := hide (show (N + 2) * 1 ≤ 140737488355328 by omega)
  have hone1 := hide (show ∀ u ∈ ([.int .u8 98, .int .u8 0] : List Value), u.oneCell' = true by intro u hu; simp at hu; rcases hu with rfl | rfl <;> rfl)
  have hby2 := fun W => bytes_any (m) 7 W (by omega) (by omega) (by omega)
  have hty2 := txtL_nums (beL (m) 7) (beL_byte (m) 7)
  obtain ⟨S, hS2⟩ : ∃ S, S = strOfNums (beL (m) 7) := ⟨_, rfl⟩
  rw [← hS2] at hty2
  simp only [← hS2] at hby2
  have hsz2 : S.size = 7 := by rw [← txtL_length, hty2, beL_length]
  have hmx2a := hide (show N + 2 + S.size ≤ maxLen by rw [hsz2]; unfold maxLen; omega)
  have hmx2b := hide (show N + 2 + S.size ≤ 140737488355328 by rw [hsz2]; omega)
  have HBY2 := hide hby2
  have HTY2 := hide hty2
  clear hS2 hsz2 hby2 hty2
  have p1 : w0.cell? ⟨b, 1, none⟩ = some (.int .i64 m) := cell_of_heap hbl 1
  clear hp0 hv hbl hB
  go_enter Tryz.func41, Tryz.ntmps41
  go_upto_region 1 with fail
  rw [← hb, ← hw0]
  clear hw0 hb
  go_upto_region 8 with fail
  have hsp := hide (unhide hsp).drew
  clear p1
  go_region_held3 (fun W => (W.cell? ⟨b, 1, none⟩ = some (.int .i64 m) ∧ W.cell? ⟨b, 2, none⟩ = some (.string s) ∧ W.cell? ⟨b, 3, none⟩ = some (.slice a l cap)) ∧ Bx B b #[.int .i64 1, .int .i64 m, .string s, .slice a l cap] w W)
    (first | exact Sp.all (unhide hsp) | exact Sp.all (Sp.alloc (unhide hsp) _))
    (first
      | (refine step_append_cells _ rfl (.tmp 39) (.tmp 40) 22 rfl B 5 i0 (.int .u8 0) 1 1 Tryz.underlying22 hi0 hz0 hz1 hz2 rfl (by decide) _ (N) _ rfl (Sp.alloc (unhide hsp) _).own _ 2 2 [.int .u8 98, .int .u8 0] rfl rfl (World.news_of_block (cs := #[.int .u8 98, .int .u8 0]) (heap_new _ _)) (unhide hone1) (unhide hmx1a) (unhide hmx1b) (Sp.alloc (unhide hsp) _).base ?_; intro v1 W1 ho1 hg1 hat1; have hsp := hide ((Sp.alloc (unhide hsp) _).cells (ys := [98, 0]) ho1 hg1 hat1); clear ho1 hg1 hat1)
      | (go_at_call 80; refine (unhide HBY2 _).mono ?_; rintro e W2 ⟨rfl, hb2⟩; have hsp := hide ((unhide hsp).call hb2); clear hb2)
      | (refine step_append_text _ rfl (.tmp 41) (.tmp 44) 22 9 rfl B 5 i0 Tryz.underlying22 Tryz.underlying9 hi0 hz0 hz1 hz2 _ (N + 2) _ rfl (unhide hsp).own _ rfl (unhide hmx2a) (unhide hmx2b) (unhide hsp).base ?_; intro v2 W3 ho2 hg2 hat2; have hsp := hide ((unhide hsp).text ho2 hg2 hat2); clear ho2 hg2 hat2))
  go_wp2_with fail
  go_ret
  exact Sp.done (unhide hsp) (by rw [unhide HTY2, List.append_assoc]; rfl)

set_option maxRecDepth 40000 in
set_option maxHeartbeats 1000000 in
theorem sp_atom (m : Int) (s : ByteArray) (a : Option Addr) (l cap : Nat) (v : Value) (N B : Nat) (xs : List Int) (w : World) (hv : w.ownsRow B 5 1 v N (u8c xs)) (hB : B ≤ w.heap.size) (hN : N ≤ 2 ^ 40) (hs : s.size ≤ 2 ^ 40) :
    Calls Tryz.prog 41 #[v, .agg #[.int .i64 2, .int .i64 m, .string s, .slice a l cap]] w fun e w' => PkEnd B v xs (119 :: (s.size : Int) % 256 :: txtL s) w e w' := by
  obtain ⟨b, hb⟩ : ∃ b, b = w.heap.size := ⟨_, rfl⟩
  have hp0 : Sp B b #[.int .i64 2, .int .i64 m, .string s, .slice a l cap] w v v N xs (w.alloc (.cells #[.int .i64 2, .int .i64 m, .string s, .slice a l cap] 26)) := by rw [hb]; exact Sp.start hv hB
  obtain ⟨w0, hw0⟩ : ∃ w0, w0 = w.alloc (.cells #[.int .i64 2, .int .i64 m, .string s, .slice a l cap] 26) := ⟨_, rfl⟩
  rw [← hw0] at hp0
  obtain ⟨i0, hi0, hz0, hz1, hz2⟩ := info_parts info_byte
  have hbl := hp0.blk
  have p0 : w0.cell? ⟨b, 0, none⟩ = some (.int .i64 2) := cell_of_heap hbl 0
  have p3 : w0.cell? ⟨b, 3, none⟩ = some (.slice a l cap) := cell_of_heap hbl 3
  have hsp := hide hp0
  have HW := hide hw0
  have hmx1a := hide (show N + 2 ≤ maxLen by unfold maxLen; omega)
  have hmx1b := hide (show (N + 2) * 1 ≤ 140737488355328 by omega)
  have hone1 := hide (show ∀ u ∈ ([.int .u8 119, .int .u8 ((s.size : Int) % 256)] : List Value), u.oneCell' = true by intro u hu; simp at hu; rcases hu with rfl | rfl <;> rfl)
  have hmx2a := hide (show N + 2 + s.size ≤ maxLen by unfold maxLen; omega)
  have hmx2b := hide (show N + 2 + s.size ≤ 140737488355328 by omega)
  clear hp0 hv hbl hB
  go_enter Tryz.func41, Tryz.ntmps41
  go_upto_region 1 with fail
  rw [← hb, ← hw0]
  clear hw0 hb
  go_upto_region 10 with fail
  have hsp := hide (unhide hsp).drew
  go_region_held3 (fun W => (W.cell? ⟨b, 1, none⟩ = some (.int .i64 m) ∧ W.cell? ⟨b, 2, none⟩ = some (.string s) ∧ W.cell? ⟨b, 3, none⟩ = some (.slice a l cap)) ∧ Bx B b #[.int .i64 2, .int .i64 m, .string s, .slice a l cap] w W)
    (first | exact Sp.all (unhide hsp) | exact Sp.all (Sp.alloc (unhide hsp) _))
    (first
      | (refine step_append_cells _ rfl (.tmp 48) (.tmp 53) 22 rfl B 5 i0 (.int .u8 0) 1 1 Tryz.underlying22 hi0 hz0 hz1 hz2 rfl (by decide) _ (N) _ rfl (Sp.alloc (unhide hsp) _).own _ 2 2 [.int .u8 119, .int .u8 ((s.size : Int) % 256)] rfl rfl (World.news_of_block (cs := #[.int .u8 119, .int .u8 ((s.size : Int) % 256)]) (heap_new _ _)) (unhide hone1) (unhide hmx1a) (unhide hmx1b) (Sp.alloc (unhide hsp) _).base ?_; intro v1 W1 ho1 hg1 hat1; have hsp := hide ((Sp.alloc (unhide hsp) _).cells (ys := [119, ((s.size : Int) % 256)]) ho1 hg1 hat1); clear ho1 hg1 hat1)
      | (refine step_append_text _ rfl (.tmp 54) (.tmp 56) 22 9 rfl B 5 i0 Tryz.underlying22 Tryz.underlying9 hi0 hz0 hz1 hz2 _ (N + 2) _ rfl (unhide hsp).own _ rfl (unhide hmx2a) (unhide hmx2b) (unhide hsp).base ?_; intro v2 W3 ho2 hg2 hat2; have hsp := hide ((unhide hsp).text ho2 hg2 hat2); clear ho2 hg2 hat2))
  go_wp2_with fail
  go_ret
  exact Sp.done (unhide hsp) (by rw [List.append_assoc]; rfl)

set_option maxRecDepth 40000 in
set_option maxHeartbeats 1000000 in
theorem sp_bin (m : Int) (s : ByteArray) (a : Option Addr) (l cap : Nat) (v : Value) (N B : Nat) (xs : List Int) (w : World) (hv : w.ownsRow B 5 1 v N (u8c xs)) (hB : B ≤ w.heap.size) (hN : N ≤ 2 ^ 40) (hs : s.size ≤ 2 ^ 40) :
    Calls Tryz.prog 41 #[v, .agg #[.int .i64 9, .int .i64 m, .string s, .slice a l cap]] w fun e w' => PkEnd B v xs (109 :: (beL s.size 2 ++ txtL s)) w e w' := by
  obtain ⟨b, hb⟩ : ∃ b, b = w.heap.size := ⟨_, rfl⟩
  have hp0 : Sp B b #[.int .i64 9, .int .i64 m, .string s, .slice a l cap] w v v N xs (w.alloc (.cells #[.int .i64 9, .int .i64 m, .string s, .slice a l cap] 26)) := by rw [hb]; exact Sp.start hv hB
  obtain ⟨w0, hw0⟩ : ∃ w0, w0 = w.alloc (.cells #[.int .i64 9, .int .i64 m, .string s, .slice a l cap] 26) := ⟨_, rfl⟩
  rw [← hw0] at hp0
  obtain ⟨i0, hi0, hz0, hz1, hz2⟩ := info_parts info_byte
  have hbl := hp0.blk
  have p0 : w0.cell? ⟨b, 0, none⟩ = some (.int .i64 9) := cell_of_heap hbl 0
  have p3 : w0.cell? ⟨b, 3, none⟩ = some (.slice a l cap) := cell_of_heap hbl 3
  have hsp := hide hp0
  have HW := hide hw0
  have hmx1a := hide (show N + 1 ≤ maxLen by unfold maxLen; omega)
  have hmx1b := hide (show (N + 1) * 1 ≤ 140737488355328 by omega)
  have hone1 := hide (show ∀ u ∈ ([.int .u8 109] : List Value), u.oneCell' = true by intro u hu; simp at hu; subst hu; rfl)
  have hby2 := fun W => bytes_any (s.size) 2 W (by omega) (by omega) (by omega)
  have hty2 := txtL_nums (beL (s.size) 2) (beL_byte (s.size) 2)
  obtain ⟨S, hS2⟩ : ∃ S, S = strOfNums (beL (s.size) 2) := ⟨_, rfl⟩
  rw [← hS2] at hty2
  simp only [← hS2] at hby2
  have hsz2 : S.size = 2 := by rw [← txtL_length, hty2, beL_length]
  have hmx2a := hide (show N + 1 + S.size ≤ maxLen by rw [hsz2]; unfold maxLen; omega)
  have hmx2b := hide (show N + 1 + S.size ≤ 140737488355328 by rw [hsz2]; omega)
  have HBY2 := hide hby2
  have HTY2 := hide hty2
  clear hS2 hsz2 hby2 hty2
  have hs2 : S.size = 2 := by rw [← txtL_length, unhide HTY2, beL_length]
  have hmx3a := hide (show N + 1 + S.size + s.size ≤ maxLen by rw [hs2]; unfold maxLen; omega)
  have hmx3b := hide (show N + 1 + S.size + s.size ≤ 140737488355328 by rw [hs2]; omega)
  clear hs2
  clear hp0 hv hbl hB
  go_enter Tryz.func41, Tryz.ntmps41
  go_upto_region 1 with fail
  rw [← hb, ← hw0]
  clear hw0 hb
  go_upto_region 25 with fail
  have hsp := hide (unhide hsp).drew
  go_region_held3 (fun W => (W.cell? ⟨b, 1, none⟩ = some (.int .i64 m) ∧ W.cell? ⟨b, 2, none⟩ = some (.string s) ∧ W.cell? ⟨b, 3, none⟩ = some (.slice a l cap)) ∧ Bx B b #[.int .i64 9, .int .i64 m, .string s, .slice a l cap] w W)
    (first | exact Sp.all (unhide hsp) | exact Sp.all (Sp.alloc (unhide hsp) _))
    (first
      | (refine step_append_cells _ rfl (.tmp 127) (.tmp 128) 22 rfl B 5 i0 (.int .u8 0) 1 1 Tryz.underlying22 hi0 hz0 hz1 hz2 rfl (by decide) _ (N) _ rfl (Sp.alloc (unhide hsp) _).own _ 1 1 [.int .u8 109] rfl rfl (World.news_of_block (cs := #[.int .u8 109]) (heap_new _ _)) (unhide hone1) (unhide hmx1a) (unhide hmx1b) (Sp.alloc (unhide hsp) _).base ?_; intro v1 W1 ho1 hg1 hat1; have hsp := hide ((Sp.alloc (unhide hsp) _).cells (ys := [109]) ho1 hg1 hat1); clear ho1 hg1 hat1)
      | (go_at_call 80; refine (unhide HBY2 _).mono ?_; rintro e W2 ⟨rfl, hb2⟩; have hsp := hide ((unhide hsp).call hb2); clear hb2)
      | (refine step_append_text _ rfl (.tmp 129) (.tmp 133) 22 9 rfl B 5 i0 Tryz.underlying22 Tryz.underlying9 hi0 hz0 hz1 hz2 _ (N + 1) _ rfl (unhide hsp).own _ rfl (unhide hmx2a) (unhide hmx2b) (unhide hsp).base ?_; intro v2 W3 ho2 hg2 hat2; have hsp := hide ((unhide hsp).text ho2 hg2 hat2); clear ho2 hg2 hat2)
      | (refine step_append_text _ rfl (.tmp 134) (.tmp 136) 22 9 rfl B 5 i0 Tryz.underlying22 Tryz.underlying9 hi0 hz0 hz1 hz2 _ (N + 1 + S.size) _ rfl (unhide hsp).own _ rfl (unhide hmx3a) (unhide hmx3b) (unhide hsp).base ?_; intro v2 W3 ho2 hg2 hat2; have hsp := hide ((unhide hsp).text ho2 hg2 hat2); clear ho2 hg2 hat2))
  go_wp2_with fail
  go_ret
  exact Sp.done (unhide hsp) (by rw [unhide HTY2, List.append_assoc, List.append_assoc]; rfl)

set_option maxRecDepth 40000 in
set_option maxHeartbeats 1000000 in
theorem sp_nil (m : Int) (s : ByteArray) (a : Option Addr) (l cap : Nat) (v : Value) (N B : Nat) (xs : List Int) (w : World) (hv : w.ownsRow B 5 1 v N (u8c xs)) (hB : B ≤ w.heap.size) (hN : N ≤ 2 ^ 40) (hl : l = 0) :
    Calls Tryz.prog 41 #[v, .agg #[.int .i64 8, .int .i64 m, .string s, .slice a l cap]] w fun e w' => PkEnd B v xs ([106]) w e w' := by
  obtain ⟨b, hb⟩ : ∃ b, b = w.heap.size := ⟨_, rfl⟩
  have hp0 : Sp B b #[.int .i64 8, .int .i64 m, .string s, .slice a l cap] w v v N xs (w.alloc (.cells #[.int .i64 8, .int .i64 m, .string s, .slice a l cap] 26)) := by rw [hb]; exact Sp.start hv hB
  obtain ⟨w0, hw0⟩ : ∃ w0, w0 = w.alloc (.cells #[.int .i64 8, .int .i64 m, .string s, .slice a l cap] 26) := ⟨_, rfl⟩
  rw [← hw0] at hp0
  obtain ⟨i0, hi0, hz0, hz1, hz2⟩ := info_parts info_byte
  have hbl := hp0.blk
  have p0 : w0.cell? ⟨b, 0, none⟩ = some (.int .i64 8) := cell_of_heap hbl 0
  have p3 : w0.cell? ⟨b, 3, none⟩ = some (.slice a l cap) := cell_of_heap hbl 3
  have hsp := hide hp0
  have HW := hide hw0
  have hmx1a := hide (show N + 1 ≤ maxLen by unfold maxLen; omega)
  have hmx1b := hide (show (N + 1) * 1 ≤ 140737488355328 by omega)
  have hone1 := hide (show ∀ u ∈ ([.int .u8 106] : List Value), u.oneCell' = true by intro u hu; simp at hu; subst hu; rfl)
  subst hl
  have hnb := hide (show (w0.alloc (.cells #[.int .u8 106] 5)).heap[w0.heap.size]? = some (.cells #[.int .u8 106] 5 (0, 0)) from heap_new _ _)
  clear hp0 hv hbl hB
  go_enter Tryz.func41, Tryz.ntmps41
  go_upto_region 1 with fail
  rw [← hb, ← hw0]
  clear hw0 hb
  go_upto_region 27 with fail
  go_wp2_with (at_builtin; refine wpList_append_own_at _ rfl (.tmp 140) (.tmp 141) 22 rfl B 5 i0 (.int .u8 0) 1 1 Tryz.underlying22 hi0 hz0 hz1 hz2 rfl (by decide) _ N _ rfl (Sp.alloc (unhide hsp) _).own _ 1 1 [.int .u8 106] rfl rfl (World.news_of_block (cs := #[.int .u8 106]) (unhide hnb)) (unhide hone1) (unhide hmx1a) (unhide hmx1b) (Sp.alloc (unhide hsp) _).base ?_)
  intro v1 W1 ho1 hg1 _ hat1
  have hsp := hide ((Sp.alloc (unhide hsp) _).cells (ys := [106]) ho1 hg1 (by simpa using hat1))
  clear ho1 hg1 hat1
  go_wp2_with fail
  go_ret
  exact Sp.done (unhide hsp) (by rfl)

end Go.Proofs.YthfjgffhncogaaaGreat
