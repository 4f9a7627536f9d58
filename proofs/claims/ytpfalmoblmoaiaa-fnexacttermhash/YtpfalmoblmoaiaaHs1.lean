/- impl's hash: add, addNumber, addText; spec's l01HashOn, l01Byte, l01Bytes. -/
import Derived.Test.YtpfalmoblmoaiaaHs0
import Derived.Test.YtpfalmoblmoaiaaEq
import Derived.Deep.OwnRows
import Derived.Test.YtpfalmoblmoaiaaTo
namespace Go.Proofs.Ytpfalmoblmoaiaa
open Go.RowKit Go.Deep

theorem info_byte : (Try.prog.info? 5).map (fun i => (i.zero, i.size, i.bytes)) = some (some (.int .u8 0), 1, 1) := by kernel_rfl

set_option maxRecDepth 40000 in
theorem add_any (h b : Int) (w : World) (hh : U32 h) (hb0 : 0 ≤ b) (hb : b < 256) :
    Calls Try.prog 64 #[.int .u32 h, .int .u8 b] w fun e w' => e = .returned (.int .u32 ((h * 33 + b) % 4294967296)) ∧ Below w.heap.size w w' := by
  obtain ⟨h0, h1⟩ := hh
  go_enter Try.func64, Try.ntmps64
  go_wp2_with fail
  go_ret
  refine ⟨?_, Below.refl _ _⟩
  show Ending.returned (.int .u32 _) = Ending.returned (.int .u32 _)
  congr 2
  try omega

set_option maxRecDepth 40000 in
theorem addNumber_any (h n : Int) (size : Nat) (w : World) (hh : U32 h) (hs : size ≤ 8) :
    Calls Try.prog 65 #[.int .u32 h, .int .i64 n, .int .i64 size] w fun e w' => e = .returned (.int .u32 (hOn h (beL n size))) ∧ Below w.heap.size w w' := by
  go_enter Try.func65, Try.ntmps65
  go_wp2_with fail
  go_loopw [0, 7] (fun hv iv wr => ∃ q : Nat, q ≤ size ∧ iv = .int .i64 ((q : Int) - 1) ∧ hv = .int .u32 (hOn h (beL (n / 2 ^ (8 * q)) (size - q))) ∧ Below w.heap.size w wr) (fun _ iv _ => (intOf iv + 1).toNat)
  case atStart => exact ⟨size, Nat.le_refl _, rfl, by simp [beL, hOn], Below.refl _ _⟩
  case round =>
    obtain ⟨q, hq, rfl, rfl, hb⟩ := hrel
    cases q with
    | zero =>
      have e0 : ((0 : Nat) : Int) - 1 = -1 := rfl
      rw [e0]
      have e1 : hOn h (beL (n / 2 ^ (8 * 0)) (size - 0)) = hOn h (beL n size) := by simp
      rw [e1]
      have E1 := hide e1
      clear e1
      go_wp2_with fail
      go_ret
      exact ⟨rfl, hb⟩
    | succ q =>
      have e0 : ((q + 1 : Nat) : Int) - 1 = q := by omega
      rw [e0]
      have hu := hide (hOn_u32 (beL (n / 2 ^ (8 * (q + 1))) (size - (q + 1))) h hh)
      have hf := hide (beL_front n q (size - (q + 1)))
      obtain ⟨g, hg⟩ : ∃ g, g = hOn h (beL (n / 2 ^ (8 * (q + 1))) (size - (q + 1))) := ⟨_, rfl⟩
      rw [← hg] at hu ⊢
      have HG := hide hg
      have hB := hide hb
      clear hg hb
      go_wp2_with (go_at_call 64; refine (add_any g (n / 2 ^ (8 * q) % 256) wr (unhide hu) (by omega) (by omega)).mono ?_; rintro e w1 ⟨rfl, hb1⟩; have HB1 := hide hb1; clear hb1)
      go_roundw
      case rel =>
        refine ⟨q, by omega, by go_num, ?_, (unhide hB).trans ((unhide HB1).mono (unhide hB).size)⟩
        rw [show size - q = size - (q + 1) + 1 by omega, unhide hf, hOn_append, hOn_one, ← unhide HG]
      case measure => simp [intOf]

set_option maxRecDepth 40000 in
theorem addText_any (h : Int) (s : ByteArray) (w : World) (hh : U32 h) (hs : s.size ≤ 9223372036854775807) :
    Calls Try.prog 66 #[.int .u32 h, .string s] w fun e w' => e = .returned (.int .u32 (hOn h (txtL s))) ∧ Below w.heap.size w w' := by
  go_enter Try.func66, Try.ntmps66
  go_wp2_with fail
  go_loopw [0, 5, 8] (fun hv jv iv wr => ∃ k : Nat, k ≤ s.size ∧ iv = .int .i64 k ∧ hv = .int .u32 (hOn h ((txtL s).take k)) ∧ Below w.heap.size w wr) (fun _ _ iv _ => s.size - (intOf iv).toNat)
  case atStart => exact ⟨0, Nat.zero_le _, rfl, rfl, Below.refl _ _⟩
  case round =>
    obtain ⟨k, hk, rfl, rfl, hb⟩ := hrel
    by_cases hlt : k < s.size
    · have hu := hide (hOn_u32 ((txtL s).take k) h hh)
      have hf := hide (txtL_take s k hlt)
      obtain ⟨g, hg⟩ : ∃ g, g = hOn h ((txtL s).take k) := ⟨_, rfl⟩
      rw [← hg] at hu ⊢
      have HG := hide hg
      have hB := hide hb
      clear hg hb
      go_wp2_with (go_at_call 64; refine (add_any g ((s[k]'hlt).toNat : Int) wr (unhide hu) (by omega) (by have := (s[k]'hlt).toNat_lt; omega)).mono ?_; rintro e w1 ⟨rfl, hb1⟩; have HB1 := hide hb1; clear hb1)
      go_roundw
      case rel =>
        refine ⟨k + 1, by omega, by go_num, ?_, (unhide hB).trans ((unhide HB1).mono (unhide hB).size)⟩
        rw [unhide hf, hOn_append, hOn_one, ← unhide HG]
      case measure => simp [intOf]; omega
    · have hkn : k = s.size := by omega
      have e1 : hOn h ((txtL s).take k) = hOn h (txtL s) := by rw [List.take_of_length_le (by rw [txtL_length]; omega)]
      rw [e1]
      have E1 := hide e1
      clear e1
      go_wp2_with fail
      go_ret
      exact ⟨rfl, hb⟩

set_option maxRecDepth 40000 in
theorem hashOn_any (h : Int) (s : ByteArray) (w : World) (hh : U32 h) (hs : s.size ≤ 9223372036854775807) :
    Calls Try.prog 61 #[.int .i64 h, .string s] w fun e w' => e = .returned (.int .i64 (hOn h (txtL s))) ∧ Below w.heap.size w w' := by
  go_enter Try.func61, Try.ntmps61
  go_wp2_with fail
  go_loopw [0, 5] (fun hv iv wr => ∃ k : Nat, k ≤ s.size ∧ iv = .int .i64 k ∧ hv = .int .i64 (hOn h ((txtL s).take k)) ∧ Below w.heap.size w wr) (fun _ iv _ => s.size - (intOf iv).toNat)
  case atStart => exact ⟨0, Nat.zero_le _, rfl, rfl, Below.refl _ _⟩
  case round =>
    obtain ⟨k, hk, rfl, rfl, hb⟩ := hrel
    by_cases hlt : k < s.size
    · obtain ⟨u0, u1⟩ := hOn_u32 ((txtL s).take k) h hh
      have hf := hide (txtL_take s k hlt)
      obtain ⟨g, hg⟩ : ∃ g, g = hOn h ((txtL s).take k) := ⟨_, rfl⟩
      rw [← hg] at u0 u1 ⊢
      have HG := hide hg
      have hbt : (s[k]'hlt).toNat < 256 := (s[k]'hlt).toNat_lt
      clear hg
      go_wp2_with fail
      go_roundw
      case rel =>
        refine ⟨k + 1, by omega, by go_num, ?_, hb⟩
        rw [unhide hf, hOn_append, hOn_one, ← unhide HG]
      case measure => simp [intOf]; omega
    · have hkn : k = s.size := by omega
      have e1 : hOn h ((txtL s).take k) = hOn h (txtL s) := by rw [List.take_of_length_le (by rw [txtL_length]; omega)]
      rw [e1]
      have E1 := hide e1
      clear e1
      go_wp2_with fail
      go_ret
      exact ⟨rfl, hb⟩

set_option maxRecDepth 40000 in
theorem byte_any (n : Int) (w : World) :
    Calls Try.prog 62 #[.int .i64 n] w fun e w' => e = .returned (.string (strOfNums [n % 256])) ∧ Below w.heap.size w w' := by
  have hcv := run_convert_bytes_arg (P := Try.prog) (w.alloc (.cells #[.int .u8 (n % 256)] 5)) 22 5 Try.underlying22 Try.underlying5 w.heap.size 0 1 1 [n % 256] rfl (fun i hi => by
    have : i = 0 := by omega
    subst this
    exact cell_of_heap (heap_new _ _) 0) 9 Try.underlying9
  obtain ⟨S, hS⟩ : ∃ S, S = strOfNums [n % 256] := ⟨_, rfl⟩
  rw [← hS] at hcv ⊢
  clear hS
  go_enter Try.func62, Try.ntmps62
  go_wp2_with fail
  go_ret
  exact ⟨rfl, (Below.refl w.heap.size w).alloc (Nat.le_refl _) _⟩

theorem set_front (q : Nat) (X : List Int) (y : Int) :
    ((List.replicate (q + 1) 0 ++ X).map (Value.int .u8)).set q (.int .u8 y) = (List.replicate q 0 ++ y :: X).map (Value.int .u8) := by
  rw [List.replicate_succ', List.append_assoc, List.map_append, List.map_append]
  rw [List.set_append_right _ _ (by simp)]
  simp

set_option maxRecDepth 40000 in
theorem bytes_any (n : Int) (size : Nat) (w : World) (hn : 0 ≤ n) (hn1 : n ≤ 9223372036854775807) (hs : size ≤ 8) :
    Calls Try.prog 63 #[.int .i64 n, .int .i64 size] w fun e w' => e = .returned (.string (strOfNums (beL n size))) ∧ Below w.heap.size w w' := by
  have hmk := fun w : World => run_make_row' (P := Try.prog) 22 5 (.int .u8 0) 1 Try.underlying22 info_byte rfl .i64 .i64 size (by omega) (by omega) w
  have Hn1 := hide hn1
  clear hn1
  go_enter Try.func63, Try.ntmps63
  go_wp2_with fail
  go_loopw [0, 6] (fun nv iv wr => ∃ q : Nat, q ≤ size ∧ iv = .int .i64 ((q : Int) - 1) ∧ nv = .int .i64 (n / 2 ^ (8 * (size - q))) ∧ wr.ownsRow w.heap.size 5 1 (.slice (some ⟨w.heap.size, 0, none⟩) size size) size ((List.replicate q 0 ++ beL n (size - q)).map (Value.int .u8)) ∧ Below w.heap.size w wr) (fun _ iv _ => (intOf iv + 1).toNat)
  case atStart =>
    refine ⟨size, Nat.le_refl _, rfl, by simp, ?_, (Below.refl w.heap.size w).alloc (Nat.le_refl _) _⟩
    have h := World.ownsRow_lit (base := w.heap.size) (e := 5) (size := 1) w (madeCells #[.int .u8 0] size) size (Nat.le_refl _) (by unfold maxLen; omega) (by simp [size_madeCells])
    have e : (List.replicate size 0 ++ beL n (size - size)).map (Value.int .u8) = (madeCells #[Value.int .u8 0] size).toList := by
      rw [Nat.sub_self]
      apply List.ext_getElem?
      intro i
      by_cases h : i < size <;> simp [madeCells, h, Nat.mod_one, beL]
    rw [e]
    exact h
  case round =>
    obtain ⟨q, hq, rfl, rfl, hown, hb⟩ := hrel
    cases q with
    | zero =>
      have e0 : ((0 : Nat) : Int) - 1 = -1 := rfl
      rw [e0]
      rw [Nat.sub_zero] at hown ⊢
      simp only [List.replicate_zero, List.nil_append] at hown
      have hcv := run_convert_bytes_arg (P := Try.prog) wr 22 5 Try.underlying22 Try.underlying5 w.heap.size 0 size size (beL n size) (beL_length n size) (fun i hi => by
        rw [Nat.zero_add, hown.cellAt i (by omega), List.getElem?_map]
        have hl : i < (beL n size).length := by rw [beL_length]; exact hi
        rw [List.getElem?_eq_getElem hl, List.getD_eq_getElem?_getD, List.getElem?_eq_getElem hl]; rfl) 9 Try.underlying9
      obtain ⟨S, hS⟩ : ∃ S, S = strOfNums (beL n size) := ⟨_, rfl⟩
      rw [← hS] at hcv
      have HO := hide hown
      have HS := hide hS
      clear hS hown
      go_wp2_with fail
      go_ret
      exact ⟨by rw [unhide HS]; rfl, hb⟩
    | succ q =>
      have e0 : ((q + 1 : Nat) : Int) - 1 = q := by omega
      rw [e0]
      have hc : ∃ x, wr.cell? ⟨w.heap.size, q, none⟩ = some x := by
        rw [hown.cellAt q (by omega)]
        have hl : q < ((List.replicate (q + 1) 0 ++ beL n (size - (q + 1))).map (Value.int .u8)).length := by simp; omega
        exact ⟨_, List.getElem?_eq_getElem hl⟩
      obtain ⟨x, hc⟩ := hc
      have hf := hown.frozenAt q
      have hst := hide (hown.stored q (.int .u8 (n / 2 ^ (8 * (size - (q + 1))) % 256))).1
      have hcons := hide (beL_cons n (size - (q + 1)))
      have hdiv := hide (pow8_div n (size - (q + 1)))
      have hnn : 0 ≤ n / 2 ^ (8 * (size - (q + 1))) := Int.ediv_nonneg hn (Int.le_of_lt (Int.pow_pos (by decide)))
      have hnm : n / 2 ^ (8 * (size - (q + 1))) ≤ 9223372036854775807 := Int.le_trans (Int.ediv_le_self _ hn) (unhide Hn1)
      obtain ⟨r, hr⟩ : ∃ r, r = n / 2 ^ (8 * (size - (q + 1))) := ⟨_, rfl⟩
      rw [← hr] at hst hcons hdiv hnn hnm ⊢
      have HB := hide hb
      clear hown hr hb
      go_wp2_with fail
      go_roundw
      case rel =>
        have eq1 : size - q = size - (q + 1) + 1 := by omega
        refine ⟨q, by omega, by go_num, by rw [eq1, unhide hdiv], ?_, (unhide HB).setCell (Nat.le_refl _) _⟩
        rw [eq1, unhide hcons, ← set_front]
        exact unhide hst
      case measure => simp [intOf]

end Go.Proofs.Ytpfalmoblmoaiaa
