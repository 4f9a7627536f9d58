/- spec's l01Bytes. -/
import Derived.Test.YtaggnncndbdmjaaHs0
import Derived.Test.YtaggnncndbdmjaaEq
import Derived.Deep.OwnRows
import Derived.Test.YtaggnncndbdmjaaTo
namespace Go.Proofs.Ytaggnncndbdmjaa
open Go.RowKit Go.Deep

theorem info_byte : (Try.prog.info? 5).map (fun i => (i.zero, i.size, i.bytes)) = some (some (.int .u8 0), 1, 1) := by kernel_rfl

theorem set_front (q : Nat) (X : List Int) (y : Int) :
    ((List.replicate (q + 1) 0 ++ X).map (Value.int .u8)).set q (.int .u8 y) = (List.replicate q 0 ++ y :: X).map (Value.int .u8) := by
  rw [List.replicate_succ', List.append_assoc, List.map_append, List.map_append]
  rw [List.set_append_right _ _ (by simp)]
  simp

set_option maxRecDepth 40000 in
theorem bytes_any (n : Int) (size : Nat) (w : World) (hn : 0 ≤ n) (hn1 : n ≤ 9223372036854775807) (hs : size ≤ 8) :
    Calls Try.prog 20 #[.int .i64 n, .int .i64 size] w fun e w' => e = .returned (.string (strOfNums (beL n size))) ∧ Below w.heap.size w w' := by
  have hmk := fun w : World => run_make_row' (P := Try.prog) 36 5 (.int .u8 0) 1 Try.underlying36 info_byte rfl .i64 .i64 size (by omega) (by omega) w
  have Hn1 := hide hn1
  clear hn1
  go_enter Try.func20, Try.ntmps20
  go_wp2_with fail
  go_loopw [0, 6] (fun nv iv wr => ∃ q : Nat, q ≤ size ∧ iv = .int .i64 ((q : Int) - 1) ∧ nv = .int .i64 (n / 2 ^ (8 * (size - q))) ∧ wr.ownsRow w.heap.size 5 1 (.slice (some ⟨w.heap.size, 0, none⟩) size size) size ((List.replicate q 0 ++ beL n (size - q)).map (Value.int .u8)) ∧ Below w.heap.size w wr) (fun _ iv _ => (intOf iv + 1).toNat)
  case atStart =>
    refine ⟨size, Nat.le_refl _, rfl, by simp, ?_, (Below.refl w.heap.size w).alloc (Nat.le_refl _) _⟩
    have h := World.ownsRow_lit (base := w.heap.size) (e := 5) (size := 1) w (madeCells #[.int .u8 0] size) size (Nat.le_refl _) (by unfold maxLen; omega) (by simp [size_madeCells])
    have e : (List.replicate size 0 ++ beL n (size - size)).map (Value.int .u8) = (madeCells #[Value.int .u8 0] size).toList := by
      rw [Nat.sub_self]
      apply List.ext_getElem?
      intro i
      by_cases h : i < size <;> simp [madeCells, h, Nat.mod_one, beL]
    rw [e]
    exact h
  case round =>
    obtain ⟨q, hq, rfl, rfl, hown, hb⟩ := hrel
    cases q with
    | zero =>
      have e0 : ((0 : Nat) : Int) - 1 = -1 := rfl
      rw [e0]
      rw [Nat.sub_zero] at hown ⊢
      simp only [List.replicate_zero, List.nil_append] at hown
      have hcv := run_convert_bytes_arg (P := Try.prog) wr 36 5 Try.underlying36 Try.underlying5 w.heap.size 0 size size (beL n size) (beL_length n size) (fun i hi => by
        rw [Nat.zero_add, hown.cellAt i (by omega), List.getElem?_map]
        have hl : i < (beL n size).length := by rw [beL_length]; exact hi
        rw [List.getElem?_eq_getElem hl, List.getD_eq_getElem?_getD, List.getElem?_eq_getElem hl]; rfl) 9 Try.underlying9
      obtain ⟨S, hS⟩ : ∃ S, S = strOfNums (beL n size) := ⟨_, rfl⟩
      rw [← hS] at hcv
      have HO := hide hown
      have HS := hide hS
      clear hS hown
      go_wp2_with fail
      go_ret
      exact ⟨by rw [unhide HS]; rfl, hb⟩
    | succ q =>
      have e0 : ((q + 1 : Nat) : Int) - 1 = q := by omega
      rw [e0]
      have hc : ∃ x, wr.cell? ⟨w.heap.size, q, none⟩ = some x := by
        rw [hown.cellAt q (by omega)]
        have hl : q < ((List.replicate (q + 1) 0 ++ beL n (size - (q + 1))).map (Value.int .u8)).length := by simp; omega
        exact ⟨_, List.getElem?_eq_getElem hl⟩
      obtain ⟨x, hc⟩ := hc
      have hf := hown.frozenAt q
      have hst := hide (hown.stored q (.int .u8 (n / 2 ^ (8 * (size - (q + 1))) % 256))).1
      have hcons := hide (beL_cons n (size - (q + 1)))
      have hdiv := hide (pow8_div n (size - (q + 1)))
      have hnn : 0 ≤ n / 2 ^ (8 * (size - (q + 1))) := Int.ediv_nonneg hn (Int.le_of_lt (Int.pow_pos (by decide)))
      have hnm : n / 2 ^ (8 * (size - (q + 1))) ≤ 9223372036854775807 := Int.le_trans (Int.ediv_le_self _ hn) (unhide Hn1)
      obtain ⟨r, hr⟩ : ∃ r, r = n / 2 ^ (8 * (size - (q + 1))) := ⟨_, rfl⟩
      rw [← hr] at hst hcons hdiv hnn hnm ⊢
      have HB := hide hb
      clear hown hr hb
      go_wp2_with fail
      go_roundw
      case rel =>
        have eq1 : size - q = size - (q + 1) + 1 := by omega
        refine ⟨q, by omega, by go_num, by rw [eq1, unhide hdiv], ?_, (unhide HB).setCell (Nat.le_refl _) _⟩
        rw [eq1, unhide hcons, ← set_front]
        exact unhide hst
      case measure => simp [intOf]

end Go.Proofs.Ytaggnncndbdmjaa
