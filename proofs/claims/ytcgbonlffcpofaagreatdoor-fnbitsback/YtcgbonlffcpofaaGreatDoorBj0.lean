/- spec.l02Row: the bits of a row, a byte each: the slice is never nil. -/
import Derived.Test.YtcgbonlffcpofaaGreatDoorQ9
import Derived.Lib.SmallJoins
import Derived.WalkSpells
import Derived.WalkLawsBesides
import Derived.BigQuiet
namespace Go.Proofs.YtcgbonlffcpofaaGreatDoor
open Go.RowKit

set_option maxRecDepth 100000 in
theorem row_some (n : Int) (s : ByteArray) (w : World) (hn : n ≤ 8 * s.size) (hs : n ≤ 1000000000) :
    Calls Tryz.prog 14 #[.agg #[.int .i64 n, .string s]] w fun e w' => ∃ g cap, e = .returned (.slice (some ⟨g, 0, none⟩) n.toNat cap) ∧ w'.ownsRow w.heap.size 5 1 (.slice (some ⟨g, 0, none⟩) n.toNat cap) n.toNat (u8s (bitsOf s n.toNat)) ∧ Below w.heap.size w w' := by
  obtain ⟨i0, hi, hz0, hz1, hz2⟩ := info_parts info_u8
  go_enter Tryz.func14, Tryz.ntmps14
  go_wp2_with fail
  go_loopw [3, 4] (fun v iv wr => ∃ k : Nat, k ≤ n.toNat ∧ iv = .int .i64 k ∧ wr.ownsRow (w.heap.size + 1) 5 1 v k (u8s (bitsOf s k)) ∧ v ≠ .slice none 0 0 ∧ wr.cell? ⟨w.heap.size, 0, none⟩ = some (.int .i64 n) ∧
      wr.cell? ⟨w.heap.size, 1, none⟩ = some (.string s) ∧ Below (w.heap.size + 1) (w.alloc (.cells #[.int .i64 n, .string s] 27)) wr) (fun _ iv _ => n.toNat - (intOf iv).toNat)
  case atStart =>
    refine ⟨0, Nat.zero_le _, rfl, by have h := World.ownsRow_lit (base := w.heap.size + 1) (e := 5) (size := 1) (w.alloc (.cells #[.int .i64 n, .string s] 27)) #[] 0 (by simp) (by decide) rfl; simpa [u8s, bitsOf] using h, by simp, ?_, ?_, (Below.refl _ _).alloc (by simp) _⟩
    · exact (World.cell?_alloc_past _ _ _ (by simp)).trans (two_new _ _ _ _).1
    · exact (World.cell?_alloc_past _ _ _ (by simp)).trans (two_new _ _ _ _).2
  case round =>
    obtain ⟨k, hk, rfl, hown, hnn, hc0, hc1, hb⟩ := hrel
    have hsz := hb.size
    simp only [World.size_alloc] at hsz
    by_cases hlt : (k : Int) < n
    · have hkl : k / 8 < s.size := by omega
      go_wp2_with (at_builtin; refine wpList_append_own _ rfl (.tmp 12) (.tmp 24) 22 rfl (w.heap.size + 1) 5 i0 (.int .u8 0) 1 1 Tryz.underlying22 hi hz0 hz1 hz2 rfl (by decide) _ _ _ rfl (hown.alloc _) ⟨wr.heap.size, 0, none⟩ 1 1 [.int .u8 (bit s k)] rfl rfl ?c1 ?c2 ?c3 ?c4 ?c5 ?_)
      case c1 => rw [bit_walk s k hkl]; exact cell_one_new _ _ _
      case c2 => intro u hu; simp at hu; subst hu; rfl
      case c3 => unfold maxLen; omega
      case c4 => omega
      case c5 => simp; omega
      intro v' w1 hown' hgrow hni
      have hn' : v' ≠ .slice none 0 0 := fun h => hni h
      have hne : some w.heap.size ≠ u3.ownBlock := fun h => by have := (hown.lt _ h.symm).1; omega
      have hB1 : Below (w.heap.size + 1) (w.alloc (.cells #[.int .i64 n, .string s] 27)) w1 := (hb.alloc hsz _).grown hgrow (by simp; omega) (fun j hj => (hown.lt j hj).1)
      have hd0 := (hgrow.cell (a := ⟨w.heap.size, 0, none⟩) ((World.cell?_alloc_past _ _ _ (by show w.heap.size < _; omega)).trans hc0) hne)
      have hd1 := (hgrow.cell (a := ⟨w.heap.size, 1, none⟩) ((World.cell?_alloc_past _ _ _ (by show w.heap.size < _; omega)).trans hc1) hne)
      have hown2 : w1.ownsRow (w.heap.size + 1) 5 1 v' (k + 1) (u8s (bitsOf s (k + 1))) := by rw [bitsOf_succ]; simpa [u8s] using hown'
      clear hown' hown hb hc0 hc1 hgrow
      go_wp2
      go_roundw
      case rel => exact ⟨k + 1, by omega, by go_num, hown2, hn', hd0, hd1, hB1⟩
      case measure => simp [intOf]; omega
    · have hkn : n.toNat = k := by omega
      go_wp2_with fail
      go_ret
      rcases Go.Joins.ownsRow_forms hown with ⟨h, _⟩ | ⟨g, cap, rfl⟩
      · exact absurd h hnn
      exact ⟨g, cap, rfl, ownsRow_base hown (by omega), ((Below.refl w.heap.size w).alloc (Nat.le_refl _) _).trans (hb.mono (by omega))⟩

end Go.Proofs.YtcgbonlffcpofaaGreatDoor
