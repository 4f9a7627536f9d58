/- impl's spread: the bits of a byte put at bit i and those behind it. -/
import Derived.Test.YtbljelopgalkgaaDoorBj1
namespace Go.Proofs.YtbljelopgalkgaaDoor
open Go.RowKit Go.Deep

/-- A byte's bits added at byte j. -/
def orAt (ys : List Int) (j : Nat) (x : Int) : List Int := ys.set j (bits .or .u8 (ys.getD j 0) x)
theorem orAt_length (ys : List Int) (j : Nat) (x : Int) : (orAt ys j x).length = ys.length := by simp [orAt]
/-- The bits of the byte c at bit i and those behind it, as far as there are any. -/
def spreadL (ys : List Int) (i : Nat) (c : Int) : List Int := match decide (i / 8 + 1 < ys.length) with
  | true => orAt (orAt ys (i / 8) (c / 2 ^ (i % 8))) (i / 8 + 1) (c * 2 ^ (8 - i % 8) % 256)
  | false => orAt ys (i / 8) (c / 2 ^ (i % 8))
theorem spreadL_length (ys : List Int) (i : Nat) (c : Int) : (spreadL ys i c).length = ys.length := by unfold spreadL; split <;> simp [orAt_length]

set_option maxRecDepth 100000 in
theorem spread_any (R g m cap base i : Nat) (c : Int) (ys : List Int) (w : World) (h1 : w.cell? ⟨R, 1, none⟩ = some (.slice (some ⟨g, 0, none⟩) m cap))
    (hown : w.ownsRow base 5 1 (.slice (some ⟨g, 0, none⟩) m cap) m (u8s ys)) (hl : ys.length = m) (hp : i / 8 < m) (hm : m ≤ 100000) (hR : g ≠ R) :
    Calls Tryd.prog 34 #[.pointer (some ⟨R, 0, none⟩), .int .i64 i, .int .u8 c] w fun e w' => e = .returned (.tuple #[]) ∧ w'.ownsRow base 5 1 (.slice (some ⟨g, 0, none⟩) m cap) m (u8s (spreadL ys i c)) ∧
      (∀ q : Addr, q.block ≠ g → w'.cell? q = w.cell? q ∧ w'.frozen? q = w.frozen? q) ∧ Below g w w' ∧ w'.heap.size = w.heap.size := by
  have hy := own_cell hown (i / 8) hp
  have hf := hown.frozenAt (i / 8)
  obtain ⟨y, hye⟩ : ∃ y, y = ys.getD (i / 8) 0 := ⟨_, rfl⟩
  rw [← hye] at hy
  have HY := hide hye
  have HO := hide hown
  have HL := hide hl
  clear hye hown
  by_cases hlt : i / 8 + 1 < m
  · have hltI : (i : Int) / 8 + 1 < m := by omega
    go_enter Tryd.func34, Tryd.ntmps34
    go_wp2_with fail
    go_region
    obtain ⟨w2, hw2⟩ : ∃ w2, w2 = (w.setCell ⟨g, i / 8, none⟩ (.int .u8 (bits .or .u8 y (c / 2 ^ (i % 8))))).drew := ⟨_, rfl⟩
    rw [← hw2]
    have own2 : w2.ownsRow base 5 1 (.slice (some ⟨g, 0, none⟩) m cap) m (u8s (orAt ys (i / 8) (c / 2 ^ (i % 8)))) := by
      rw [hw2]; unfold orAt; rw [← unhide HY]; exact own_set (unhide HO) _ _
    have rr : ∀ q : Addr, q.block ≠ g → w2.cell? q = w.cell? q ∧ w2.frozen? q = w.frozen? q := fun q hq => by rw [hw2]; exact ⟨World.cell?_setCell_other _ _ _ _ (fun h => hq (congrArg Addr.block h).symm), by simp [go_sem]⟩
    have hb2 : Below g w w2 := by rw [hw2]; exact ((Below.refl g w).setCell (Nat.le_refl _) _).drew
    have hs2 : w2.heap.size = w.heap.size := by rw [hw2]; simp
    have r1 := (rr ⟨R, 1, none⟩ (fun h => hR h.symm)).1.trans h1
    have O2 := hide own2
    have HRR := hide rr
    have HB2 := hide hb2
    have HS2 := hide hs2
    have hz := own_cell own2 (i / 8 + 1) hlt
    have hg := own2.frozenAt (i / 8 + 1)
    obtain ⟨z, hze⟩ : ∃ z, z = (orAt ys (i / 8) (c / 2 ^ (i % 8))).getD (i / 8 + 1) 0 := ⟨_, rfl⟩
    rw [← hze] at hz
    have HZ := hide hze
    clear hw2 own2 rr hb2 hs2 hze h1 hy hf
    go_wp2_with fail
    go_region
    obtain ⟨w3, hw3⟩ : ∃ w3, w3 = (w2.setCell ⟨g, i / 8 + 1, none⟩ (.int .u8 (bits .or .u8 z (c * 2 ^ (8 - i % 8) % 256)))).drew := ⟨_, rfl⟩
    rw [← hw3]
    have own3 : w3.ownsRow base 5 1 (.slice (some ⟨g, 0, none⟩) m cap) m (u8s (spreadL ys i c)) := by
      have e : spreadL ys i c = orAt (orAt ys (i / 8) (c / 2 ^ (i % 8))) (i / 8 + 1) (c * 2 ^ (8 - i % 8) % 256) := by unfold spreadL; rw [decide_eq_true (by rw [unhide HL]; exact hlt)]
      rw [hw3, e]; unfold orAt; rw [unhide HZ]; exact own_set (unhide O2) _ _
    have rr : ∀ q : Addr, q.block ≠ g → w3.cell? q = w.cell? q ∧ w3.frozen? q = w.frozen? q := fun q hq => by rw [hw3]; exact ⟨(World.cell?_setCell_other _ _ _ _ (fun h => hq (congrArg Addr.block h).symm)).trans (unhide HRR q hq).1, (show _ = w2.frozen? q by simp [go_sem]).trans (unhide HRR q hq).2⟩
    have hb3 : Below g w w3 := by rw [hw3]; exact ((unhide HB2).setCell (Nat.le_refl _) _).drew
    have hs3 : w3.heap.size = w.heap.size := by rw [hw3]; simpa using unhide HS2
    have HE := hide (And.intro own3 (And.intro rr (And.intro hb3 hs3)))
    clear hw3 own3 rr hb3 hs3 r1 hz hg
    go_end0
    exact ⟨rfl, (unhide HE).1, (unhide HE).2.1, (unhide HE).2.2.1, (unhide HE).2.2.2⟩
  · have hltI : ¬ (i : Int) / 8 + 1 < m := by omega
    go_enter Tryd.func34, Tryd.ntmps34
    go_wp2_with fail
    go_region
    obtain ⟨w2, hw2⟩ : ∃ w2, w2 = (w.setCell ⟨g, i / 8, none⟩ (.int .u8 (bits .or .u8 y (c / 2 ^ (i % 8))))).drew := ⟨_, rfl⟩
    rw [← hw2]
    have own2 : w2.ownsRow base 5 1 (.slice (some ⟨g, 0, none⟩) m cap) m (u8s (orAt ys (i / 8) (c / 2 ^ (i % 8)))) := by
      rw [hw2]; unfold orAt; rw [← unhide HY]; exact own_set (unhide HO) _ _
    have rr : ∀ q : Addr, q.block ≠ g → w2.cell? q = w.cell? q ∧ w2.frozen? q = w.frozen? q := fun q hq => by rw [hw2]; exact ⟨World.cell?_setCell_other _ _ _ _ (fun h => hq (congrArg Addr.block h).symm), by simp [go_sem]⟩
    have hb2 : Below g w w2 := by rw [hw2]; exact ((Below.refl g w).setCell (Nat.le_refl _) _).drew
    have hs2 : w2.heap.size = w.heap.size := by rw [hw2]; simp
    have r1 := (rr ⟨R, 1, none⟩ (fun h => hR h.symm)).1.trans h1
    have O2 := hide own2
    have HRR := hide rr
    have HB2 := hide hb2
    have HS2 := hide hs2
    clear hw2 own2 rr hb2 hs2 h1 hy hf
    go_wp2_with fail
    go_end0
    have e : spreadL ys i c = orAt ys (i / 8) (c / 2 ^ (i % 8)) := by unfold spreadL; rw [decide_eq_false (by rw [unhide HL]; exact hlt)]
    exact ⟨rfl, by rw [e]; exact unhide O2, unhide HRR, unhide HB2, unhide HS2⟩

end Go.Proofs.YtbljelopgalkgaaDoor
