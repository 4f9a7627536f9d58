/- impl's way inward: pairsOf, a copy of a row of values as pairs. -/
import Derived.Test.YtaggnncndbdmjaaRow
import Derived.Deep.RegionLaw
namespace Go.Proofs.Ytaggnncndbdmjaa
open Go.RowKit

theorem run_mkp (n : Nat) (hn : n ≤ 2000) (w : World) : (Instr.makeSlice 78 (.int .i64 0) (.int .i64 n)).run Try.prog w =
    .ok (.slice (some ⟨w.heap.size, 0, none⟩) 0 n) (w.alloc (.cells (madeCells #[.nilIface, .nilIface] (n * 2)) 90)) := by
  have := run_make (P := Try.prog) w 78 90 (Try.prog.types[90]!) (.agg #[.nilIface, .nilIface]) (by kernel_rfl) (by kernel_rfl) (by kernel_rfl) .i64 .i64 0 n (Int.le_refl _) (by omega)
    (by rw [show (Try.prog.types[90]!).bytes = 32 from by kernel_rfl]; omega) (by omega)
  rw [this, show (Try.prog.types[90]!).size = 2 from by kernel_rfl]
  simp [Value.cells]
theorem infoP : (Try.prog.info? 90).map (fun i => (i.zero, i.size, i.bytes)) = some (some (.agg #[.nilIface, .nilIface]), 2, 32) := by kernel_rfl

theorem below_set2 {B : Nat} {w w' : World} (h : Below B w w') (o : Nat) (v1 v2 : Value) : Below B w (w'.setCells B o [v1, v2]) :=
  ((h.setCell (p := ⟨B, _, none⟩) (Nat.le_refl B) _).setCell (p := ⟨B, _, none⟩) (Nat.le_refl B) _)

set_option maxRecDepth 40000 in
set_option maxHeartbeats 4000000 in
theorem pairsOf_any (vs : List Value) (L p R0 cap : Nat) (w : World) (hvs : vs.length = L) (hL : L = 2 * p) (hp : p ≤ 1000) (hcap : L ≤ cap) (hR0 : 0 < L → R0 < w.heap.size)
    (hcell : ∀ j (hj : j < vs.length), w.cell? ⟨R0, j, none⟩ = some vs[j]) (hface : ∀ v ∈ vs, ∃ u x, v = .iface u x) :
    Calls Try.prog 39 #[.slice (some ⟨R0, 0, none⟩) L cap] w fun e w' => e = .returned (.slice (some ⟨w.heap.size, 0, none⟩) p p) ∧ w.heap.size < w'.heap.size ∧
      (∀ j (hj : j < vs.length), w'.cell? ⟨w.heap.size, j, none⟩ = some vs[j]) ∧ Below w.heap.size w w' := by
  obtain ⟨i0, hi0, hz0, hz1, hz2⟩ := info_parts infoP
  have hq : ((p : Nat) : Int) = (L : Int) / 2 := by omega
  have hmk := run_mkp p (by omega)
  rw [hq] at hmk
  have hLn : L ≤ 2000 := by omega
  have HL := hide hL
  have HR0 := hide hR0
  have HVS := hide hvs
  clear hq hL hvs hR0
  go_enter Try.func39, Try.ntmps39
  go_wp2_with fail
  clear hmk
  go_loopw [3, 4] (fun rv iv wr => ∃ q y : Nat, Hid (y = 2 * q) ∧ y ≤ L ∧ iv = .int .i64 y ∧ rv = .slice (some ⟨w.heap.size, 0, none⟩) q p ∧ Below w.heap.size w wr ∧ Row w.heap.size 90 (p * 2) wr ∧
      ∀ j (hj : j < vs.length), j < y → wr.cell? ⟨w.heap.size, j, none⟩ = some vs[j]) (fun _ iv _ => L - (intOf iv).toNat)
  case atStart =>
    refine ⟨0, 0, hide rfl, by omega, rfl, rfl, (Below.refl _ _).alloc (Nat.le_refl _) _, ?_, fun j _ hj => absurd hj (by omega)⟩
    have := Row.new (e := 90) w (madeCells #[.nilIface, .nilIface] (p * 2))
    rwa [size_madeCells] at this
  case round =>
    obtain ⟨q, y, HY, hyL, rfl, rfl, hb, hrow, hall⟩ := hrel
    by_cases hlt : y < L
    · have h1 : y + 1 < L := by have := unhide HY; have := unhide HL; omega
      have g1 : y < vs.length := by have := unhide HVS; omega
      have g2 : y + 1 < vs.length := by have := unhide HVS; omega
      have f1 : wr.cell? ⟨R0, y, none⟩ = some vs[y] := (World.cell?_of_block (w := w) (hb.block _ (unhide HR0 (by omega)))).trans (hcell y g1)
      have f2 : wr.cell? ⟨R0, y + 1, none⟩ = some vs[y + 1] := (World.cell?_of_block (w := w) (hb.block _ (unhide HR0 (by omega)))).trans (hcell (y + 1) g2)
      obtain ⟨u1, x1, e1⟩ := hface _ (List.getElem_mem g1)
      obtain ⟨u2, x2, e2⟩ := hface _ (List.getElem_mem g2)
      have E1 := hide e1
      have E2 := hide e2
      rw [e1] at f1
      rw [e2] at f2
      clear e1 e2
      have hrm : q + 1 ≤ p := by have := unhide HY; have := unhide HL; omega
      obtain ⟨z0, r0⟩ := hrow.cell (o := q * 2) (by omega)
      obtain ⟨z1, r1⟩ := hrow.cell (o := q * 2 + 1) (by omega)
      have r2 := hrow.frozen (q * 2)
      have r3 := hrow.frozen (q * 2 + 1)
      have HALL := hide hall
      have HC := hide hcell
      have HF := hide hface
      have hwl := hrow.lt
      clear hall hcell hface
      go_wp2_with fail
      have w0 : IntKind.i64.wrap ((y : Int) + 1) = (y : Int) + 1 := by simp [IntKind.wrap, IntKind.bits, IntKind.signed]; omega
      have w1 : (0 : Int) ≤ (y : Int) + 1 := by omega
      have w2 : (y : Int) + 1 < (L : Int) := by omega
      have w3 : ((y : Int) + 1).toNat = y + 1 := by omega
      go_region
      go_wp2_with fail
      go_roundw
      case rel =>
        have hS := Row.set (hrow.set (q * 2) (.iface u1 x1)) (q * 2 + 1) (.iface u2 x2)
        have hx := hrow.set (q * 2) (.iface u1 x1)
        refine ⟨q + 1, y + 2, hide (by have := unhide HY; omega), by omega, by go_num, rfl, ?_, ?_, fun j hj hjy => ?_⟩
        · exact (((hb.setCell (p := ⟨w.heap.size, q * 2, none⟩) (Nat.le_refl w.heap.size) _).setCell (p := ⟨w.heap.size, q * 2 + 1, none⟩) (Nat.le_refl w.heap.size) _).alloc (by simp; omega) _).drew
        · exact hS.keep (Below.heap_alloc _ _ _ hS.lt)
        · have hy2 := unhide HY
          refine (World.cell?_of_block (Below.heap_alloc _ _ _ hS.lt)).trans ?_
          by_cases hj1 : j < y
          · rw [hx.set_ne (by omega), hrow.set_ne (by omega)]; exact (unhide HALL) j hj hj1
          · by_cases hj2 : j = y
            · subst hj2
              rw [hx.set_ne (by omega), unhide E1]
              have hg := hrow.set_get (o := q * 2) (by omega) (.iface u1 x1)
              have he : q * 2 = j := by omega
              rwa [he] at hg ⊢
            · have hj3 : j = y + 1 := by omega
              subst hj3
              rw [unhide E2]
              have hg := hx.set_get (o := q * 2 + 1) (by omega) (.iface u2 x2)
              have he : q * 2 = y := by omega
              rwa [he] at hg ⊢
      case measure => simp [intOf]; omega
    · have hye : y = L := by omega
      subst hye
      have HALL := hide hall
      have HC := hide hcell
      have HF := hide hface
      have hwl := hrow.lt
      have hqp : q = p := by have := unhide HY; have := unhide HL; omega
      subst hqp
      clear hall hcell hface
      go_wp2_with fail
      go_ret
      exact ⟨rfl, hwl, fun j hj => (unhide HALL) j hj (by have := unhide HVS; omega), hb⟩

end Go.Proofs.Ytaggnncndbdmjaa
