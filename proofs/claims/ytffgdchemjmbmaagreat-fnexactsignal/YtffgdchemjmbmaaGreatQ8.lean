/- What an exit signal does, and spec.Signal. -/
import Derived.Test.YtffgdchemjmbmaaGreatQ7
import Derived.Test.YtffgdchemjmbmaaGreatQ6
import Derived.Deep.RegionHeld3
namespace Go.Proofs.YtffgdchemjmbmaaGreat
open Go.RowKit Go.Deep

def atT (n : Nat) (s : ByteArray) : Tm (n + 1) := ((2 : Int), (0 : Int), s, ([] : List (Tm n)))
def zerT (n : Nat) : Tm (n + 1) := ((0 : Int), (0 : Int), (⟨#[]⟩ : ByteArray), ([] : List (Tm n)))
def killS : ByteArray := ⟨#[107, 105, 108, 108]⟩
def killedS : ByteArray := ⟨#[107, 105, 108, 108, 101, 100]⟩
def normalS : ByteArray := ⟨#[110, 111, 114, 109, 97, 108]⟩
/-- What becomes of one who gets the signal. -/
def sigA {n : Nat} (trap link : Bool) (t : Tm (n + 1)) : Int × Tm (n + 1) × Int :=
  if okB (n + 1) t = false then (0, zerT n, 1) else if link = false ∧ sameB t (atT 0 killS) = true then (2, atT n killedS, 0) else if trap = true then (1, zerT n, 0)
  else if sameB t (atT 0 normalS) = true then (0, zerT n, 0) else (2, t, 0)
def SigS {n : Nat} (w : World) (A : Int × Tm (n + 1) × Int) (e : Ending) (w' : World) : Prop :=
  Below w.heap.size w w' ∧ ∃ d0 d1 d2 d3, e = .returned (.tuple #[.int .i64 A.1, .agg #[d0, d1, d2, d3], .int .i64 A.2.2]) ∧ TAt (Fresh w w') w' (n + 1) A.2.1 d0 d1 d2 d3
theorem atT_at {n : Nat} (S : Nat → Prop) (w : World) (s : ByteArray) (hs : s.size ≤ 2 ^ 47) : TAt S w (n + 1) (atT n s) (.int .i64 2) (.int .i64 0) (.string s) (.slice none 0 0) :=
  ⟨rfl, rfl, rfl, by unfold In64; omega, by unfold In64; omega, hs, none, 0, rfl, Nat.le_refl _, by simp, fun i hi => by cases hi⟩
theorem zerT_at {n : Nat} (S : Nat → Prop) (w : World) : TAt S w (n + 1) (zerT n) (.int .i64 0) (.int .i64 0) (.string ⟨#[]⟩) (.slice none 0 0) :=
  ⟨rfl, rfl, rfl, by unfold In64; omega, by unfold In64; omega, by simp [ByteArray.size], none, 0, rfl, Nat.le_refl _, by simp, fun i hi => by cases hi⟩

theorem sig_kill {n : Nat} {trap : Bool} {t : Tm (n + 1)} (h : okB (n + 1) t = true) (hk : sameB t (atT 0 killS) = true) : sigA trap false t = (2, atT n killedS, 0) := by
  unfold sigA; rw [if_neg (by rw [h]; simp), if_pos ⟨rfl, hk⟩]
theorem sig_not {link : Bool} {b : Bool} (h : (link || !b) = true) : ¬ (link = false ∧ b = true) := by cases link <;> cases b <;> simp_all
theorem sig_letter {n : Nat} {link : Bool} {t : Tm (n + 1)} (h : okB (n + 1) t = true) (hk : (link || !sameB t (atT 0 killS)) = true) : sigA true link t = (1, zerT n, 0) := by
  unfold sigA; rw [if_neg (by rw [h]; simp), if_neg (sig_not hk), if_pos rfl]
theorem sig_ignore {n : Nat} {link : Bool} {t : Tm (n + 1)} (h : okB (n + 1) t = true) (hk : (link || !sameB t (atT 0 killS)) = true) (hn : sameB t (atT 0 normalS) = true) : sigA false link t = (0, zerT n, 0) := by
  unfold sigA; rw [if_neg (by rw [h]; simp), if_neg (sig_not hk), if_neg (by simp), if_pos hn]
theorem sig_die {n : Nat} {link : Bool} {t : Tm (n + 1)} (h : okB (n + 1) t = true) (hk : (link || !sameB t (atT 0 killS)) = true) (hn : sameB t (atT 0 normalS) = false) : sigA false link t = (2, t, 0) := by
  unfold sigA; rw [if_neg (by rw [h]; simp), if_neg (sig_not hk), if_neg (by simp), if_neg (by rw [hn]; simp)]
theorem sig_tot {n : Nat} (trap link : Bool) (t : Tm (n + 1)) : tot (n + 1) (sigA trap link t).2.1 ≤ 100 + tot (n + 1) t := by
  have h1 : tot (n + 1) (zerT n) = 0 := by simp [zerT, tot, ByteArray.size]
  have h2 : tot (n + 1) (atT n killedS) = 6 := by simp [atT, killedS, tot, ByteArray.size]
  unfold sigA
  repeat' split
  all_goals first | (dsimp only; rw [h1]; omega) | (dsimp only; rw [h2]; omega) | (dsimp only; omega)
set_option maxRecDepth 40000 in
set_option maxHeartbeats 4000000 in
theorem sSignal_any {n : Nat} (trap link : Bool) (t : Tm (n + 1)) (c0 c1 c2 c3 : Value) (w : World) (ht : TAt (Under w.heap.size) w (n + 1) t c0 c1 c2 c3) :
    Calls Tryz.prog 5 #[.bool trap, .bool link, .agg #[c0, c1, c2, c3]] w (SigS w (sigA trap link t)) := by
  obtain ⟨k0, k1, k2, k3, k4, k5, rfl, rfl, rfl, rfl⟩ := ht.shape
  obtain ⟨W, hW⟩ : ∃ W, W = (w.alloc (.cells #[.int .i64 k0, .int .i64 k1, .string k2, .slice k3 k4 k5] 28)).alloc (.cells #[.int .i64 0, .int .i64 0, .string ⟨#[]⟩, .slice none 0 0] 28) := ⟨_, rfl⟩
  obtain ⟨n0, n1, _, _⟩ := two_news w (.cells #[.int .i64 k0, .int .i64 k1, .string k2, .slice k3 k4 k5] 28) (.cells #[.int .i64 0, .int .i64 0, .string ⟨#[]⟩, .slice none 0 0] 28)
  have hWs : W.heap.size = w.heap.size + 2 := by rw [hW]; simp
  have hWb : Below w.heap.size w W := by rw [hW]; exact below_two w _ _
  rw [← hW] at n0 n1
  have HK := hide (fun w' (hb : Below W.heap.size W w') => show w'.heap[w.heap.size]? = some (.cells #[.int .i64 k0, .int .i64 k1, .string k2, .slice k3 k4 k5] 28 (0, 0)) ∧ w'.heap[w.heap.size + 1]? = some (.cells #[.int .i64 0, .int .i64 0, .string ⟨#[]⟩, .slice none 0 0] 28 (0, 0)) ∧
      Below w.heap.size w w' ∧ TAt (Under w'.heap.size) w' (n + 1) t (.int .i64 k0) (.int .i64 k1) (.string k2) (.slice k3 k4 k5) from ⟨(hb.block _ (by omega)).trans n0, (hb.block _ (by omega)).trans n1, hWb.trans (hb.mono hWb.size), (ht.up hWb).up hb⟩)
  have FIN := hide (fun (A : Int × Tm (n + 1) × Int) (hA : sigA trap link t = A) (w' : World) (hb : Below W.heap.size W w') (d0 d1 d2 d3 : Value) (hd : TAt (fun b => W.heap.size ≤ b ∧ b < w'.heap.size) w' (n + 1) A.2.1 d0 d1 d2 d3) =>
    show SigS w (sigA trap link t) (.returned (.tuple #[.int .i64 A.1, .agg #[d0, d1, d2, d3], .int .i64 A.2.2])) (setL w' (w.heap.size + 1) 0 [d0, d1, d2, d3]) by
      obtain ⟨_, h1, hB, _⟩ := unhide HK w' hb
      obtain ⟨_, _, r1, r2, r3⟩ := setL_facts (N := 4) (e := 28) [d0, d1, d2, d3] (w := w') (B := w.heap.size + 1) (o := 0) ⟨_, h1, rfl⟩ (by simp)
      rw [hA]
      refine ⟨hB.trans (r1.mono (by omega)), d0, d1, d2, d3, rfl, (hd.keep fun b hb => r2 b (by have := hb.1; omega)).mono fun b hb => ⟨by have := hb.1; omega, by rw [r3]; exact hb.2⟩⟩)
  have hOK := hide (sOK_any t _ _ _ _ W (ht.up hWb))
  clear ht
  go_enter Tryz.func5, Tryz.ntmps5
  go_wp2_with fail
  rw [← hW]
  clear hW n0 n1
  refine (unhide hOK).mono ?_
  rintro e w1 ⟨rfl, hb1⟩
  obtain ⟨q0, q1, hB1, hT1⟩ := unhide HK w1 hb1
  have p0 := cell_of_heap q0
  have b0 : w1.cell? ⟨w.heap.size, 0, none⟩ = some (.int .i64 k0) := p0 0
  have b1 : w1.cell? ⟨w.heap.size, 1, none⟩ = some (.int .i64 k1) := p0 1
  have b2 : w1.cell? ⟨w.heap.size, 2, none⟩ = some (.string k2) := p0 2
  have b3 : w1.cell? ⟨w.heap.size, 3, none⟩ = some (.slice k3 k4 k5) := p0 3
  have p1 := cell_of_heap q1
  have y0 : w1.cell? ⟨w.heap.size + 1, 0, none⟩ = some (.int .i64 0) := p1 0
  have y1 : w1.cell? ⟨w.heap.size + 1, 1, none⟩ = some (.int .i64 0) := p1 1
  have y2 : w1.cell? ⟨w.heap.size + 1, 2, none⟩ = some (.string ⟨#[]⟩) := p1 2
  have y3 : w1.cell? ⟨w.heap.size + 1, 3, none⟩ = some (.slice none 0 0) := p1 3
  have f1 := frozen_of_heap q1
  have Hw1 := hide hb1
  have HTw1 := hide hT1
  clear p0 p1 q0 q1 hb1 hT1
  cases hok : okB (n + 1) t
  · have hA : sigA trap link t = (0, zerT n, 1) := by unfold sigA; rw [if_pos hok]
    have F := hide (unhide FIN _ hA w1 (unhide Hw1) _ _ _ _ (zerT_at _ _))
    clear hA hok
    go_wp2_with fail
    refine bodyPost_ret (v := .tuple #[.int .i64 0, .agg #[.int .i64 0, .int .i64 0, .string ⟨#[]⟩, .slice none 0 0], .int .i64 1]) (by simp [results, Tryz.results5, go_sem, y0, y1, y2, y3]) rfl ?_
    exact unhide F
  have hsz : siz (n + 1) t ≤ 4000 := by have := okB_siz hok; omega
  cases link
  · cases hk : sameB t (atT 0 killS)
    · have hnk := hide (show (false || !sameB t (atT 0 killS)) = true by rw [hk]; rfl)
      have F0 : ∀ x : LaterW w1.heap.size w1, x.wd.cell? ⟨w.heap.size, 0, none⟩ = some (.int .i64 k0) := fun x => (bcell x.be _ _ (by have := (unhide Hw1).size; omega)).trans b0
      have F1 : ∀ x : LaterW w1.heap.size w1, x.wd.cell? ⟨w.heap.size, 1, none⟩ = some (.int .i64 k1) := fun x => (bcell x.be _ _ (by have := (unhide Hw1).size; omega)).trans b1
      have F2 : ∀ x : LaterW w1.heap.size w1, x.wd.cell? ⟨w.heap.size, 2, none⟩ = some (.string k2) := fun x => (bcell x.be _ _ (by have := (unhide Hw1).size; omega)).trans b2
      have F3 : ∀ x : LaterW w1.heap.size w1, x.wd.cell? ⟨w.heap.size, 3, none⟩ = some (.slice k3 k4 k5) := fun x => (bcell x.be _ _ (by have := (unhide Hw1).size; omega)).trans b3
      clear b0 b1 b2 b3 y0 y1 y2 y3 f1
      go_wp2_with fail
      haveI hne : Nonempty (LaterW w1.heap.size w1) := ⟨⟨w1, Below.refl _ _⟩⟩
      refine wp_region_later w1.heap.size (by kernel_rfl) (by kernel_rfl) ?_
      repeat (go_big_quiet_step (first
        | (go_at_call 14; rename_i x; exact Calls.later (v := .agg #[.int .i64 2, .int .i64 0, .string killS, .slice none 0 0]) (Nat.le_refl _) (mk_atom killS x.wd))
        | (go_at_call 13; rename_i x; exact Calls.later (v := .bool (sameB t (atT 0 killS))) (Nat.le_refl _) (same_any t (atT 0 killS) _ _ _ _ _ _ _ _ x.wd ((unhide HTw1).up x.be) (atT_at _ _ _ (by decide))))))
      refine wpQuiet_nil ?_
      rintro wa ⟨⟨_, hq⟩, rfl⟩
      have hbwa := (unhide Hw1).trans (hq.mono (unhide Hw1).size)
      clear F0 F1 F2 F3 hne hq
      obtain ⟨q0, q1, hBwa, hTwa⟩ := unhide HK wa hbwa
      have p0 := cell_of_heap q0
      have b0 : wa.cell? ⟨w.heap.size, 0, none⟩ = some (.int .i64 k0) := p0 0
      have b1 : wa.cell? ⟨w.heap.size, 1, none⟩ = some (.int .i64 k1) := p0 1
      have b2 : wa.cell? ⟨w.heap.size, 2, none⟩ = some (.string k2) := p0 2
      have b3 : wa.cell? ⟨w.heap.size, 3, none⟩ = some (.slice k3 k4 k5) := p0 3
      have p1 := cell_of_heap q1
      have y0 : wa.cell? ⟨w.heap.size + 1, 0, none⟩ = some (.int .i64 0) := p1 0
      have y1 : wa.cell? ⟨w.heap.size + 1, 1, none⟩ = some (.int .i64 0) := p1 1
      have y2 : wa.cell? ⟨w.heap.size + 1, 2, none⟩ = some (.string ⟨#[]⟩) := p1 2
      have y3 : wa.cell? ⟨w.heap.size + 1, 3, none⟩ = some (.slice none 0 0) := p1 3
      have f1 := frozen_of_heap q1
      clear p0 p1 q0 q1
      have Hwa := hide hbwa
      have HTwa := hide hTwa
      clear hbwa hTwa
      try rw [hk]
      cases trap
      · cases hn : sameB t (atT 0 normalS)
        · have hA := sig_die (link := false) hok (unhide hnk) hn
          have F0 : ∀ x : LaterW wa.heap.size wa, x.wd.cell? ⟨w.heap.size, 0, none⟩ = some (.int .i64 k0) := fun x => (bcell x.be _ _ (by have := (unhide Hwa).size; omega)).trans b0
          have F1 : ∀ x : LaterW wa.heap.size wa, x.wd.cell? ⟨w.heap.size, 1, none⟩ = some (.int .i64 k1) := fun x => (bcell x.be _ _ (by have := (unhide Hwa).size; omega)).trans b1
          have F2 : ∀ x : LaterW wa.heap.size wa, x.wd.cell? ⟨w.heap.size, 2, none⟩ = some (.string k2) := fun x => (bcell x.be _ _ (by have := (unhide Hwa).size; omega)).trans b2
          have F3 : ∀ x : LaterW wa.heap.size wa, x.wd.cell? ⟨w.heap.size, 3, none⟩ = some (.slice k3 k4 k5) := fun x => (bcell x.be _ _ (by have := (unhide Hwa).size; omega)).trans b3
          clear b0 b1 b2 b3 y0 y1 y2 y3 f1
          go_wp2_with fail
          haveI hne : Nonempty (LaterW wa.heap.size wa) := ⟨⟨wa, Below.refl _ _⟩⟩
          refine wp_region_later wa.heap.size (by kernel_rfl) (by kernel_rfl) ?_
          repeat (go_big_quiet_step (first
            | (go_at_call 14; rename_i x; exact Calls.later (v := .agg #[.int .i64 2, .int .i64 0, .string normalS, .slice none 0 0]) (Nat.le_refl _) (mk_atom normalS x.wd))
            | (go_at_call 13; rename_i x; exact Calls.later (v := .bool (sameB t (atT 0 normalS))) (Nat.le_refl _) (same_any t (atT 0 normalS) _ _ _ _ _ _ _ _ x.wd ((unhide HTwa).up x.be) (atT_at _ _ _ (by decide))))))
          refine wpQuiet_nil ?_
          rintro wb ⟨⟨_, hq⟩, rfl⟩
          have hbwb := (unhide Hwa).trans (hq.mono (unhide Hwa).size)
          clear F0 F1 F2 F3 hne hq
          obtain ⟨q0, q1, hBwb, hTwb⟩ := unhide HK wb hbwb
          have p0 := cell_of_heap q0
          have b0 : wb.cell? ⟨w.heap.size, 0, none⟩ = some (.int .i64 k0) := p0 0
          have b1 : wb.cell? ⟨w.heap.size, 1, none⟩ = some (.int .i64 k1) := p0 1
          have b2 : wb.cell? ⟨w.heap.size, 2, none⟩ = some (.string k2) := p0 2
          have b3 : wb.cell? ⟨w.heap.size, 3, none⟩ = some (.slice k3 k4 k5) := p0 3
          have p1 := cell_of_heap q1
          have y0 : wb.cell? ⟨w.heap.size + 1, 0, none⟩ = some (.int .i64 0) := p1 0
          have y1 : wb.cell? ⟨w.heap.size + 1, 1, none⟩ = some (.int .i64 0) := p1 1
          have y2 : wb.cell? ⟨w.heap.size + 1, 2, none⟩ = some (.string ⟨#[]⟩) := p1 2
          have y3 : wb.cell? ⟨w.heap.size + 1, 3, none⟩ = some (.slice none 0 0) := p1 3
          have f1 := frozen_of_heap q1
          clear p0 p1 q0 q1
          have Hwb := hide hbwb
          have HTwb := hide hTwb
          clear hbwb hTwb
          try rw [hn]
          have HC := hide (cpy_any (n + 1) t _ _ _ _ wb (unhide HTwb) hsz)
          go_wp2_with fail
          refine (unhide HC).mono ?_
          rintro e wc ⟨d0, d1, d2, d3, rfl, hd, hbc⟩
          obtain ⟨x0, x1, x2, x3, x4, x5, rfl, rfl, rfl, rfl⟩ := hd.shape
          have hbwc := (unhide Hwb).trans (hbc.mono (unhide Hwb).size)
          have F := hide (unhide FIN _ hA wc hbwc _ _ _ _ (hd.mono fun b hb => ⟨by have := hb.1; have := (unhide Hwb).size; omega, hb.2⟩))
          obtain ⟨_, q1, _, _⟩ := unhide HK wc hbwc
          have p1 := cell_of_heap q1
          have y0 : wc.cell? ⟨w.heap.size + 1, 0, none⟩ = some (.int .i64 0) := p1 0
          have y1 : wc.cell? ⟨w.heap.size + 1, 1, none⟩ = some (.int .i64 0) := p1 1
          have y2 : wc.cell? ⟨w.heap.size + 1, 2, none⟩ = some (.string ⟨#[]⟩) := p1 2
          have y3 : wc.cell? ⟨w.heap.size + 1, 3, none⟩ = some (.slice none 0 0) := p1 3
          have f1 := frozen_of_heap q1
          clear p1 q1 hd hbc hbwc HC hA b0 b1 b2 b3
          go_wp2_with fail
          refine bodyPost_ret (v := .tuple #[.int .i64 2, .agg #[.int .i64 x0, .int .i64 x1, .string x2, .slice x3 x4 x5], .int .i64 0]) (by simp [results, Tryz.results5, go_sem, y0, y1, y2, y3]) rfl ?_
          exact unhide F
        · have hA := sig_ignore (link := false) hok (unhide hnk) hn
          have F0 : ∀ x : LaterW wa.heap.size wa, x.wd.cell? ⟨w.heap.size, 0, none⟩ = some (.int .i64 k0) := fun x => (bcell x.be _ _ (by have := (unhide Hwa).size; omega)).trans b0
          have F1 : ∀ x : LaterW wa.heap.size wa, x.wd.cell? ⟨w.heap.size, 1, none⟩ = some (.int .i64 k1) := fun x => (bcell x.be _ _ (by have := (unhide Hwa).size; omega)).trans b1
          have F2 : ∀ x : LaterW wa.heap.size wa, x.wd.cell? ⟨w.heap.size, 2, none⟩ = some (.string k2) := fun x => (bcell x.be _ _ (by have := (unhide Hwa).size; omega)).trans b2
          have F3 : ∀ x : LaterW wa.heap.size wa, x.wd.cell? ⟨w.heap.size, 3, none⟩ = some (.slice k3 k4 k5) := fun x => (bcell x.be _ _ (by have := (unhide Hwa).size; omega)).trans b3
          clear b0 b1 b2 b3 y0 y1 y2 y3 f1
          go_wp2_with fail
          haveI hne : Nonempty (LaterW wa.heap.size wa) := ⟨⟨wa, Below.refl _ _⟩⟩
          refine wp_region_later wa.heap.size (by kernel_rfl) (by kernel_rfl) ?_
          repeat (go_big_quiet_step (first
            | (go_at_call 14; rename_i x; exact Calls.later (v := .agg #[.int .i64 2, .int .i64 0, .string normalS, .slice none 0 0]) (Nat.le_refl _) (mk_atom normalS x.wd))
            | (go_at_call 13; rename_i x; exact Calls.later (v := .bool (sameB t (atT 0 normalS))) (Nat.le_refl _) (same_any t (atT 0 normalS) _ _ _ _ _ _ _ _ x.wd ((unhide HTwa).up x.be) (atT_at _ _ _ (by decide))))))
          refine wpQuiet_nil ?_
          rintro wb ⟨⟨_, hq⟩, rfl⟩
          have hbwb := (unhide Hwa).trans (hq.mono (unhide Hwa).size)
          clear F0 F1 F2 F3 hne hq
          obtain ⟨q0, q1, hBwb, hTwb⟩ := unhide HK wb hbwb
          have p0 := cell_of_heap q0
          have b0 : wb.cell? ⟨w.heap.size, 0, none⟩ = some (.int .i64 k0) := p0 0
          have b1 : wb.cell? ⟨w.heap.size, 1, none⟩ = some (.int .i64 k1) := p0 1
          have b2 : wb.cell? ⟨w.heap.size, 2, none⟩ = some (.string k2) := p0 2
          have b3 : wb.cell? ⟨w.heap.size, 3, none⟩ = some (.slice k3 k4 k5) := p0 3
          have p1 := cell_of_heap q1
          have y0 : wb.cell? ⟨w.heap.size + 1, 0, none⟩ = some (.int .i64 0) := p1 0
          have y1 : wb.cell? ⟨w.heap.size + 1, 1, none⟩ = some (.int .i64 0) := p1 1
          have y2 : wb.cell? ⟨w.heap.size + 1, 2, none⟩ = some (.string ⟨#[]⟩) := p1 2
          have y3 : wb.cell? ⟨w.heap.size + 1, 3, none⟩ = some (.slice none 0 0) := p1 3
          have f1 := frozen_of_heap q1
          clear p0 p1 q0 q1
          have Hwb := hide hbwb
          have HTwb := hide hTwb
          clear hbwb hTwb
          try rw [hn]
          have F := hide (unhide FIN _ hA wb (unhide Hwb) _ _ _ _ (zerT_at _ _))
          clear hA
          go_wp2_with fail
          refine bodyPost_ret (v := .tuple #[.int .i64 0, .agg #[.int .i64 0, .int .i64 0, .string ⟨#[]⟩, .slice none 0 0], .int .i64 0]) (by simp [results, Tryz.results5, go_sem, y0, y1, y2, y3]) rfl ?_
          exact unhide F
      · have hA := sig_letter (link := false) hok (unhide hnk)
        have F := hide (unhide FIN _ hA wa (unhide Hwa) _ _ _ _ (zerT_at _ _))
        clear hA
        go_wp2_with fail
        refine bodyPost_ret (v := .tuple #[.int .i64 1, .agg #[.int .i64 0, .int .i64 0, .string ⟨#[]⟩, .slice none 0 0], .int .i64 0]) (by simp [results, Tryz.results5, go_sem, y0, y1, y2, y3]) rfl ?_
        exact unhide F
    · have hA := sig_kill (trap := trap) hok hk
      have F0 : ∀ x : LaterW w1.heap.size w1, x.wd.cell? ⟨w.heap.size, 0, none⟩ = some (.int .i64 k0) := fun x => (bcell x.be _ _ (by have := (unhide Hw1).size; omega)).trans b0
      have F1 : ∀ x : LaterW w1.heap.size w1, x.wd.cell? ⟨w.heap.size, 1, none⟩ = some (.int .i64 k1) := fun x => (bcell x.be _ _ (by have := (unhide Hw1).size; omega)).trans b1
      have F2 : ∀ x : LaterW w1.heap.size w1, x.wd.cell? ⟨w.heap.size, 2, none⟩ = some (.string k2) := fun x => (bcell x.be _ _ (by have := (unhide Hw1).size; omega)).trans b2
      have F3 : ∀ x : LaterW w1.heap.size w1, x.wd.cell? ⟨w.heap.size, 3, none⟩ = some (.slice k3 k4 k5) := fun x => (bcell x.be _ _ (by have := (unhide Hw1).size; omega)).trans b3
      clear b0 b1 b2 b3 y0 y1 y2 y3 f1
      go_wp2_with fail
      haveI hne : Nonempty (LaterW w1.heap.size w1) := ⟨⟨w1, Below.refl _ _⟩⟩
      refine wp_region_later w1.heap.size (by kernel_rfl) (by kernel_rfl) ?_
      repeat (go_big_quiet_step (first
        | (go_at_call 14; rename_i x; exact Calls.later (v := .agg #[.int .i64 2, .int .i64 0, .string killS, .slice none 0 0]) (Nat.le_refl _) (mk_atom killS x.wd))
        | (go_at_call 13; rename_i x; exact Calls.later (v := .bool (sameB t (atT 0 killS))) (Nat.le_refl _) (same_any t (atT 0 killS) _ _ _ _ _ _ _ _ x.wd ((unhide HTw1).up x.be) (atT_at _ _ _ (by decide))))))
      refine wpQuiet_nil ?_
      rintro wa ⟨⟨_, hq⟩, rfl⟩
      have hbwa := (unhide Hw1).trans (hq.mono (unhide Hw1).size)
      clear F0 F1 F2 F3 hne hq
      obtain ⟨q0, q1, hBwa, hTwa⟩ := unhide HK wa hbwa
      have p0 := cell_of_heap q0
      have b0 : wa.cell? ⟨w.heap.size, 0, none⟩ = some (.int .i64 k0) := p0 0
      have b1 : wa.cell? ⟨w.heap.size, 1, none⟩ = some (.int .i64 k1) := p0 1
      have b2 : wa.cell? ⟨w.heap.size, 2, none⟩ = some (.string k2) := p0 2
      have b3 : wa.cell? ⟨w.heap.size, 3, none⟩ = some (.slice k3 k4 k5) := p0 3
      have p1 := cell_of_heap q1
      have y0 : wa.cell? ⟨w.heap.size + 1, 0, none⟩ = some (.int .i64 0) := p1 0
      have y1 : wa.cell? ⟨w.heap.size + 1, 1, none⟩ = some (.int .i64 0) := p1 1
      have y2 : wa.cell? ⟨w.heap.size + 1, 2, none⟩ = some (.string ⟨#[]⟩) := p1 2
      have y3 : wa.cell? ⟨w.heap.size + 1, 3, none⟩ = some (.slice none 0 0) := p1 3
      have f1 := frozen_of_heap q1
      clear p0 p1 q0 q1
      have Hwa := hide hbwa
      have HTwa := hide hTwa
      clear hbwa hTwa
      try rw [hk]
      go_wp2_with fail
      refine (mk_atom _ wa).mono ?_
      rintro e wc ⟨rfl, hbc⟩
      have hbwc := (unhide Hwa).trans (hbc.mono (unhide Hwa).size)
      have F := hide (unhide FIN _ hA wc hbwc _ _ _ _ (atT_at _ _ killedS (by decide)))
      obtain ⟨_, q1, _, _⟩ := unhide HK wc hbwc
      have p1 := cell_of_heap q1
      have y0 : wc.cell? ⟨w.heap.size + 1, 0, none⟩ = some (.int .i64 0) := p1 0
      have y1 : wc.cell? ⟨w.heap.size + 1, 1, none⟩ = some (.int .i64 0) := p1 1
      have y2 : wc.cell? ⟨w.heap.size + 1, 2, none⟩ = some (.string ⟨#[]⟩) := p1 2
      have y3 : wc.cell? ⟨w.heap.size + 1, 3, none⟩ = some (.slice none 0 0) := p1 3
      have f1 := frozen_of_heap q1
      clear p1 q1 hbc hbwc hA b0 b1 b2 b3
      go_wp2_with fail
      refine bodyPost_ret (v := .tuple #[.int .i64 2, .agg #[.int .i64 2, .int .i64 0, .string killedS, .slice none 0 0], .int .i64 0]) (by simp [results, Tryz.results5, go_sem, y0, y1, y2, y3, killedS]) rfl ?_
      exact unhide F
  · have hnk := hide (show (true || !sameB t (atT 0 killS)) = true by rfl)
    have F0 : ∀ x : LaterW w1.heap.size w1, x.wd.cell? ⟨w.heap.size, 0, none⟩ = some (.int .i64 k0) := fun x => (bcell x.be _ _ (by have := (unhide Hw1).size; omega)).trans b0
    have F1 : ∀ x : LaterW w1.heap.size w1, x.wd.cell? ⟨w.heap.size, 1, none⟩ = some (.int .i64 k1) := fun x => (bcell x.be _ _ (by have := (unhide Hw1).size; omega)).trans b1
    have F2 : ∀ x : LaterW w1.heap.size w1, x.wd.cell? ⟨w.heap.size, 2, none⟩ = some (.string k2) := fun x => (bcell x.be _ _ (by have := (unhide Hw1).size; omega)).trans b2
    have F3 : ∀ x : LaterW w1.heap.size w1, x.wd.cell? ⟨w.heap.size, 3, none⟩ = some (.slice k3 k4 k5) := fun x => (bcell x.be _ _ (by have := (unhide Hw1).size; omega)).trans b3
    clear b0 b1 b2 b3 y0 y1 y2 y3 f1
    go_wp2_with fail
    haveI hne : Nonempty (LaterW w1.heap.size w1) := ⟨⟨w1, Below.refl _ _⟩⟩
    refine wp_region_later w1.heap.size (by kernel_rfl) (by kernel_rfl) ?_
    repeat (go_big_quiet_step (first
      | (go_at_call 14; rename_i x; exact Calls.later (v := .agg #[.int .i64 2, .int .i64 0, .string killS, .slice none 0 0]) (Nat.le_refl _) (mk_atom killS x.wd))
      | (go_at_call 13; rename_i x; exact Calls.later (v := .bool (sameB t (atT 0 killS))) (Nat.le_refl _) (same_any t (atT 0 killS) _ _ _ _ _ _ _ _ x.wd ((unhide HTw1).up x.be) (atT_at _ _ _ (by decide))))))
    refine wpQuiet_nil ?_
    rintro wa ⟨⟨_, hq⟩, rfl⟩
    have hbwa := (unhide Hw1).trans (hq.mono (unhide Hw1).size)
    clear F0 F1 F2 F3 hne hq
    obtain ⟨q0, q1, hBwa, hTwa⟩ := unhide HK wa hbwa
    have p0 := cell_of_heap q0
    have b0 : wa.cell? ⟨w.heap.size, 0, none⟩ = some (.int .i64 k0) := p0 0
    have b1 : wa.cell? ⟨w.heap.size, 1, none⟩ = some (.int .i64 k1) := p0 1
    have b2 : wa.cell? ⟨w.heap.size, 2, none⟩ = some (.string k2) := p0 2
    have b3 : wa.cell? ⟨w.heap.size, 3, none⟩ = some (.slice k3 k4 k5) := p0 3
    have p1 := cell_of_heap q1
    have y0 : wa.cell? ⟨w.heap.size + 1, 0, none⟩ = some (.int .i64 0) := p1 0
    have y1 : wa.cell? ⟨w.heap.size + 1, 1, none⟩ = some (.int .i64 0) := p1 1
    have y2 : wa.cell? ⟨w.heap.size + 1, 2, none⟩ = some (.string ⟨#[]⟩) := p1 2
    have y3 : wa.cell? ⟨w.heap.size + 1, 3, none⟩ = some (.slice none 0 0) := p1 3
    have f1 := frozen_of_heap q1
    clear p0 p1 q0 q1
    have Hwa := hide hbwa
    have HTwa := hide hTwa
    clear hbwa hTwa
    cases trap
    · cases hn : sameB t (atT 0 normalS)
      · have hA := sig_die (link := true) hok (unhide hnk) hn
        have F0 : ∀ x : LaterW wa.heap.size wa, x.wd.cell? ⟨w.heap.size, 0, none⟩ = some (.int .i64 k0) := fun x => (bcell x.be _ _ (by have := (unhide Hwa).size; omega)).trans b0
        have F1 : ∀ x : LaterW wa.heap.size wa, x.wd.cell? ⟨w.heap.size, 1, none⟩ = some (.int .i64 k1) := fun x => (bcell x.be _ _ (by have := (unhide Hwa).size; omega)).trans b1
        have F2 : ∀ x : LaterW wa.heap.size wa, x.wd.cell? ⟨w.heap.size, 2, none⟩ = some (.string k2) := fun x => (bcell x.be _ _ (by have := (unhide Hwa).size; omega)).trans b2
        have F3 : ∀ x : LaterW wa.heap.size wa, x.wd.cell? ⟨w.heap.size, 3, none⟩ = some (.slice k3 k4 k5) := fun x => (bcell x.be _ _ (by have := (unhide Hwa).size; omega)).trans b3
        clear b0 b1 b2 b3 y0 y1 y2 y3 f1
        go_wp2_with fail
        haveI hne : Nonempty (LaterW wa.heap.size wa) := ⟨⟨wa, Below.refl _ _⟩⟩
        refine wp_region_later wa.heap.size (by kernel_rfl) (by kernel_rfl) ?_
        repeat (go_big_quiet_step (first
          | (go_at_call 14; rename_i x; exact Calls.later (v := .agg #[.int .i64 2, .int .i64 0, .string normalS, .slice none 0 0]) (Nat.le_refl _) (mk_atom normalS x.wd))
          | (go_at_call 13; rename_i x; exact Calls.later (v := .bool (sameB t (atT 0 normalS))) (Nat.le_refl _) (same_any t (atT 0 normalS) _ _ _ _ _ _ _ _ x.wd ((unhide HTwa).up x.be) (atT_at _ _ _ (by decide))))))
        refine wpQuiet_nil ?_
        rintro wb ⟨⟨_, hq⟩, rfl⟩
        have hbwb := (unhide Hwa).trans (hq.mono (unhide Hwa).size)
        clear F0 F1 F2 F3 hne hq
        obtain ⟨q0, q1, hBwb, hTwb⟩ := unhide HK wb hbwb
        have p0 := cell_of_heap q0
        have b0 : wb.cell? ⟨w.heap.size, 0, none⟩ = some (.int .i64 k0) := p0 0
        have b1 : wb.cell? ⟨w.heap.size, 1, none⟩ = some (.int .i64 k1) := p0 1
        have b2 : wb.cell? ⟨w.heap.size, 2, none⟩ = some (.string k2) := p0 2
        have b3 : wb.cell? ⟨w.heap.size, 3, none⟩ = some (.slice k3 k4 k5) := p0 3
        have p1 := cell_of_heap q1
        have y0 : wb.cell? ⟨w.heap.size + 1, 0, none⟩ = some (.int .i64 0) := p1 0
        have y1 : wb.cell? ⟨w.heap.size + 1, 1, none⟩ = some (.int .i64 0) := p1 1
        have y2 : wb.cell? ⟨w.heap.size + 1, 2, none⟩ = some (.string ⟨#[]⟩) := p1 2
        have y3 : wb.cell? ⟨w.heap.size + 1, 3, none⟩ = some (.slice none 0 0) := p1 3
        have f1 := frozen_of_heap q1
        clear p0 p1 q0 q1
        have Hwb := hide hbwb
        have HTwb := hide hTwb
        clear hbwb hTwb
        try rw [hn]
        have HC := hide (cpy_any (n + 1) t _ _ _ _ wb (unhide HTwb) hsz)
        go_wp2_with fail
        refine (unhide HC).mono ?_
        rintro e wc ⟨d0, d1, d2, d3, rfl, hd, hbc⟩
        obtain ⟨x0, x1, x2, x3, x4, x5, rfl, rfl, rfl, rfl⟩ := hd.shape
        have hbwc := (unhide Hwb).trans (hbc.mono (unhide Hwb).size)
        have F := hide (unhide FIN _ hA wc hbwc _ _ _ _ (hd.mono fun b hb => ⟨by have := hb.1; have := (unhide Hwb).size; omega, hb.2⟩))
        obtain ⟨_, q1, _, _⟩ := unhide HK wc hbwc
        have p1 := cell_of_heap q1
        have y0 : wc.cell? ⟨w.heap.size + 1, 0, none⟩ = some (.int .i64 0) := p1 0
        have y1 : wc.cell? ⟨w.heap.size + 1, 1, none⟩ = some (.int .i64 0) := p1 1
        have y2 : wc.cell? ⟨w.heap.size + 1, 2, none⟩ = some (.string ⟨#[]⟩) := p1 2
        have y3 : wc.cell? ⟨w.heap.size + 1, 3, none⟩ = some (.slice none 0 0) := p1 3
        have f1 := frozen_of_heap q1
        clear p1 q1 hd hbc hbwc HC hA b0 b1 b2 b3
        go_wp2_with fail
        refine bodyPost_ret (v := .tuple #[.int .i64 2, .agg #[.int .i64 x0, .int .i64 x1, .string x2, .slice x3 x4 x5], .int .i64 0]) (by simp [results, Tryz.results5, go_sem, y0, y1, y2, y3]) rfl ?_
        exact unhide F
      · have hA := sig_ignore (link := true) hok (unhide hnk) hn
        have F0 : ∀ x : LaterW wa.heap.size wa, x.wd.cell? ⟨w.heap.size, 0, none⟩ = some (.int .i64 k0) := fun x => (bcell x.be _ _ (by have := (unhide Hwa).size; omega)).trans b0
        have F1 : ∀ x : LaterW wa.heap.size wa, x.wd.cell? ⟨w.heap.size, 1, none⟩ = some (.int .i64 k1) := fun x => (bcell x.be _ _ (by have := (unhide Hwa).size; omega)).trans b1
        have F2 : ∀ x : LaterW wa.heap.size wa, x.wd.cell? ⟨w.heap.size, 2, none⟩ = some (.string k2) := fun x => (bcell x.be _ _ (by have := (unhide Hwa).size; omega)).trans b2
        have F3 : ∀ x : LaterW wa.heap.size wa, x.wd.cell? ⟨w.heap.size, 3, none⟩ = some (.slice k3 k4 k5) := fun x => (bcell x.be _ _ (by have := (unhide Hwa).size; omega)).trans b3
        clear b0 b1 b2 b3 y0 y1 y2 y3 f1
        go_wp2_with fail
        haveI hne : Nonempty (LaterW wa.heap.size wa) := ⟨⟨wa, Below.refl _ _⟩⟩
        refine wp_region_later wa.heap.size (by kernel_rfl) (by kernel_rfl) ?_
        repeat (go_big_quiet_step (first
          | (go_at_call 14; rename_i x; exact Calls.later (v := .agg #[.int .i64 2, .int .i64 0, .string normalS, .slice none 0 0]) (Nat.le_refl _) (mk_atom normalS x.wd))
          | (go_at_call 13; rename_i x; exact Calls.later (v := .bool (sameB t (atT 0 normalS))) (Nat.le_refl _) (same_any t (atT 0 normalS) _ _ _ _ _ _ _ _ x.wd ((unhide HTwa).up x.be) (atT_at _ _ _ (by decide))))))
        refine wpQuiet_nil ?_
        rintro wb ⟨⟨_, hq⟩, rfl⟩
        have hbwb := (unhide Hwa).trans (hq.mono (unhide Hwa).size)
        clear F0 F1 F2 F3 hne hq
        obtain ⟨q0, q1, hBwb, hTwb⟩ := unhide HK wb hbwb
        have p0 := cell_of_heap q0
        have b0 : wb.cell? ⟨w.heap.size, 0, none⟩ = some (.int .i64 k0) := p0 0
        have b1 : wb.cell? ⟨w.heap.size, 1, none⟩ = some (.int .i64 k1) := p0 1
        have b2 : wb.cell? ⟨w.heap.size, 2, none⟩ = some (.string k2) := p0 2
        have b3 : wb.cell? ⟨w.heap.size, 3, none⟩ = some (.slice k3 k4 k5) := p0 3
        have p1 := cell_of_heap q1
        have y0 : wb.cell? ⟨w.heap.size + 1, 0, none⟩ = some (.int .i64 0) := p1 0
        have y1 : wb.cell? ⟨w.heap.size + 1, 1, none⟩ = some (.int .i64 0) := p1 1
        have y2 : wb.cell? ⟨w.heap.size + 1, 2, none⟩ = some (.string ⟨#[]⟩) := p1 2
        have y3 : wb.cell? ⟨w.heap.size + 1, 3, none⟩ = some (.slice none 0 0) := p1 3
        have f1 := frozen_of_heap q1
        clear p0 p1 q0 q1
        have Hwb := hide hbwb
        have HTwb := hide hTwb
        clear hbwb hTwb
        try rw [hn]
        have F := hide (unhide FIN _ hA wb (unhide Hwb) _ _ _ _ (zerT_at _ _))
        clear hA
        go_wp2_with fail
        refine bodyPost_ret (v := .tuple #[.int .i64 0, .agg #[.int .i64 0, .int .i64 0, .string ⟨#[]⟩, .slice none 0 0], .int .i64 0]) (by simp [results, Tryz.results5, go_sem, y0, y1, y2, y3]) rfl ?_
        exact unhide F
    · have hA := sig_letter (link := true) hok (unhide hnk)
      have F := hide (unhide FIN _ hA wa (unhide Hwa) _ _ _ _ (zerT_at _ _))
      clear hA
      go_wp2_with fail
      refine bodyPost_ret (v := .tuple #[.int .i64 1, .agg #[.int .i64 0, .int .i64 0, .string ⟨#[]⟩, .slice none 0 0], .int .i64 0]) (by simp [results, Tryz.results5, go_sem, y0, y1, y2, y3]) rfl ?_
      exact unhide F


end Go.Proofs.YtffgdchemjmbmaaGreat
/- impl: a right term's value on its way outward; isAtom; signalled. -/
namespace Go.Proofs.YtffgdchemjmbmaaGreat
open Go.RowKit Go.Deep

theorem size0 {s : ByteArray} (h : s.size = 0) : s = noText := by
  cases s with | mk d => cases d with | mk l => cases l with
    | nil => rfl
    | cons a l => simp [ByteArray.size] at h

/-- Of a right term: its value is one that the way outward takes. -/
theorem xat_of_vat {S : Nat → Prop} {w : World} : ∀ {n : Nat} {t : Tm n} {v : Value}, VAt S w n t v → rightB n t = true → siz n t ≤ 2000 → XAt S w n t v := by
  intro n
  induction n with
  | zero => intro t; exact t.elim
  | succ n ih =>
    rintro ⟨k, m, s, ks⟩ v ⟨hm, hs, h⟩ hr hz
    obtain ⟨hl, hkz⟩ := siz_kid hz
    have hr' : (fitB k m s ks.length && ks.all (rightB n) && (if k = 7 then risesB (cmpT n n) ks else true)) = true := hr
    simp only [Bool.and_eq_true] at hr'
    obtain ⟨⟨hf, ha⟩, _⟩ := hr'
    have hnil : ks.length = 0 → ks = [] := List.length_eq_zero_iff.1
    refine ⟨hm, hs, ?_⟩
    rcases h with ⟨rfl, h⟩ | ⟨rfl, h⟩ | ⟨rfl, h⟩ | ⟨rfl, h⟩ | ⟨rfl, h⟩ | ⟨a, cap, hK, _, _, h⟩
    · rw [fit_1] at hf; simp only [Bool.and_eq_true, decide_eq_true_eq] at hf
      exact .inl ⟨rfl, size0 hf.1.2, hnil hf.2, h⟩
    · rw [fit_2] at hf; simp only [Bool.and_eq_true, decide_eq_true_eq] at hf
      exact .inr (.inl ⟨rfl, hf.1.1, hnil hf.2, h⟩)
    · rw [fit_3] at hf; simp only [Bool.and_eq_true, decide_eq_true_eq] at hf
      exact .inr (.inr (.inl ⟨rfl, size0 hf.1.2, hnil hf.2, h⟩))
    · rw [fit_5] at hf; simp only [Bool.and_eq_true, decide_eq_true_eq] at hf
      exact .inr (.inr (.inr (.inl ⟨rfl, size0 hf.1.2, hnil hf.2, h⟩)))
    · rw [fit_9] at hf; simp only [Bool.and_eq_true, decide_eq_true_eq] at hf
      exact .inr (.inr (.inr (.inr (.inl ⟨rfl, hf.1.1, hnil hf.2, h⟩))))
    · refine .inr (.inr (.inr (.inr (.inr ⟨a, cap, ?_, by omega, ?_⟩))))
      · intro i hi
        obtain ⟨b, off, x, e, hS, hc, hv⟩ := hK i hi
        exact ⟨b, off, x, e, hS, hc, ih hv (List.all_eq_true.1 ha _ (List.getElem_mem hi)) (hkz _ (List.getElem_mem hi))⟩
      · rcases h with ⟨rfl, h⟩ | ⟨rfl, h⟩ | ⟨rfl, h⟩ | ⟨rfl, h⟩
        · rw [fit_4] at hf; simp only [Bool.and_eq_true, decide_eq_true_eq] at hf
          exact ⟨size0 hf.2, .inl ⟨rfl, h⟩⟩
        · rw [fit_6] at hf; simp only [Bool.and_eq_true, decide_eq_true_eq] at hf
          exact ⟨size0 hf.2, .inr (.inl ⟨rfl, hf.1, h⟩)⟩
        · rw [fit_8] at hf; simp only [Bool.and_eq_true, decide_eq_true_eq] at hf
          exact ⟨size0 hf.2, .inr (.inr (.inl ⟨rfl, hf.1, h⟩))⟩
        · rw [fit_7] at hf; simp only [Bool.and_eq_true, decide_eq_true_eq] at hf
          exact ⟨size0 hf.1.2, .inr (.inr (.inr ⟨rfl, hf.1.1, by omega, h⟩))⟩

/-- A value's kind and text, as isAtom asks for them. -/
def atomB {n : Nat} (t : Tm (n + 1)) (name : ByteArray) : Bool := decide (t.1 = 2) && (t.2.2.1.toList == name.toList)

/-- A right term is an atom just when it is the same as that atom. -/
theorem atomB_same {n : Nat} (t : Tm (n + 1)) (name : ByteArray) (hr : rightB (n + 1) t = true) : atomB t name = sameB t (atT 0 name) := by
  obtain ⟨k, m, s, ks⟩ := t
  have hr' : (fitB k m s ks.length && ks.all (rightB n) && (if k = 7 then risesB (cmpT n n) ks else true)) = true := hr
  simp only [Bool.and_eq_true] at hr'
  obtain ⟨⟨hf, _⟩, _⟩ := hr'
  unfold atomB sameB atT
  dsimp only
  simp only [cmpT]
  by_cases h2 : k = 2
  · subst h2
    rw [fit_2] at hf
    simp only [Bool.and_eq_true, decide_eq_true_eq] at hf
    obtain ⟨⟨rfl, _⟩, hl⟩ := hf
    obtain rfl := List.length_eq_zero_iff.1 hl
    by_cases hs : s = name
    · subst hs
      simp [eachI]
    · have h1 : (s.toList == name.toList) = false := toList_ne hs
      have h3 : ordS s name ≠ 0 := by unfold ordS; cases Op.bytesLess s.toList name.toList <;> simp [h1]
      simp [h1, hs, h3]
  · have h3 : sgn k 2 ≠ 0 := by unfold sgn; split <;> (try split) <;> omega
    simp [h2, h3]

theorem oa_int_atom (x : Value) (w : World) : (Instr.typeAssert (.iface 65 x) 45 59 true).run Tryz.prog w = .ok (.tuple #[.string ⟨#[]⟩, .bool false]) w := by kernel_rfl

set_option maxRecDepth 40000 in
set_option maxHeartbeats 1000000 in
theorem isAtom_any {S : Nat → Prop} {n : Nat} (t : Tm (n + 1)) (v : Value) (name : ByteArray) (w : World) (hv : VAt S w (n + 1) t v) :
    Calls Tryz.prog 30 #[v, .string name] w fun e w' => e = .returned (.bool (atomB t name)) ∧ w' = w := by
  obtain ⟨k, m, s, ks⟩ := t
  unfold atomB
  dsimp only
  obtain ⟨_, _, h⟩ := hv
  rcases h with ⟨rfl, rfl⟩ | ⟨rfl, rfl⟩ | ⟨rfl, rfl⟩ | ⟨rfl, rfl⟩ | ⟨rfl, rfl⟩ | ⟨a, cap, _, _, _, ⟨rfl, rfl⟩ | ⟨rfl, rfl⟩ | ⟨rfl, rfl⟩ | ⟨rfl, rfl⟩⟩
  · have f0 := oa_int_atom
    go_enter Tryz.func30, Tryz.ntmps30
    go_wp2_with fail
    go_ret
    exact ⟨by first | rfl | simp, rfl⟩
  · have f0 := oa_atom_atom
    go_enter Tryz.func30, Tryz.ntmps30
    go_wp2_with fail
    go_ret
    exact ⟨by first | rfl | simp, rfl⟩
  · have f0 := oa_ref_atom
    go_enter Tryz.func30, Tryz.ntmps30
    go_wp2_with fail
    go_ret
    exact ⟨by first | rfl | simp, rfl⟩
  · have f0 := oa_pid_atom
    go_enter Tryz.func30, Tryz.ntmps30
    go_wp2_with fail
    go_ret
    exact ⟨by first | rfl | simp, rfl⟩
  · have f0 := oa_bin_atom
    go_enter Tryz.func30, Tryz.ntmps30
    go_wp2_with fail
    go_ret
    exact ⟨by first | rfl | simp, rfl⟩
  · have f0 := oa_fun_atom
    go_enter Tryz.func30, Tryz.ntmps30
    go_wp2_with fail
    go_ret
    exact ⟨by first | rfl | simp, rfl⟩
  · have f0 := oa_tuple_atom
    go_enter Tryz.func30, Tryz.ntmps30
    go_wp2_with fail
    go_ret
    exact ⟨by first | rfl | simp, rfl⟩
  · have f0 := oa_list_atom
    go_enter Tryz.func30, Tryz.ntmps30
    go_wp2_with fail
    go_ret
    exact ⟨by first | rfl | simp, rfl⟩
  · have f0 := oa_map_atom
    go_enter Tryz.func30, Tryz.ntmps30
    go_wp2_with fail
    go_ret
    exact ⟨by first | rfl | simp, rfl⟩

end Go.Proofs.YtffgdchemjmbmaaGreat
/- impl.signalled; the way outward of nothing. -/
namespace Go.Proofs.YtffgdchemjmbmaaGreat
open Go.RowKit Go.Deep

theorem oa_nil_int (w : World) : (Instr.typeAssert .nilIface 45 65 true).run Tryz.prog w = .ok (.tuple #[.int .i64 0, .bool false]) w := by kernel_rfl
theorem oa_nil_atom (w : World) : (Instr.typeAssert .nilIface 45 59 true).run Tryz.prog w = .ok (.tuple #[.string ⟨#[]⟩, .bool false]) w := by kernel_rfl
theorem oa_nil_ref (w : World) : (Instr.typeAssert .nilIface 45 66 true).run Tryz.prog w = .ok (.tuple #[.int .i64 0, .bool false]) w := by kernel_rfl
theorem oa_nil_fun (w : World) : (Instr.typeAssert .nilIface 45 69 true).run Tryz.prog w = .ok (.tuple #[.agg #[.int .i64 0, .slice none 0 0], .bool false]) w := by kernel_rfl
theorem oa_nil_pid (w : World) : (Instr.typeAssert .nilIface 45 71 true).run Tryz.prog w = .ok (.tuple #[.int .i64 0, .bool false]) w := by kernel_rfl
theorem oa_nil_tuple (w : World) : (Instr.typeAssert .nilIface 45 72 true).run Tryz.prog w = .ok (.tuple #[.slice none 0 0, .bool false]) w := by kernel_rfl
theorem oa_nil_map (w : World) : (Instr.typeAssert .nilIface 45 74 true).run Tryz.prog w = .ok (.tuple #[.slice none 0 0, .bool false]) w := by kernel_rfl
theorem oa_nil_list (w : World) : (Instr.typeAssert .nilIface 45 76 true).run Tryz.prog w = .ok (.tuple #[.slice none 0 0, .bool false]) w := by kernel_rfl
theorem oa_nil_bin (w : World) : (Instr.typeAssert .nilIface 45 77 true).run Tryz.prog w = .ok (.tuple #[.string ⟨#[]⟩, .bool false]) w := by kernel_rfl

set_option maxRecDepth 40000 in
set_option maxHeartbeats 1000000 in
theorem out_nil (n : Nat) (w : World) : Calls Tryz.prog 21 #[.nilIface] w fun e w' => OutEnd n (zerT n) w e w' := by
  have f0 := oa_nil_int
  have f1 := oa_nil_atom
  have f2 := oa_nil_ref
  have f3 := oa_nil_fun
  have f4 := oa_nil_pid
  have f5 := oa_nil_tuple
  have f6 := oa_nil_map
  have f7 := oa_nil_list
  have f8 := oa_nil_bin
  obtain ⟨w0, hw0⟩ : ∃ w0, w0 = startW w := ⟨_, rfl⟩
  have hr0 := startW_four w
  have hb0 := startW_below w
  have hs0 := startW_size w
  rw [← hw0] at hr0 hb0 hs0
  have HW0 := hide hw0
  have HB0 := hide hb0
  obtain ⟨y0, y1, y2, y3, z0, z1, z2, z3, g0, g1, g2, g3⟩ := hr0.cells
  clear hw0 hb0
  go_enter Tryz.func21, Tryz.ntmps21
  go_upto_region 1 with fail
  rw [← show startW w = w.alloc (.cells #[.int .i64 0, .int .i64 0, .string ⟨#[]⟩, .slice none 0 0] 28) from rfl, ← unhide HW0]
  go_wp2_with fail
  exact bodyPost_ret (v := .agg #[.int .i64 0, .int .i64 0, .string ⟨#[]⟩, .slice none 0 0]) (by simp [results, Tryz.results21, go_sem, z0, z1, z2, z3]) rfl (out_end (unhide HB0) (by omega) ⟨rfl, rfl, rfl, ⟨by omega, by omega⟩, ⟨by omega, by omega⟩, by simp [ByteArray.size], sat_none⟩ (ownS_nil _))

/-- What becomes of one who gets the signal, as the program's values. -/
def sigV (trap link isK isN : Bool) (v : Value) : Int × Value :=
  if (!link && isK) = true then (2, .iface 59 (.string killedS)) else if trap = true then (1, .nilIface) else if isN = true then (0, .nilIface) else (2, v)

set_option maxRecDepth 40000 in
set_option maxHeartbeats 1000000 in
theorem signalled_any {S : Nat → Prop} {n : Nat} (trap link : Bool) (t : Tm (n + 1)) (v : Value) (w : World) (hv : VAt S w (n + 1) t v) :
    Calls Tryz.prog 19 #[.bool trap, .bool link, v] w fun e w' => e = .returned (.tuple #[.int .i64 (sigV trap link (atomB t killS) (atomB t normalS) v).1, (sigV trap link (atomB t killS) (atomB t normalS) v).2]) ∧ w' = w := by
  have HK := hide (isAtom_any t v killS w hv)
  have HN := hide (isAtom_any t v normalS w hv)
  unfold killS at HK
  unfold normalS at HN
  generalize hx : atomB t killS = isK
  generalize hy : atomB t normalS = isN
  have hx' := hx
  have hy' := hy
  unfold killS at hx'
  unfold normalS at hy'
  rw [hx'] at HK
  rw [hy'] at HN
  clear hx hy hx' hy' hv
  obtain ⟨R, hR⟩ : ∃ R, R = sigV trap link isK isN v := ⟨_, rfl⟩
  rw [← hR]
  have HR := hide hR
  clear hR
  cases link
  · cases isK
    · cases trap
      · cases isN
        · go_enter Tryz.func19, Tryz.ntmps19
          go_wp2_with fail
          refine (unhide HK).mono ?_
          rintro e w1 ⟨rfl, rfl⟩
          go_wp2_with fail
          refine (unhide HN).mono ?_
          rintro e w1 ⟨rfl, rfl⟩
          go_wp2_with fail
          refine bodyPost_ret (v := .tuple #[.int .i64 2, v]) (by simp [results, Tryz.results19, go_sem]) rfl ⟨?_, rfl⟩
          rw [unhide HR]; rfl
        · go_enter Tryz.func19, Tryz.ntmps19
          go_wp2_with fail
          refine (unhide HK).mono ?_
          rintro e w1 ⟨rfl, rfl⟩
          go_wp2_with fail
          refine (unhide HN).mono ?_
          rintro e w1 ⟨rfl, rfl⟩
          go_wp2_with fail
          refine bodyPost_ret (v := .tuple #[.int .i64 0, .nilIface]) (by simp [results, Tryz.results19, go_sem]) rfl ⟨?_, rfl⟩
          rw [unhide HR]; rfl
      · go_enter Tryz.func19, Tryz.ntmps19
        go_wp2_with fail
        refine (unhide HK).mono ?_
        rintro e w1 ⟨rfl, rfl⟩
        go_wp2_with fail
        refine bodyPost_ret (v := .tuple #[.int .i64 1, .nilIface]) (by simp [results, Tryz.results19, go_sem]) rfl ⟨?_, rfl⟩
        rw [unhide HR]; rfl
    · go_enter Tryz.func19, Tryz.ntmps19
      go_wp2_with fail
      refine (unhide HK).mono ?_
      rintro e w1 ⟨rfl, rfl⟩
      go_wp2_with fail
      refine bodyPost_ret (v := .tuple #[.int .i64 2, (.iface 59 (.string killedS))]) (by simp [results, Tryz.results19, go_sem, killedS]) rfl ⟨?_, rfl⟩
      rw [unhide HR]; rfl
  · cases trap
    · cases isN
      · go_enter Tryz.func19, Tryz.ntmps19
        go_wp2_with fail
        refine (unhide HN).mono ?_
        rintro e w1 ⟨rfl, rfl⟩
        go_wp2_with fail
        refine bodyPost_ret (v := .tuple #[.int .i64 2, v]) (by simp [results, Tryz.results19, go_sem]) rfl ⟨?_, rfl⟩
        rw [unhide HR]; rfl
      · go_enter Tryz.func19, Tryz.ntmps19
        go_wp2_with fail
        refine (unhide HN).mono ?_
        rintro e w1 ⟨rfl, rfl⟩
        go_wp2_with fail
        refine bodyPost_ret (v := .tuple #[.int .i64 0, .nilIface]) (by simp [results, Tryz.results19, go_sem]) rfl ⟨?_, rfl⟩
        rw [unhide HR]; rfl
    · go_enter Tryz.func19, Tryz.ntmps19
      go_wp2_with fail
      refine bodyPost_ret (v := .tuple #[.int .i64 1, .nilIface]) (by simp [results, Tryz.results19, go_sem]) rfl ⟨?_, rfl⟩
      rw [unhide HR]; rfl

end Go.Proofs.YtffgdchemjmbmaaGreat
/- What stays as it is while a law goes on: blocks between two bounds. -/
namespace Go.Proofs.YtffgdchemjmbmaaGreat
open Go.RowKit Go.Deep

/-- The blocks from lo to hi, which are there, are as they were. -/
structure Kp (lo hi : Nat) (w w' : World) : Prop where
  size : hi ≤ w'.heap.size
  blk : ∀ b, lo ≤ b → b < hi → w'.heap[b]? = w.heap[b]?
theorem Kp.refl {lo hi : Nat} {w : World} (h : hi ≤ w.heap.size) : Kp lo hi w w := ⟨h, fun _ _ _ => rfl⟩
theorem Kp.call {lo hi : Nat} {w wi wj : World} (h : Kp lo hi w wi) (hb : Below wi.heap.size wi wj) : Kp lo hi w wj :=
  ⟨Nat.le_trans h.size hb.size, fun b h1 h2 => (hb.block b (Nat.lt_of_lt_of_le h2 h.size)).trans (h.blk b h1 h2)⟩
theorem Kp.out {lo hi l2 h2 : Nat} {w wi wj : World} (h : Kp lo hi w wi) (ho : Out l2 h2 wi wj) (hd : hi ≤ l2 ∨ h2 ≤ lo) : Kp lo hi w wj :=
  ⟨Nat.le_trans h.size ho.size, fun b h3 h4 => (ho.block b (Nat.lt_of_lt_of_le h4 h.size) (by omega)).trans (h.blk b h3 h4)⟩
theorem Out.base {lo hi B : Nat} {w w' : World} (h : Out lo hi w w') (hB : B ≤ lo) (hs : B ≤ w.heap.size) : Below B w w' :=
  ⟨h.os, h.tape, h.output, h.size, fun b hb => h.block b (by omega) (.inl (by omega))⟩
theorem Kp.box {blk : Nat} {w wi : World} {o : Option Obj} (h : Kp blk (blk + 1) w wi) (hn : w.heap[blk]? = o) : wi.heap[blk]? = o := (h.blk blk (Nat.le_refl _) (Nat.lt_succ_self _)).trans hn
theorem past {w : World} {b : Nat} {o : Option Obj} (h : w.heap[b]? = o) (hl : b < w.heap.size) (x : Obj) : (w.alloc x).heap[b]? = o := (Below.heap_alloc _ _ _ hl).trans h
theorem TAt.under {lo hi : Nat} {wc wi : World} {n : Nat} {t : Tm n} {a b c d : Value} (h : TAt (fun b => lo ≤ b ∧ b < hi) wc n t a b c d) (k : Kp lo hi wc wi) : TAt (Under wi.heap.size) wi n t a b c d :=
  (h.keep fun b hb => k.blk b hb.1 hb.2).mono fun _ hb => Nat.lt_of_lt_of_le hb.2 k.size
theorem newBlock (w : World) (o : Obj) : Below w.heap.size w (w.alloc o) := (Below.refl w.heap.size w).alloc (Nat.le_refl _) _
end Go.Proofs.YtffgdchemjmbmaaGreat
/- impl.Signal: the work that is handed on. -/
namespace Go.Proofs.YtffgdchemjmbmaaGreat
open Go.RowKit Go.Deep

/-- What the program's work answers: its number, and the term that is its own. -/
def SigW {n : Nat} (w : World) (A : Int × Tm (n + 1) × Int) (e : Ending) (w' : World) : Prop :=
  Below w.heap.size w w' ∧ ∃ d0 d1 d2 d3, e = .returned (.agg #[.int .i64 A.1, d0, d1, d2, d3]) ∧ TAt (Fresh w w') w' (n + 1) A.2.1 d0 d1 d2 d3 ∧ OwnS w' n w.heap.size w'.heap.size (kidsOf A.2.1) d3

/-- The values that the signal leaves go outward as the law's answer. -/
theorem sig_out {n : Nat} (trap link : Bool) (t : Tm (n + 1)) (v : Value) (w : World) (hok : okB (n + 1) t = true) (hv : VAt (Under w.heap.size) w (n + 1) t v) :
    (sigV trap link (atomB t killS) (atomB t normalS) v).1 = (sigA trap link t).1 ∧
    ∀ w', Below w.heap.size w w' → Calls Tryz.prog 21 #[(sigV trap link (atomB t killS) (atomB t normalS) v).2] w' fun e w2 => OutEnd n (sigA trap link t).2.1 w' e w2 := by
  have hr : rightB (n + 1) t = true := by
    unfold okB at hok
    simp only [Bool.and_eq_true] at hok
    exact hok.2
  have hx := xat_of_vat hv hr (okB_siz hok)
  rw [atomB_same t killS hr, atomB_same t normalS hr]
  have hA : sigA trap link t = if link = false ∧ sameB t (atT 0 killS) = true then (2, atT n killedS, 0) else if trap = true then (1, zerT n, 0)
      else if sameB t (atT 0 normalS) = true then (0, zerT n, 0) else (2, t, 0) := by
    unfold sigA
    exact if_neg (by rw [hok]; simp)
  rw [hA]
  generalize sameB t (atT 0 killS) = a
  generalize sameB t (atT 0 normalS) = b
  have H1 : ∀ w', Calls Tryz.prog 21 #[.iface 59 (.string killedS)] w' fun e w2 => OutEnd n (atT n killedS) w' e w2 := fun w' => out_atom n killedS (by decide) w'
  have H2 := fun w' => out_nil n w'
  have H3 := fun w' (hb : Below w.heap.size w w') => out_any n t v w' ((hx.keep fun b hs => hb.block b hs).mono fun _ h => Nat.lt_of_lt_of_le h hb.size)
  have X1 : sigV trap link a b v = if link = false ∧ a = true then (2, .iface 59 (.string killedS)) else if trap = true then (1, .nilIface) else if b = true then (0, .nilIface) else (2, v) := by
    unfold sigV
    cases link <;> cases a <;> rfl
  rw [X1]
  by_cases h1 : link = false ∧ a = true
  · rw [if_pos h1, if_pos h1]
    exact ⟨rfl, fun w' _ => H1 w'⟩
  rw [if_neg h1, if_neg h1]
  by_cases h2 : trap = true
  · rw [if_pos h2, if_pos h2]
    exact ⟨rfl, fun w' _ => H2 w'⟩
  rw [if_neg h2, if_neg h2]
  by_cases h3 : b = true
  · rw [if_pos h3, if_pos h3]
    exact ⟨rfl, fun w' _ => H2 w'⟩
  rw [if_neg h3, if_neg h3]
  exact ⟨rfl, H3⟩

set_option maxRecDepth 40000 in
set_option maxHeartbeats 2000000 in
theorem sigW_any {n : Nat} (trap link : Bool) (t : Tm (n + 1)) (c0 c1 c2 c3 : Value) (b0 b1 b2 : Nat) (w : World) (ht : TAt (Under w.heap.size) w (n + 1) t c0 c1 c2 c3)
    (h0 : w.heap[b0]? = some (.cells #[.bool trap] 4 (0, 0))) (h1 : w.heap[b1]? = some (.cells #[.bool link] 4 (0, 0))) (h2 : w.heap[b2]? = some (.cells #[c0, c1, c2, c3] 28 (0, 0))) (hok : okB (n + 1) t = true) :
    Calls Tryz.prog 18 #[.pointer (some ⟨b0, 0, none⟩), .pointer (some ⟨b1, 0, none⟩), .pointer (some ⟨b2, 0, none⟩)] w (SigW w (sigA trap link t)) := by
  obtain ⟨k0, k1, k2, k3, k4, k5, rfl, rfl, rfl, rfl⟩ := ht.shape
  have l0 : b0 < w.heap.size := (Array.getElem?_eq_some_iff.1 h0).1
  have l1 : b1 < w.heap.size := (Array.getElem?_eq_some_iff.1 h1).1
  have l2 : b2 < w.heap.size := (Array.getElem?_eq_some_iff.1 h2).1
  obtain ⟨W, hW⟩ : ∃ W, W = w.alloc (.cells #[.int .i64 0, .int .i64 0, .int .i64 0, .string ⟨#[]⟩, .slice none 0 0] 41) := ⟨_, rfl⟩
  have hn : W.heap[w.heap.size]? = some (.cells #[.int .i64 0, .int .i64 0, .int .i64 0, .string ⟨#[]⟩, .slice none 0 0] 41 (0, 0)) := by rw [hW]; exact heap_new _ _
  have hWb : Below w.heap.size w W := by rw [hW]; exact (Below.refl _ _).alloc (Nat.le_refl _) _
  have hWs : W.heap.size = w.heap.size + 1 := by rw [hW]; simp
  have HS := hide (fun (w' : World) (hb : Below W.heap.size W w') => show w'.cell? ⟨b0, 0, none⟩ = some (.bool trap) ∧ w'.cell? ⟨b1, 0, none⟩ = some (.bool link) ∧ w'.cell? ⟨b2, 0, none⟩ = some (.int .i64 k0) ∧ w'.cell? ⟨b2, 1, none⟩ = some (.int .i64 k1) ∧ w'.cell? ⟨b2, 2, none⟩ = some (.string k2) ∧ w'.cell? ⟨b2, 3, none⟩ = some (.slice k3 k4 k5) from by
    have g0 := (hb.block b0 (by omega)).trans ((hWb.block b0 l0).trans h0)
    have g1 := (hb.block b1 (by omega)).trans ((hWb.block b1 l1).trans h1)
    have g2 := (hb.block b2 (by omega)).trans ((hWb.block b2 l2).trans h2)
    exact ⟨cell_of_heap g0 0, cell_of_heap g1 0, cell_of_heap g2 0, cell_of_heap g2 1, cell_of_heap g2 2, cell_of_heap g2 3⟩)
  have hin := hide (fun (w' : World) (hb : Below W.heap.size W w') => inward_any (n + 1) t _ _ _ _ w' ((ht.up hWb).up hb))
  have HT := hide (fun (w' : World) (hb : Below W.heap.size W w') => (ht.up hWb).up hb)
  have HWb := hide hWb
  have HN := hide hn
  have HOK := hide hok
  have BB := hide ((Below.refl W.heap.size W).drew)
  have HWs := hide hWs
  clear ht h0 h1 h2 hWb hn hok hWs
  go_enter Tryz.func18, Tryz.ntmps18
  go_upto_region 1 with fail
  rw [← hW]
  clear hW
  go_region_held3 (fun w' => w'.cell? ⟨b0, 0, none⟩ = some (.bool trap) ∧ w'.cell? ⟨b1, 0, none⟩ = some (.bool link) ∧ w'.cell? ⟨b2, 0, none⟩ = some (.int .i64 k0) ∧ w'.cell? ⟨b2, 1, none⟩ = some (.int .i64 k1) ∧ w'.cell? ⟨b2, 2, none⟩ = some (.string k2) ∧ w'.cell? ⟨b2, 3, none⟩ = some (.slice k3 k4 k5))
    (exact unhide HS _ (unhide BB))
    (first
      | (go_at_call 20; refine (unhide hin _ (unhide BB)).mono ?_; rintro e w1 ⟨hb1, ⟨hvok, v, rfl, hv⟩ | ⟨hno, rfl⟩⟩; (rotate_left; exact absurd (ok_val.1 (unhide HOK)) hno); have HV := hide (hv.mono (fun b (hb : Fresh _ w1 b) => show Under w1.heap.size b from hb.2)); replace BB := hide ((unhide BB).trans (hb1.mono (unhide BB).size)); clear hb1 hvok hv)
      | (go_at_call 19; refine (signalled_any trap link t v _ (unhide HV)).mono ?_; rintro e w2 ⟨rfl, rfl⟩))
  obtain ⟨hA1, hout⟩ := sig_out trap link t v _ (unhide HOK) (unhide HV)
  have HO := hide (hout _ (Below.refl _ _))
  clear hout
  rw [hA1]
  generalize (sigV trap link (atomB t killS) (atomB t normalS) v).2 = u at HO ⊢
  clear hA1 HV hin HT
  go_wp2_with fail
  refine (unhide HO).mono ?_
  rintro e w3 ⟨hb3, d0, d1, d2, d3, rfl, hd, ho⟩
  obtain ⟨e0, e1, e2, e3, e4, e5, rfl, rfl, rfl, rfl⟩ := hd.shape
  have gn := (hb3.block w.heap.size (by have := (unhide BB).size; have := unhide HWs; omega)).trans (((unhide BB).block w.heap.size (by have := unhide HWs; omega)).trans (unhide HN))
  have gc := cell_of_heap gn
  have y0 : w3.cell? ⟨w.heap.size, 0, none⟩ = some (.int .i64 0) := gc 0
  have y1 : w3.cell? ⟨w.heap.size, 1, none⟩ = some (.int .i64 0) := gc 1
  have y2 : w3.cell? ⟨w.heap.size, 2, none⟩ = some (.int .i64 0) := gc 2
  have y3 : w3.cell? ⟨w.heap.size, 3, none⟩ = some (.string ⟨#[]⟩) := gc 3
  have y4 : w3.cell? ⟨w.heap.size, 4, none⟩ = some (.slice none 0 0) := gc 4
  have z0 := frozen_of_heap gn 0
  have z1 := frozen_of_heap gn 1
  have z2 := frozen_of_heap gn 2
  have z3 := frozen_of_heap gn 3
  have z4 := frozen_of_heap gn 4
  have H3 := hide (And.intro hb3 (And.intro hd ho))
  have GN := hide gn
  clear hb3 hd ho HO gc gn
  go_wp2_with fail
  obtain ⟨hb3, hd, ho⟩ := unhide H3
  obtain ⟨_, q, r1, r2, r3⟩ := setL_facts (N := 5) (e := 41) [.int .i64 (sigA trap link t).1, .int .i64 e0, .int .i64 e1, .string e2, .slice e3 e4 e5] (w := w3) (B := w.heap.size) (o := 0) ⟨_, unhide GN, rfl⟩ (by simp)
  have hws := unhide HWs
  have hBs := (unhide BB).size
  have hb3s := hb3.size
  have F : SigW w (sigA trap link t) (.returned (.agg #[.int .i64 (sigA trap link t).1, .int .i64 e0, .int .i64 e1, .string e2, .slice e3 e4 e5])) (setL w3 w.heap.size 0 [.int .i64 (sigA trap link t).1, .int .i64 e0, .int .i64 e1, .string e2, .slice e3 e4 e5]) := by
    refine ⟨((unhide HWb).trans (((unhide BB).mono (by omega)).trans (hb3.mono (by omega)))).trans r1, _, _, _, _, rfl, ?_, ?_⟩
    · exact (hd.keep fun b hb => r2 b (by have := hb.1; omega)).mono fun b hb => ⟨by have := hb.1; omega, by rw [r3]; exact hb.2⟩
    · exact (ho.keep fun b h1 h2 => r2 b (by omega)).wide (by omega) (by rw [r3]; exact Nat.le_refl _)
  have q0 := q 0 (by simp)
  have q1 := q 1 (by simp)
  have q2 := q 2 (by simp)
  have q3 := q 3 (by simp)
  have q4 := q 4 (by simp)
  simp only [setL] at q0 q1 q2 q3 q4 F
  simp at q0 q1 q2 q3 q4
  have F' := hide F
  clear F
  refine bodyPost_ret (v := .agg #[.int .i64 (sigA trap link t).1, .int .i64 e0, .int .i64 e1, .string e2, .slice e3 e4 e5]) (by simp [results, Tryz.results18, go_sem, q0, q1, q2, q3, q4]) rfl ?_
  exact unhide F'

end Go.Proofs.YtffgdchemjmbmaaGreat
