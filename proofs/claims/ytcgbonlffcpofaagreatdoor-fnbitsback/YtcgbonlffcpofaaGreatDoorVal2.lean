/- impl's way inward: goIn.value, and all of it. -/
import Derived.Test.YtcgbonlffcpofaaGreatDoorQ15
namespace Go.Proofs.YtcgbonlffcpofaaGreatDoor
open Go.RowKit

theorem fit_kinds {k m : Int} {s : ByteArray} {l : Nat} (h : fitB k m s l = true) : k = 1 ∨ k = 2 ∨ k = 3 ∨ k = 4 ∨ k = 5 ∨ k = 6 ∨ k = 7 ∨ k = 8 ∨ k = 9 := by
  refine Decidable.byContradiction fun hn => ?_
  have := fit_else (i := m) (s := s) (l := l) (k := k) (by omega) (by omega) (by omega) (by omega) (by omega) (by omega) (by omega) (by omega) (by omega)
  rw [this] at h; cases h

theorem box_block (w : World) (g : Nat) (v : Value) (arr : Array Value) (e : TypeId) (hg : g < w.heap.size) :
    ((w.alloc (.cells arr e)).setCell ⟨g, 0, none⟩ v).heap[w.heap.size]? = some (.cells arr e (0, 0)) :=
  (Below.heap_setCell _ _ _ _ (by show w.heap.size ≠ g; omega)).trans (heap_new _ _)

theorem valOK_fit {n : Nat} {k m : Int} {s : ByteArray} {ks : List (Tm n)} {c d : Nat} (h : valOK (n + 1) (k, m, s, ks) c d) : c + 1 ≤ 2000 ∧ d ≤ 100 ∧ fitB k m s ks.length = true := by
  obtain ⟨h1, h2, h3⟩ := h
  have h2' : c + (1 + (ks.map (siz n)).sum) ≤ 2000 := h2
  have h3' : d + (1 + (ks.map (dep n)).foldl max 0) ≤ 101 := h3
  have h1' : (fitB k m s ks.length && ks.all (rightB n) && (if k = 7 then risesB (cmpT n n) ks else true)) = true := h1
  rw [Bool.and_eq_true, Bool.and_eq_true] at h1'
  exact ⟨by omega, by omega, h1'.1.1⟩
theorem valOK_row {n : Nat} {k m : Int} {s : ByteArray} {ks : List (Tm n)} {c d : Nat} (hf : fitB k m s ks.length = true) : valOK (n + 1) (k, m, s, ks) c d ↔ (rowOK ks (c + 1) (d + 1) ∧ (k = 7 → risesB (cmpT n n) ks = true)) := by
  have e1 : rightB (n + 1) (k, m, s, ks) = (fitB k m s ks.length && ks.all (rightB n) && (if k = 7 then risesB (cmpT n n) ks else true)) := rfl
  have e2 : siz (n + 1) (k, m, s, ks) = 1 + sizS ks := rfl
  have e3 : dep (n + 1) (k, m, s, ks) = 1 + depS ks := rfl
  unfold valOK rowOK
  rw [e1, e2, e3, hf, Bool.true_and, Bool.and_eq_true, List.all_eq_true]
  constructor
  · rintro ⟨⟨h1, h2⟩, h3, h4⟩
    refine ⟨⟨h1, by omega, by omega⟩, fun hk => ?_⟩
    rwa [if_pos hk] at h2
  · rintro ⟨⟨h1, h3, h4⟩, h2⟩
    refine ⟨⟨h1, ?_⟩, by omega, by omega⟩
    split
    · next hk => exact h2 hk
    · rfl

theorem rowOK_nil {n : Nat} {ks : List (Tm n)} (hl : ks.length = 0) {c d : Nat} (hc : c ≤ 2000) (hd : d ≤ 101) : rowOK ks c d := by
  have : ks = [] := List.eq_nil_of_length_eq_zero hl
  subst this
  exact ⟨fun t ht => absurd ht (by simp), by simp [sizS]; omega, by simp [depS]; omega⟩
theorem leaf_end {n : Nat} {k m : Int} {s : ByteArray} {ks : List (Tm n)} {g c d : Nat} {w w' : World} {v : Value} (hf : fitB k m s ks.length = true) (hl : ks.length = 0) (hk : k ≠ 7) (hp : c + 1 ≤ 2000 ∧ d ≤ 100)
    (hb : But g w w') (hct : Ctr g (c + 1) w') (hm : In64 m) (hs : s.size ≤ 2 ^ 47)
    (hv : (k = 1 ∧ v = .iface 104 (.int .i64 m)) ∨ (k = 2 ∧ v = .iface 105 (.string s)) ∨ (k = 3 ∧ v = .iface 106 (.int .i64 m)) ∨
     (k = 5 ∧ v = .iface 111 (.int .i64 m)) ∨ (k = 9 ∧ v = .iface 117 (.string s))) : ValEnd (n + 1) (k, m, s, ks) g c d w (.returned v) w' := by
  refine ⟨hb, .inl ⟨(valOK_row hf).2 ⟨rowOK_nil hl hp.1 (by omega), fun h => absurd h hk⟩, v, rfl, ⟨hm, hs, ?_⟩, ?_⟩⟩
  · rcases hv with h | h | h | h | h
    · exact .inl h
    · exact .inr (.inl h)
    · exact .inr (.inr (.inl h))
    · exact .inr (.inr (.inr (.inl h)))
    · exact .inr (.inr (.inr (.inr (.inl h))))
  · have : ks = [] := List.eq_nil_of_length_eq_zero hl
    subst this
    exact hct
theorem kids_end {n : Nat} {k m : Int} {s : ByteArray} {ks : List (Tm n)} {g c d : Nat} {w w2 w' : World} {v : Value} (hf : fitB k m s ks.length = true) (hok : rowOK ks (c + 1) (d + 1)) (hr : k = 7 → risesB (cmpT n n) ks = true)
    (hb : But g w w2) (hb' : But g w2 w') {R cap : Nat} (hK : KAt (Fresh w2 w') w' (VAt (Fresh w2 w') w' n) ks (some ⟨R, 0, none⟩)) (hcap : ks.length / 2 ≤ cap) (hcap2 : cap ≤ 2 ^ 47) (hct : Ctr g (c + 1 + sizS ks) w') (hm : In64 m) (hs : s.size ≤ 2 ^ 47)
    (hv : (k = 4 ∧ v = .iface 110 (.agg #[.int .i64 m, .slice (some ⟨R, 0, none⟩) ks.length cap])) ∨ (k = 6 ∧ v = .iface 112 (.slice (some ⟨R, 0, none⟩) ks.length cap)) ∨
        (k = 8 ∧ v = .iface 116 (.slice (some ⟨R, 0, none⟩) ks.length cap)) ∨ (k = 7 ∧ v = .iface 114 (.slice (some ⟨R, 0, none⟩) (ks.length / 2) cap))) :
    ValEnd (n + 1) (k, m, s, ks) g c d w (.returned v) w' := by
  refine ⟨hb.trans hb', .inl ⟨(valOK_row hf).2 ⟨hok, hr⟩, v, rfl, ⟨hm, hs, .inr (.inr (.inr (.inr (.inr ⟨some ⟨R, 0, none⟩, cap, ?_, hcap, hcap2, hv⟩))))⟩, ?_⟩⟩
  · exact hK.mono (fun b hb1 => ⟨Nat.le_trans hb.size hb1.1, hb1.2⟩) fun _ _ _ h => h.mono fun b hb1 => ⟨Nat.le_trans hb.size hb1.1, hb1.2⟩
  · have : siz (n + 1) (k, m, s, ks) = 1 + sizS ks := rfl
    rw [this, ← Nat.add_assoc]; exact hct
theorem kids_fault {n : Nat} {k m : Int} {s : ByteArray} {ks : List (Tm n)} {g c d : Nat} {w w2 w' : World} (hf : fitB k m s ks.length = true) (hb : But g w w2) (hb' : But g w2 w')
    (hno : ¬ (rowOK ks (c + 1) (d + 1) ∧ (k = 7 → risesB (cmpT n n) ks = true))) : ValEnd (n + 1) (k, m, s, ks) g c d w faultE w' :=
  ⟨hb.trans hb', .inr ⟨fun hv => hno ((valOK_row hf).1 hv), rfl⟩⟩
theorem fit_leaf {k m : Int} {s : ByteArray} {l : Nat} (h : fitB k m s l = true) (hk : k = 1 ∨ k = 2 ∨ k = 3 ∨ k = 5 ∨ k = 9) : l = 0 := by
  rcases hk with rfl | rfl | rfl | rfl | rfl <;> simp [fitB] at h <;> omega
theorem fit_even {m : Int} {s : ByteArray} {l : Nat} (h : fitB 7 m s l = true) : ∃ p, l = 2 * p := by
  simp [fitB] at h
  exact ⟨l / 2, by omega⟩

set_option maxRecDepth 40000 in
set_option maxHeartbeats 4000000 in
theorem val_of {n : Nat} (h : RowSaid n) : ValSaid (n + 1) := by
  rintro ⟨k, m, s, ks⟩ c0 c1 c2 c3 g c d w hc ⟨rfl, rfl, rfl, hk64, hm, hs, hS⟩ hc1 hd1 hd2
  have HS := hide hS
  obtain ⟨a, cap, rfl, hlen, hcap, hel⟩ := hS
  have hgl := hc.lt
  have HP := hide (fun x : Obj => passed_any g c d (w.alloc x) (hc.below ((Below.refl _ _).alloc (Nat.le_refl _) x)) hc1 (by omega))
  have HC := hide hc
  clear hel hc
  by_cases hpass : c + 1 ≤ 2000 ∧ d ≤ 100
  case neg =>
    have hb : (decide (2000 < c + 1) || decide (100 < d)) = true := by simp; omega
    go_enter Tryz.func68, Tryz.ntmps68
    go_wp2_with (go_at_call 69; refine ((unhide HP) _).mono ?_; rintro e w' ⟨rfl, rfl⟩; rw [hb])
    exact ⟨rfl, ((But.refl g w).set _ _).alloc _, .inr ⟨fun hv => hpass ⟨(valOK_fit hv).1, (valOK_fit hv).2.1⟩, rfl⟩⟩
  case pos =>
    have hb : (decide (2000 < c + 1) || decide (100 < d)) = false := by simp; omega
    by_cases hfit : fitB k m s ks.length = true
    case neg =>
      have hfit' : fitB k m s ks.length = false := by simpa using hfit
      go_enter Tryz.func68, Tryz.ntmps68
      go_wp2_with fail
      refine ((unhide HP) _).mono ?_
      rintro e w1 ⟨rfl, hw1⟩
      have HB : w1.heap[w.heap.size]? = some _ := hw1 ▸ box_block w g _ _ _ hgl
      have hbw : But g w w1 := hw1 ▸ ((But.refl g w).alloc _).set _ _
      have f0 := cell_of_heap HB 0
      have f1 := cell_of_heap HB 1
      have f2 := cell_of_heap HB 2
      have f3 := cell_of_heap HB 3
      simp at f0 f1 f2 f3
      clear hw1 HB
      rw [hb]
      go_wp2_with fail
      refine (fieldsFit_any k m s a ks.length cap w1 hs hlen hcap).mono ?_
      rintro e w2 ⟨rfl, hb2⟩
      rw [hfit']
      go_wp2_with fail
      exact ⟨rfl, hbw.trans (But.below hb2), .inr ⟨fun hv => hfit (valOK_fit hv).2.2, rfl⟩⟩
    case pos =>
      have hk := fit_kinds hfit
      go_enter Tryz.func68, Tryz.ntmps68
      go_wp2_with fail
      refine ((unhide HP) _).mono ?_
      rintro e w1 ⟨rfl, hw1⟩
      have HB : w1.heap[w.heap.size]? = some _ := hw1 ▸ box_block w g _ _ _ hgl
      have hbw : But g w w1 := hw1 ▸ ((But.refl g w).alloc _).set _ _
      have f0 := cell_of_heap HB 0
      have f1 := cell_of_heap HB 1
      have f2 := cell_of_heap HB 2
      have f3 := cell_of_heap HB 3
      simp at f0 f1 f2 f3
      have hlt : w.heap.size < w1.heap.size := by rw [hw1]; simp
      have HCT := hide (hw1 ▸ ((unhide HC).below ((Below.refl _ _).alloc (Nat.le_refl _) _)).set (c + 1) : Ctr g (c + 1) w1)
      clear hw1 HB
      rw [hb]
      go_wp2_with fail
      refine (fieldsFit_any k m s a ks.length cap w1 hs hlen hcap).mono ?_
      rintro e w2 ⟨rfl, hb2⟩
      rw [hfit]
      have F0 := (World.cell?_of_block (hb2.block _ hlt) : w2.cell? ⟨w.heap.size, 0, none⟩ = _).trans f0
      have F1 := (World.cell?_of_block (hb2.block _ hlt) : w2.cell? ⟨w.heap.size, 1, none⟩ = _).trans f1
      have F2 := (World.cell?_of_block (hb2.block _ hlt) : w2.cell? ⟨w.heap.size, 2, none⟩ = _).trans f2
      have F3 := (World.cell?_of_block (hb2.block _ hlt) : w2.cell? ⟨w.heap.size, 3, none⟩ = _).trans f3
      clear f0 f1 f2 f3
      have hbw2 := hbw.trans (But.below hb2)
      have HCT2 := hide ((unhide HCT).below hb2)
      have HF := hide hfit
      clear hfit hb
      have hW := hide ((unhide HS).but hbw2)
      have hcast : ((d + 1 : Nat) : Int) = (d : Int) + 1 := by omega
      have hrow := h ks _ g (c + 1) (d + 1) w2 (unhide HCT2) (unhide hW) hpass.1 (by omega) (by omega)
      rw [hcast] at hrow
      have HROW := hide hrow
      clear hrow
      rcases hk with rfl | rfl | rfl | rfl | rfl | rfl | rfl | rfl | rfl
      · have hl := fit_leaf (unhide HF) (by simp)
        go_wp2_with fail
        go_ret
        exact leaf_end (unhide HF) hl (by decide) hpass hbw2 (unhide HCT2) hm hs (by simp)
      · have hl := fit_leaf (unhide HF) (by simp)
        go_wp2_with fail
        go_ret
        exact leaf_end (unhide HF) hl (by decide) hpass hbw2 (unhide HCT2) hm hs (by simp)
      · have hl := fit_leaf (unhide HF) (by simp)
        go_wp2_with fail
        go_ret
        exact leaf_end (unhide HF) hl (by decide) hpass hbw2 (unhide HCT2) hm hs (by simp)
      · go_wp2_with fail
        have hbd : But g w w2.drew := ⟨hbw2.os, hbw2.tape, hbw2.output, hbw2.size, hbw2.block⟩
        have hctd : Ctr g (c + 1) w2.drew := unhide HCT2
        have hrd := h ks _ g (c + 1) (d + 1) w2.drew hctd ((unhide HS).but hbd) hpass.1 (by omega) (by omega)
        rw [hcast] at hrd
        have HRD := hide hrd
        have hsz : w.heap.size < w2.heap.size := Nat.lt_of_lt_of_le hlt hb2.size
        have hgB : w.heap.size ≠ g := by omega
        have w0 : IntKind.i64.wrap ((d : Int) + 1) = (d : Int) + 1 := by simp [IntKind.wrap, IntKind.bits, IntKind.signed]; omega
        clear hrd hctd
        go_region_with (go_at_call 71; refine (unhide HRD).mono ?_; rintro e w3 ⟨hb3, ⟨hok, R, cap3, rfl, hR, hcap3, hcap4, hK, hct3⟩ | ⟨hno, rfl⟩⟩; rotate_left; exact ⟨rfl, kids_fault (unhide HF) hbd hb3 fun h => hno h.1⟩; have HOK := hide hok; have HK := hide hK; have HCT3 := hide hct3; have G1 := (World.cell?_of_block (hb3.block _ hsz hgB) : w3.cell? ⟨w.heap.size, 1, none⟩ = _).trans F1; clear hok hK hct3)
        all_goals
          go_wp2_with fail
          go_ret
          exact kids_end (cap := cap3) (unhide HF) (unhide HOK) (fun h => absurd h (by decide)) hbd hb3 (unhide HK) (by omega) (by omega) (unhide HCT3) hm hs (.inl ⟨rfl, rfl⟩)
      · have hl := fit_leaf (unhide HF) (by simp)
        go_wp2_with fail
        go_ret
        exact leaf_end (unhide HF) hl (by decide) hpass hbw2 (unhide HCT2) hm hs (by simp)
      · go_wp2_with fail
        refine (unhide HROW).mono ?_
        rintro e w3 ⟨hb3, ⟨hok, R, cap3, rfl, hR, hcap3, hcap4, hK, hct3⟩ | ⟨hno, rfl⟩⟩
        · have HOK := hide hok
          have HK := hide hK
          have HCT3 := hide hct3
          clear hok hK hct3
          go_wp2_with fail
          go_ret
          exact kids_end (cap := cap3) (unhide HF) (unhide HOK) (fun h => absurd h (by decide)) hbw2 hb3 (unhide HK) (by omega) (by omega) (unhide HCT3) hm hs (by simp)
        · exact ⟨rfl, kids_fault (unhide HF) hbw2 hb3 fun h => hno h.1⟩
      · obtain ⟨p, hp⟩ := fit_even (unhide HF)
        have hrise := rising_of h ks _ p g (c + 1) (d + 1) w2 hp (unhide HCT2) (unhide hW) hpass.1 (by omega) (by omega)
        rw [hcast] at hrise
        have HRISE := hide hrise
        clear hrise hp
        go_wp2_with fail
        refine (unhide HRISE).mono ?_
        rintro e w3 ⟨hb3, ⟨hok, R, rfl, hR, hK, hct3⟩ | ⟨hno, rfl⟩⟩
        · have HOK := hide hok
          have HK := hide hK
          have HCT3 := hide hct3
          clear hok hK hct3
          go_wp2_with fail
          go_ret
          exact kids_end (unhide HF) (unhide HOK).1 (fun _ => (unhide HOK).2) hbw2 hb3 (unhide HK) (Nat.le_refl _) (by omega) (unhide HCT3) hm hs (by simp)
        · exact ⟨rfl, kids_fault (unhide HF) hbw2 hb3 fun h => hno ⟨h.1, h.2 rfl⟩⟩
      · go_wp2_with fail
        refine (unhide HROW).mono ?_
        rintro e w3 ⟨hb3, ⟨hok, R, cap3, rfl, hR, hcap3, hcap4, hK, hct3⟩ | ⟨hno, rfl⟩⟩
        · have HOK := hide hok
          have HK := hide hK
          have HCT3 := hide hct3
          clear hok hK hct3
          go_wp2_with fail
          go_ret
          exact kids_end (cap := cap3) (unhide HF) (unhide HOK) (fun h => absurd h (by decide)) hbw2 hb3 (unhide HK) (by omega) (by omega) (unhide HCT3) hm hs (by simp)
        · exact ⟨rfl, kids_fault (unhide HF) hbw2 hb3 fun h => hno h.1⟩
      · have hl := fit_leaf (unhide HF) (by simp)
        go_wp2_with fail
        go_ret
        exact leaf_end (unhide HF) hl (by decide) hpass hbw2 (unhide HCT2) hm hs (by simp)

theorem val_any : ∀ n, ValSaid n
  | 0 => fun t => t.elim
  | n + 1 => val_of (row_of (val_any n))

end Go.Proofs.YtcgbonlffcpofaaGreatDoor
