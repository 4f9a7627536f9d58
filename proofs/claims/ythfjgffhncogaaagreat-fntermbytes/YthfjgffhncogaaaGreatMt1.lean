/- The laws' markTermS: what it marks. -/
import Derived.Test.YthfjgffhncogaaaGreatQ32
import Derived.Test.YthfjgffhncogaaaGreatQ4
namespace Go.Proofs.YthfjgffhncogaaaGreat
open Go.RowKit Go.Deep

def kidsOf {n : Nat} (t : Tm (n + 1)) : List (Tm n) := t.2.2.2
theorem siz_kids {n : Nat} (t : Tm (n + 1)) : siz (n + 1) t = 1 + sizS (kidsOf t) := by
  obtain ⟨_, _, _, _⟩ := t
  rfl
theorem len_siz : ∀ {n : Nat} (ks : List (Tm n)), ks.length ≤ sizS ks
  | 0, ks => by
    cases ks with
    | nil => exact Nat.le_refl _
    | cons t _ => exact t.elim
  | n + 1, ks => by
    induction ks with
    | nil => exact Nat.le_refl _
    | cons t ts ih =>
      have : sizS (t :: ts) = siz (n + 1) t + sizS ts := by simp [sizS]
      rw [this, siz_kids, List.length_cons]
      omega

/-- A row of terms, and the rows below it, each in blocks of its own between lo and hi. -/
def OwnS (w : World) : (n : Nat) → Nat → Nat → List (Tm n) → Value → Prop
  | 0, _, _, ks, v => ∃ a cap, v = .slice a ks.length cap
  | n + 1, lo, hi, ks, v => ∃ a cap, v = .slice a ks.length cap ∧ (ks = [] ∨ ∃ R cs, ∃ bs : Nat → Nat, a = some ⟨R, 0, none⟩ ∧ w.heap[R]? = some (.cells cs 26 (0, 0)) ∧ lo ≤ R ∧ R < bs 0 ∧ (∀ i j, i ≤ j → bs i ≤ bs j) ∧ bs ks.length ≤ hi ∧
      ks.length * 4 ≤ cs.size ∧ ∀ i (h : i < ks.length), ∃ v3, cs[i * 4 + 3]? = some v3 ∧ OwnS w n (bs i) (bs (i + 1)) (kidsOf ks[i]) v3)

theorem OwnS.keep {w w' : World} : ∀ {n lo hi : Nat} {ks : List (Tm n)} {v : Value}, OwnS w n lo hi ks v → (∀ b, lo ≤ b → b < hi → w'.heap[b]? = w.heap[b]?) → OwnS w' n lo hi ks v
  | 0, _, _, _, _, h, _ => h
  | n + 1, lo, hi, ks, v, ⟨a, cap, hv, h⟩, hk => by
    refine ⟨a, cap, hv, ?_⟩
    rcases h with h | ⟨R, cs, bs, h1, h2, h3, h4, h5, h6, h7, h8⟩
    · exact .inl h
    · by_cases hn : ks = []
      · exact .inl hn
      refine .inr ⟨R, cs, bs, h1, ?_, h3, h4, h5, h6, h7, fun i hi' => ?_⟩
      · rw [hk R h3 (by have := h5 0 ks.length (Nat.zero_le _); omega), h2]
      · obtain ⟨v3, e3, ho⟩ := h8 i hi'
        exact ⟨v3, e3, ho.keep fun b hb1 hb2 => hk b (by have := h5 0 i (Nat.zero_le _); omega) (by have := h5 (i + 1) ks.length (by omega); omega)⟩
theorem OwnS.form {w : World} : ∀ {n lo hi : Nat} {ks : List (Tm n)} {v : Value}, OwnS w n lo hi ks v → ∃ a cap, v = .slice a ks.length cap
  | 0, _, _, _, _, h => h
  | _ + 1, _, _, _, _, ⟨a, cap, h, _⟩ => ⟨a, cap, h⟩

/-- Marked from k on. -/
def MkdS (w : World) : (n : Nat) → Nat → Nat → List (Tm n) → Value → Nat → Prop
  | 0, _, _, ks, v, _ => ∃ a cap, v = .slice a ks.length cap
  | n + 1, lo, hi, ks, v, k => ∃ a cap, v = .slice a ks.length cap ∧ (ks = [] ∨ ∃ R, a = some ⟨R, 0, none⟩ ∧ lo ≤ R ∧ R < hi ∧ ∀ i (h : i < ks.length), ∃ v3 : Value, w.cell? ⟨R, i * 4, none⟩ = some (.int .i64 ((k + 3 * sizS (ks.take i) : Nat) : Int)) ∧
      w.cell? ⟨R, i * 4 + 1, none⟩ = some (.int .i64 ((k + 3 * sizS (ks.take i) + 1 : Nat) : Int)) ∧ w.cell? ⟨R, i * 4 + 2, none⟩ = some (.string (mtext (k + 3 * sizS (ks.take i) + 2))) ∧ w.cell? ⟨R, i * 4 + 3, none⟩ = some v3 ∧
      MkdS w n lo hi (kidsOf ks[i]) v3 (k + 3 * sizS (ks.take i) + 3))
theorem MkdS.keep {w w' : World} : ∀ {n lo hi lo' hi' : Nat} {ks : List (Tm n)} {v : Value} {k : Nat}, MkdS w n lo hi ks v k → (∀ b, lo ≤ b → b < hi → w'.heap[b]? = w.heap[b]?) → lo' ≤ lo → hi ≤ hi' → MkdS w' n lo' hi' ks v k
  | 0, _, _, _, _, _, _, _, h, _, _, _ => h
  | n + 1, lo, hi, lo', hi', ks, v, k, ⟨a, cap, hv, h⟩, hk, hl, hh => by
    refine ⟨a, cap, hv, ?_⟩
    rcases h with h | ⟨R, h1, h2, h3, h4⟩
    · exact .inl h
    · refine .inr ⟨R, h1, by omega, by omega, fun i hi' => ?_⟩
      obtain ⟨v3, e0, e1, e2, e3, hm⟩ := h4 i hi'
      have hc : ∀ o, w'.cell? ⟨R, o, none⟩ = w.cell? ⟨R, o, none⟩ := fun o => World.cell?_of_block (w := w) (hk R h2 h3)
      exact ⟨v3, (hc _).trans e0, (hc _).trans e1, (hc _).trans e2, (hc _).trans e3, hm.keep hk hl hh⟩

/-- Only blocks between lo and hi, and new ones, were written. -/
structure Out (lo hi : Nat) (w w' : World) : Prop where
  os : w'.os = w.os
  tape : w'.tape = w.tape
  output : w'.output = w.output
  size : w.heap.size ≤ w'.heap.size
  block : ∀ b, b < w.heap.size → b < lo ∨ hi ≤ b → w'.heap[b]? = w.heap[b]?
theorem Out.refl (lo hi : Nat) (w : World) : Out lo hi w w := ⟨rfl, rfl, rfl, Nat.le_refl _, fun _ _ _ => rfl⟩
theorem Out.trans {lo hi : Nat} {a b c : World} (h : Out lo hi a b) (k : Out lo hi b c) : Out lo hi a c :=
  ⟨k.os.trans h.os, k.tape.trans h.tape, k.output.trans h.output, Nat.le_trans h.size k.size, fun i hi hg => (k.block i (Nat.lt_of_lt_of_le hi h.size) hg).trans (h.block i hi hg)⟩
theorem Out.below {lo hi : Nat} {w w' : World} (h : Below w.heap.size w w') : Out lo hi w w' := ⟨h.os, h.tape, h.output, h.size, fun b hb _ => h.block b hb⟩
theorem Out.set {lo hi R : Nat} {a w : World} (h : Out lo hi a w) (h1 : lo ≤ R) (h2 : R < hi) (o : Nat) (v : Value) : Out lo hi a (w.setCell ⟨R, o, none⟩ v) :=
  h.trans ⟨rfl, rfl, rfl, by simp, fun k _ hg => Below.heap_setCell _ _ _ _ (by show k ≠ R; omega)⟩
theorem Out.wide {lo hi lo' hi' : Nat} {w w' : World} (h : Out lo hi w w') (h1 : lo' ≤ lo) (h2 : hi ≤ hi') : Out lo' hi' w w' := ⟨h.os, h.tape, h.output, h.size, fun b hb hg => h.block b hb (by omega)⟩

def MarkSaid (n : Nat) : Prop := ∀ (ks : List (Tm n)) (v : Value) (lo hi k : Nat) (w : World), OwnS w n lo hi ks v → hi ≤ w.heap.size → k + 3 * sizS ks ≤ 100000 →
  Calls Tryz.prog 49 #[v, .int .i64 k] w fun e w' => e = .returned (.int .i64 ((k + 3 * sizS ks : Nat) : Int)) ∧ Out lo hi w w' ∧ MkdS w' n lo hi ks v k

set_option maxRecDepth 40000 in
set_option maxHeartbeats 1000000 in
theorem mark_nil (a : Option Addr) (cap k : Nat) (w : World) : Calls Tryz.prog 49 #[.slice a 0 cap, .int .i64 k] w fun e w' => e = .returned (.int .i64 k) ∧ w' = w := by
  go_enter Tryz.func49, Tryz.ntmps49
  go_wp2_with fail
  go_loopw [1, 5] (fun kv iv wr => kv = .int .i64 k ∧ iv = .int .i64 0 ∧ wr = w) (fun _ _ _ => 0)
  case atStart => exact ⟨rfl, rfl, rfl⟩
  case round =>
    obtain ⟨rfl, rfl, rfl⟩ := hrel
    go_wp2_with fail
    go_ret
    exact ⟨rfl, rfl⟩

set_option maxRecDepth 40000 in
set_option maxHeartbeats 2000000 in
theorem mark_of {n : Nat} (ih : MarkSaid n) : MarkSaid (n + 1) := by
  rintro ks v lo hi k w ⟨a, cap, rfl, h⟩ hhi hk
  by_cases hn : ks = []
  · subst hn
    refine (mark_nil a cap k w).mono ?_
    rintro e w' ⟨rfl, rfl⟩
    exact ⟨by simp [sizS], Out.refl _ _ _, a, cap, rfl, .inl rfl⟩
  rcases h with h | ⟨R, cs, bs, rfl, hR, hlo, hb0, hmono, hbh, hcs, hkid⟩
  · exact absurd h hn
  have hlen := len_siz ks
  have HK := hide hkid
  have HM := hide hmono
  have hRw : R < w.heap.size := (Array.getElem?_eq_some_iff.1 hR).1
  clear hkid hmono
  go_enter Tryz.func49, Tryz.ntmps49
  go_wp2_with fail
  go_loopw [1, 5] (fun kv iv wr => ∃ (i : Nat) (cr : Array Value), i ≤ ks.length ∧ iv = .int .i64 i ∧ kv = .int .i64 ((k + 3 * sizS (ks.take i) : Nat) : Int) ∧ wr.heap[R]? = some (.cells cr 26 (0, 0)) ∧ cr.size = cs.size ∧ (∀ j, cr[j * 4 + 3]? = cs[j * 4 + 3]?) ∧
      Out R (bs i) w wr ∧ (∀ b, b < w.heap.size → b ≠ R → b < bs 0 ∨ bs i ≤ b → wr.heap[b]? = w.heap[b]?) ∧ ∀ j (h : j < ks.length), j < i → ∃ v3 : Value, cr[j * 4]? = some (.int .i64 ((k + 3 * sizS (ks.take j) : Nat) : Int)) ∧ cr[j * 4 + 1]? = some (.int .i64 ((k + 3 * sizS (ks.take j) + 1 : Nat) : Int)) ∧
        cr[j * 4 + 2]? = some (.string (mtext (k + 3 * sizS (ks.take j) + 2))) ∧ cr[j * 4 + 3]? = some v3 ∧ MkdS wr n (bs j) (bs (j + 1)) (kidsOf ks[j]) v3 (k + 3 * sizS (ks.take j) + 3)) (fun _ iv _ => ks.length - (intOf iv).toNat)
  case atStart => exact ⟨0, cs, Nat.zero_le _, rfl, by simp [sizS], hR, rfl, fun _ => rfl, Out.refl _ _ _, fun _ _ _ _ => rfl, fun j _ hj => by omega⟩
  case round =>
    obtain ⟨i, cr, hil, rfl, rfl, hRr, hcr, hc3, hout, hblk, hdone⟩ := hrel
    by_cases hlt : i < ks.length
    · obtain ⟨v3, e3, ho3⟩ := unhide HK i hlt
      obtain ⟨a3, cap3, hv3⟩ := ho3.form
      have hsz := sizS_take ks i hlt
      rw [siz_kids] at hsz
      have hsl := sizS_le ks (i + 1)
      obtain ⟨K, hKd⟩ : ∃ K, K = k + 3 * sizS (ks.take i) := ⟨_, rfl⟩
      rw [← hKd]
      have p0 := cell_of_heap hRr (i * 4)
      have p1 := cell_of_heap hRr (i * 4 + 1)
      rw [Array.getElem?_eq_getElem (by omega)] at p0 p1
      have q0 := frozen_of_heap hRr (i * 4)
      have q1 := frozen_of_heap hRr (i * 4 + 1)
      have hRs := (Array.getElem?_eq_some_iff.1 hRr).1
      have hb0i := unhide HM 0 i (Nat.zero_le _)
      have hbi1 := unhide HM i (i + 1) (by omega)
      have hbil := unhide HM (i + 1) ks.length hlt
      have hK : K + 3 + 3 * sizS (kidsOf ks[i]) ≤ 100000 := by omega
      have HVAL := hide (show ((K + 3 + 3 * sizS (kidsOf ks[i]) : Nat) : Int) = ((k + 3 * sizS (ks.take (i + 1)) : Nat) : Int) by rw [hsz, hKd]; omega)
      have HKD := hide hKd
      have HR := hide hRr
      have HDN := hide hdone
      have HOUT := hide hout
      have HBLK := hide hblk
      have HC3 := hide hc3
      have HO3 := hide ho3
      have HV3 := hide hv3
      have HE3 := hide e3
      clear hRr hdone hout hblk hc3 hKd hsz hsl ho3 hv3 e3
      go_wp2_with fail
      rw [show (K : Int) + 1 + 1 = ((K + 2 : Nat) : Int) by omega]
      obtain ⟨w2, hw2⟩ : ∃ w2, w2 = (wr.setCell ⟨R, i * 4, none⟩ (.int .i64 (K : Int))).setCell ⟨R, i * 4 + 1, none⟩ (.int .i64 ((K : Int) + 1)) := ⟨_, rfl⟩
      rw [← hw2]
      have hR2 : w2.heap[R]? = some (.cells ((cr.setIfInBounds (i * 4) (.int .i64 (K : Int))).setIfInBounds (i * 4 + 1) (.int .i64 ((K : Int) + 1))) 26 (0, 0)) := by rw [hw2]; exact Row.setHeap (Row.setHeap (unhide HR) _ _) _ _
      have hs2 : w2.heap.size = wr.heap.size := by rw [hw2]; simp
      have hn2 : ∀ b, b ≠ R → w2.heap[b]? = wr.heap[b]? := fun b hb => by rw [hw2]; exact (Below.heap_setCell _ _ _ _ hb).trans (Below.heap_setCell _ _ _ _ hb)
      have ho2 : Out R (bs (i + 1)) w w2 := by rw [hw2]; exact (((unhide HOUT).wide (Nat.le_refl _) hbi1).set (Nat.le_refl _) (by omega) _ _).set (Nat.le_refl _) (by omega) _ _
      clear hw2 p0 p1 q0 q1
      refine (mtext_any (K + 2) w2 (by omega)).mono ?_
      rintro e w3 ⟨rfl, hb3⟩
      have hR3 := (hb3.block R (by omega)).trans hR2
      obtain ⟨c3, hc3d⟩ : ∃ c3, c3 = (cr.setIfInBounds (i * 4) (.int .i64 (K : Int))).setIfInBounds (i * 4 + 1) (.int .i64 ((K : Int) + 1)) := ⟨_, rfl⟩
      rw [← hc3d] at hR3
      have hsz3 : c3.size = cs.size := by rw [hc3d]; simp; exact hcr
      have g0 : c3[i * 4]? = some (.int .i64 (K : Int)) := by rw [hc3d, Array.getElem?_setIfInBounds_ne (by omega), Array.getElem?_setIfInBounds_self_of_lt (by omega)]
      have g1 : c3[i * 4 + 1]? = some (.int .i64 ((K + 1 : Nat) : Int)) := by rw [hc3d, Array.getElem?_setIfInBounds_self_of_lt (by simp; omega)]; rfl
      have gn : ∀ j, j ≠ i * 4 → j ≠ i * 4 + 1 → c3[j]? = cr[j]? := fun j h1 h2 => by rw [hc3d, Array.getElem?_setIfInBounds_ne (by omega), Array.getElem?_setIfInBounds_ne (by omega)]
      have p2 := cell_of_heap hR3 (i * 4 + 2)
      have p3 := cell_of_heap hR3 (i * 4 + 3)
      rw [Array.getElem?_eq_getElem (by omega)] at p2
      rw [gn _ (by omega) (by omega), unhide HC3, unhide HE3, unhide HV3] at p3
      have q2 := frozen_of_heap hR3 (i * 4 + 2)
      obtain ⟨T, hT⟩ : ∃ T, T = mtext (K + 2) := ⟨_, rfl⟩
      rw [← hT]
      obtain ⟨w4, hw4⟩ : ∃ w4, w4 = w3.setCell ⟨R, i * 4 + 2, none⟩ (.string T) := ⟨_, rfl⟩
      have hR4 : w4.heap[R]? = some (.cells (c3.setIfInBounds (i * 4 + 2) (.string T)) 26 (0, 0)) := by rw [hw4]; exact Row.setHeap hR3 _ _
      have hs4 : w4.heap.size = w3.heap.size := by rw [hw4]; simp
      have hn4 : ∀ b, b < wr.heap.size → b ≠ R → w4.heap[b]? = wr.heap[b]? := fun b hb hne => by rw [hw4]; exact (Below.heap_setCell _ _ _ _ hne).trans ((hb3.block b (by omega)).trans (hn2 b hne))
      have hbs3 := hb3.size
      have hos := (unhide HOUT).size
      have ho4 : Out R (bs (i + 1)) w w4 := by rw [hw4]; exact (ho2.trans (Out.below hb3)).set (Nat.le_refl _) (by omega) _ _
      have how4 : OwnS w4 n (bs i) (bs (i + 1)) (kidsOf ks[i]) v3 := (unhide HO3).keep fun b h1 h2 => (hn4 b (by omega) (by omega)).trans (unhide HBLK b (by omega) (by omega) (.inr h1))
      have hcall := hide (ih (kidsOf ks[i]) v3 (bs i) (bs (i + 1)) (K + 3) w4 how4 (by omega) hK)
      rw [unhide HV3] at hcall
      have HW4 := hide hw4
      have HR4 := hide hR4
      have HN4 := hide hn4
      have HO4 := hide ho4
      have HG := hide (And.intro g0 (And.intro g1 gn))
      have HT := hide hT
      have HS4 := hide (show wr.heap.size ≤ w4.heap.size by omega)
      clear hw4 hR4 hn4 ho4 how4 hT g0 g1 gn hc3d hR3 hb3 ho2 hn2 hs2 hR2 hbs3 hos hs4
      go_wp2_with fail
      rw [← unhide HW4, show (K : Int) + 2 + 1 = ((K + 3 : Nat) : Int) by omega]
      refine (unhide hcall).mono ?_
      rintro e w5 ⟨rfl, ho5, hm5⟩
      rw [unhide HVAL]
      have HO5 := hide ho5
      have HM5 := hide hm5
      obtain ⟨Z, hZ⟩ : ∃ Z : Int, Z = ((k + 3 * sizS (ks.take (i + 1)) : Nat) : Int) := ⟨_, rfl⟩
      rw [← hZ]
      have HZ := hide hZ
      clear ho5 hm5 p2 p3 q2 hcall hZ
      go_wp2_with fail
      go_roundw
      case rel =>
        have hsl4 := unhide HS4
        have hout := unhide HOUT
        have ho5 := unhide HO5
        have hR4 := unhide HR4
        have hRs4 := (Array.getElem?_eq_some_iff.1 hR4).1
        obtain ⟨g0, g1, gn⟩ := unhide HG
        have gm : ∀ j, j ≠ i * 4 → j ≠ i * 4 + 1 → j ≠ i * 4 + 2 → (c3.setIfInBounds (i * 4 + 2) (.string T))[j]? = cr[j]? := fun j h1 h2 h3 => by rw [Array.getElem?_setIfInBounds_ne (by omega), gn j h1 h2]
        have hkeep : ∀ b, b < wr.heap.size → b ≠ R → b < bs i → w5.heap[b]? = wr.heap[b]? := fun b h1 h2 h3 => (ho5.block b (by omega) (.inl h3)).trans (unhide HN4 b h1 h2)
        refine ⟨i + 1, _, hlt, by go_num, by rw [unhide HZ], (ho5.block R hRs4 (.inl (by omega))).trans hR4, by simp; exact hsz3, fun j => ?_, (unhide HO4).trans (ho5.wide (by omega) (Nat.le_refl _)), fun b h1 h2 h3 => ?_, fun j hj hji => ?_⟩
        · rw [gm _ (by omega) (by omega) (by omega)]; exact unhide HC3 j
        · have hw := hout.size
          rw [ho5.block b (by omega) (by omega), unhide HN4 b (by omega) h2]
          exact unhide HBLK b h1 h2 (by omega)
        · by_cases hjj : j = i
          · subst hjj
            have e1 := unhide HKD
            have e2 := unhide HT
            refine ⟨v3, ?_, ?_, ?_, ?_, ?_⟩
            · rw [Array.getElem?_setIfInBounds_ne (by omega), g0, e1]
            · rw [Array.getElem?_setIfInBounds_ne (by omega), g1, e1]
            · rw [Array.getElem?_setIfInBounds_self_of_lt (by omega), e2, e1]
            · rw [gm _ (by omega) (by omega) (by omega), unhide HC3]; exact unhide HE3
            · rw [← e1, unhide HV3]; exact unhide HM5
          · obtain ⟨u3, r0, r1, r2, r3, rm⟩ := unhide HDN j hj (by omega)
            have hji2 := unhide HM (j + 1) i (by omega)
            have hj0 := unhide HM 0 j (Nat.zero_le _)
            refine ⟨u3, ?_, ?_, ?_, ?_, rm.keep (fun b h1 h2 => hkeep b ?_ (by omega) (by omega)) (Nat.le_refl _) (Nat.le_refl _)⟩
            · rw [gm _ (by omega) (by omega) (by omega)]; exact r0
            · rw [gm _ (by omega) (by omega) (by omega)]; exact r1
            · rw [gm _ (by omega) (by omega) (by omega)]; exact r2
            · rw [gm _ (by omega) (by omega) (by omega)]; exact r3
            · have := hout.size; omega
      case measure => simp [intOf]; omega
    · have hkk : i = ks.length := by omega
      subst hkk
      have HR := hide hRr
      have HDN := hide hdone
      have HOUT := hide hout
      clear hRr hdone hout hblk hc3
      go_wp2_with fail
      go_ret
      have hRb := unhide HM 0 ks.length (Nat.zero_le _)
      refine ⟨by simp, (unhide HOUT).wide hlo hbh, _, cap, rfl, .inr ⟨R, rfl, hlo, by omega, fun j hj => ?_⟩⟩
      obtain ⟨u3, r0, r1, r2, r3, rm⟩ := unhide HDN j hj hj
      have hj1 := unhide HM (j + 1) ks.length (by omega)
      have hj0 := unhide HM 0 j (Nat.zero_le _)
      exact ⟨u3, (cell_of_heap (unhide HR) _).trans r0, (cell_of_heap (unhide HR) _).trans r1, (cell_of_heap (unhide HR) _).trans r2, (cell_of_heap (unhide HR) _).trans r3, rm.keep (fun _ _ _ => rfl) (by omega) (by omega)⟩

theorem mark_any : ∀ n, MarkSaid n
  | 0 => fun ks v lo hi k w h _ _ => by
    obtain ⟨a, cap, rfl⟩ := h
    have hn : ks = [] := by
      cases ks with
      | nil => rfl
      | cons t _ => exact t.elim
    subst hn
    refine (mark_nil a cap k w).mono ?_
    rintro e w' ⟨rfl, rfl⟩
    exact ⟨by simp [sizS], Out.refl _ _ _, a, cap, rfl⟩
  | n + 1 => mark_of (mark_any n)

end Go.Proofs.YthfjgffhncogaaaGreat
