/- The order of terms as spec has it: l01Sign, l01Order, l01Each, l01Cmp. -/
import Derived.Test.YtffgdchemjmbmaaGreatQ1
import Derived.Deep.DeepCutAuto
namespace Go.Proofs.YtffgdchemjmbmaaGreat
open Go.RowKit

def sgn (a b : Int) : Int := if a < b then -1 else if b < a then 1 else 0
def ordS (a b : ByteArray) : Int := if Op.bytesLess a.toList b.toList then -1 else if Op.bytesLess a.toList b.toList || a.toList == b.toList then 0 else 1

/-- The first that tells two lists apart, from place i on, each so many places farther. -/
def eachI {α β : Type} (f : α → β → Int) (ks : List α) (ls : List β) (step : Nat) : Nat → Nat → Int
  | 0, _ => 0
  | fuel + 1, i => match ks[i]?, ls[i]? with
    | some x, some y => if f x y = 0 then eachI f ks ls step fuel (i + step) else f x y
    | _, _ => 0

def cmpT : (n m : Nat) → Tm n → Tm m → Int
  | 0, _, t, _ => t.elim
  | _ + 1, 0, _, u => u.elim
  | n + 1, m + 1, (k, i, s, ks), (k', i', s', ks') =>
    if k ≠ k' then sgn k k' else if i ≠ i' then sgn i i' else if s ≠ s' then ordS s s' else
    if k = 8 then (if eachI (cmpT n m) ks ks' 1 ks.length 0 = 0 then sgn ks.length ks'.length else eachI (cmpT n m) ks ks' 1 ks.length 0)
    else if ks.length ≠ ks'.length then sgn ks.length ks'.length
    else if k = 7 then (if eachI (cmpT n m) ks ks' 2 ks.length 0 = 0 then eachI (cmpT n m) ks ks' 2 ks.length 1 else eachI (cmpT n m) ks ks' 2 ks.length 0)
    else eachI (cmpT n m) ks ks' 1 ks.length 0

theorem eachI_out {α β : Type} (f : α → β → Int) (ks : List α) (ls : List β) (step fuel i : Nat) (h : ks.length ≤ i ∨ ls.length ≤ i) : eachI f ks ls step fuel i = 0 := by
  cases fuel with
  | zero => rfl
  | succ fuel =>
    unfold eachI
    rcases h with h | h
    · rw [List.getElem?_eq_none h]
    · rw [List.getElem?_eq_none h]; cases ks[i]? <;> rfl
theorem eachI_in {α β : Type} (f : α → β → Int) (ks : List α) (ls : List β) (step fuel i : Nat) (h : i < ks.length) (h' : i < ls.length) :
    eachI f ks ls step (fuel + 1) i = if f ks[i] ls[i] = 0 then eachI f ks ls step fuel (i + step) else f ks[i] ls[i] := by
  rw [eachI, List.getElem?_eq_getElem h, List.getElem?_eq_getElem h']

set_option maxHeartbeats 400000 in
theorem sign_any (a b : Int) (w : World) : Calls Tryz.prog 37 #[.int .i64 a, .int .i64 b] w fun e w' => e = .returned (.int .i64 (sgn a b)) ∧ w' = w := by
  by_cases h1 : a < b
  · go_enter Tryz.func37, Tryz.ntmps37
    go_wp2
    go_ret
    exact ⟨ret_int (by simp [sgn, h1]), rfl⟩
  · by_cases h2 : b < a
    all_goals
      go_enter Tryz.func37, Tryz.ntmps37
      go_wp2
      go_ret
      exact ⟨ret_int (by unfold sgn; split <;> first | omega | (split <;> omega)), rfl⟩

set_option maxHeartbeats 400000 in
theorem order_any (a b : ByteArray) (w : World) : Calls Tryz.prog 38 #[.string a, .string b] w fun e w' => e = .returned (.int .i64 (ordS a b)) ∧ w' = w := by
  by_cases h1 : Op.bytesLess a.toList b.toList = true
  · go_enter Tryz.func38, Tryz.ntmps38
    go_wp2
    go_ret
    exact ⟨ret_int (by simp [ordS, h1]), rfl⟩
  · have h1' : Op.bytesLess a.toList b.toList = false := by simpa using h1
    by_cases h2 : (a.toList == b.toList) = true
    · go_enter Tryz.func38, Tryz.ntmps38
      go_wp2
      go_ret
      exact ⟨ret_int (by unfold ordS; rw [h1', h2]; rfl), rfl⟩
    · have h2' : (a.toList == b.toList) = false := by simpa using h2
      go_enter Tryz.func38, Tryz.ntmps38
      go_wp2
      go_ret
      exact ⟨ret_int (by unfold ordS; rw [h1', h2']; rfl), rfl⟩

theorem toList_ne {s s' : ByteArray} (h : s ≠ s') : (s.toList == s'.toList) = false := by
  rw [beq_eq_false_iff_ne]
  intro hh
  rw [ByteArray.toList_eq, ByteArray.toList_eq] at hh
  cases s; cases s'
  exact h (congrArg ByteArray.mk (Array.toList_inj.1 hh))

theorem two_cells {w w' : World} {x0 x1 x2 x3 y0 y1 y2 y3 : Value} {e : TypeId}
    (hb : Below ((w.alloc (.cells #[x0, x1, x2, x3] e)).alloc (.cells #[y0, y1, y2, y3] e)).heap.size ((w.alloc (.cells #[x0, x1, x2, x3] e)).alloc (.cells #[y0, y1, y2, y3] e)) w') :
    w'.cell? ⟨w.heap.size, 3, none⟩ = some x3 ∧ w'.cell? ⟨w.heap.size + 1, 3, none⟩ = some y3 := by
  have h1 : w'.heap[w.heap.size]? = some (.cells #[x0, x1, x2, x3] e) := by
    rw [hb.block _ (by simp; omega), Below.heap_alloc _ _ _ (by simp), heap_new]
  have h2 : w'.heap[w.heap.size + 1]? = some (.cells #[y0, y1, y2, y3] e) := by
    rw [hb.block _ (by simp)]
    have := heap_new (w.alloc (.cells #[x0, x1, x2, x3] e)) (.cells #[y0, y1, y2, y3] e)
    rwa [World.size_alloc] at this
  exact ⟨cell_of_heap h1 3, cell_of_heap h2 3⟩

def CmpSaid (n m : Nat) : Prop := ∀ (t : Tm n) (u : Tm m) (c0 c1 c2 c3 d0 d1 d2 d3 : Value) (w : World), TAt (Under w.heap.size) w n t c0 c1 c2 c3 → TAt (Under w.heap.size) w m u d0 d1 d2 d3 →
  Calls Tryz.prog 27 #[.agg #[c0, c1, c2, c3], .agg #[d0, d1, d2, d3]] w fun e w' => e = .returned (.int .i64 (cmpT n m t u)) ∧ Below w.heap.size w w'

def EachSaid (n m : Nat) : Prop := ∀ (ks : List (Tm n)) (ls : List (Tm m)) (u v : Value) (i step : Nat) (w : World), SAt (Under w.heap.size) w (TAt (Under w.heap.size) w n) ks u → SAt (Under w.heap.size) w (TAt (Under w.heap.size) w m) ls v →
  i ≤ 1 → 1 ≤ step → step ≤ 2 →
  Calls Tryz.prog 39 #[u, v, .int .i64 i, .int .i64 step] w fun e w' => e = .returned (.int .i64 (eachI (cmpT n m) ks ls step ks.length i)) ∧ Below w.heap.size w w'

set_option maxHeartbeats 2000000 in
theorem each_of {n m : Nat} (h : CmpSaid n m) : EachSaid n m := by
  intro ks ls u v i0 step w hu hv hi hs1 hs2
  obtain ⟨a, cap, rfl, hlen, hcap, hel⟩ := hu
  obtain ⟨a', cap', rfl, hlen', hcap', hel'⟩ := hv
  go_enter Tryz.func39, Tryz.ntmps39
  go_wp2_with fail
  go_loopw [9] (fun iv wr => ∃ k fuel : Nat, iv = .int .i64 k ∧ k ≤ ks.length + 2 ∧ ks.length ≤ k + fuel ∧ eachI (cmpT n m) ks ls step ks.length i0 = eachI (cmpT n m) ks ls step fuel k ∧ Below w.heap.size w wr) (fun iv _ => ks.length + 3 - (intOf iv).toNat)
  case atStart => exact ⟨i0, ks.length, rfl, by omega, by omega, rfl, Below.refl _ _⟩
  case round =>
    obtain ⟨k, fuel, rfl, hk1, hk2, heq, hb⟩ := hrel
    by_cases hlt : k < ks.length
    · by_cases hlt' : k < ls.length
      · obtain ⟨fuel, rfl⟩ : ∃ f, fuel = f + 1 := ⟨fuel - 1, by omega⟩
        rw [eachI_in _ _ _ _ _ _ hlt hlt'] at heq
        obtain ⟨b, off, d0, d1, d2, d3, rfl, hS, e0, e1, e2, e3, hr⟩ := hel k hlt
        obtain ⟨b', off', d0', d1', d2', d3', rfl, hS', e0', e1', e2', e3', hr'⟩ := hel' k hlt'
        have F0 : ∀ x : LaterW w.heap.size wr, x.wd.cell? ⟨b, off + k * 4, none⟩ = some d0 := fun x => ((bcell (hb.trans x.be)) b _ hS).trans e0
        have F1 : ∀ x : LaterW w.heap.size wr, x.wd.cell? ⟨b, off + k * 4 + 1, none⟩ = some d1 := fun x => ((bcell (hb.trans x.be)) b _ hS).trans e1
        have F2 : ∀ x : LaterW w.heap.size wr, x.wd.cell? ⟨b, off + k * 4 + 2, none⟩ = some d2 := fun x => ((bcell (hb.trans x.be)) b _ hS).trans e2
        have F3 : ∀ x : LaterW w.heap.size wr, x.wd.cell? ⟨b, off + k * 4 + 3, none⟩ = some d3 := fun x => ((bcell (hb.trans x.be)) b _ hS).trans e3
        have G0 : ∀ x : LaterW w.heap.size wr, x.wd.cell? ⟨b', off' + k * 4, none⟩ = some d0' := fun x => ((bcell (hb.trans x.be)) b' _ hS').trans e0'
        have G1 : ∀ x : LaterW w.heap.size wr, x.wd.cell? ⟨b', off' + k * 4 + 1, none⟩ = some d1' := fun x => ((bcell (hb.trans x.be)) b' _ hS').trans e1'
        have G2 : ∀ x : LaterW w.heap.size wr, x.wd.cell? ⟨b', off' + k * 4 + 2, none⟩ = some d2' := fun x => ((bcell (hb.trans x.be)) b' _ hS').trans e2'
        have G3 : ∀ x : LaterW w.heap.size wr, x.wd.cell? ⟨b', off' + k * 4 + 3, none⟩ = some d3' := fun x => ((bcell (hb.trans x.be)) b' _ hS').trans e3'
        have HE := hide heq
        clear heq e0 e1 e2 e3 e0' e1' e2' e3' hel hel'
        go_wp2_with fail
        haveI hne : Nonempty (LaterW w.heap.size wr) := ⟨⟨wr, Below.refl _ _⟩⟩
        refine wp_region_later w.heap.size (by kernel_rfl) (by kernel_rfl) ?_
        repeat (go_big_quiet_step ((go_at_call 27; rename_i x; refine Calls.later (v := .int .i64 (cmpT n m ks[k] ls[k])) hb.size (h _ _ _ _ _ _ _ _ _ _ _ (hr.up (hb.trans x.be)) (hr'.up (hb.trans x.be))))))
        refine wpQuiet_nil ?_
        rintro _ ⟨⟨wq, hq⟩, rfl⟩
        clear F0 F1 F2 F3 G0 G1 G2 G3 hne
        by_cases hz : cmpT n m ks[k] ls[k] = 0
        · rw [hz]
          have HE2 := unhide HE
          rw [if_pos hz] at HE2
          have HE3 := hide HE2
          clear HE HE2 hz
          go_wp2_with fail
          go_roundw
          case rel => exact ⟨k + step, fuel, by go_num, by omega, by omega, unhide HE3, hb.trans hq⟩
          case measure => simp [intOf]; omega
        · have HE2 := unhide HE
          rw [if_neg hz] at HE2
          have HE3 := hide HE2
          have hz2 : (cmpT n m ks[k] ls[k] != 0) = true := by simpa using hz
          clear HE HE2 hz
          go_wp2_with fail
          go_ret
          exact ⟨ret_int (unhide HE3).symm, hb.trans hq⟩
      · rw [eachI_out (cmpT n m) ks ls step fuel k (.inr (by omega))] at heq
        have HE := hide heq
        clear heq hel hel'
        go_wp2_with fail
        go_ret
        exact ⟨ret_int (unhide HE).symm, hb⟩
    · rw [eachI_out (cmpT n m) ks ls step fuel k (.inl (by omega))] at heq
      have HE := hide heq
      clear heq hel hel'
      go_wp2_with fail
      go_ret
      exact ⟨ret_int (unhide HE).symm, hb⟩

theorem cmp_kind {n m : Nat} {k k' i i' : Int} {s s' : ByteArray} {ks : List (Tm n)} {ls : List (Tm m)} (h : k ≠ k') : cmpT (n + 1) (m + 1) (k, i, s, ks) (k', i', s', ls) = sgn k k' := by
  simp only [cmpT, ne_eq, h, not_false_eq_true, if_true]
theorem cmp_num {n m : Nat} {k i i' : Int} {s s' : ByteArray} {ks : List (Tm n)} {ls : List (Tm m)} (h : i ≠ i') : cmpT (n + 1) (m + 1) (k, i, s, ks) (k, i', s', ls) = sgn i i' := by
  simp only [cmpT, ne_eq, h, not_true_eq_false, not_false_eq_true, if_true, if_false]
theorem cmp_text {n m : Nat} {k i : Int} {s s' : ByteArray} {ks : List (Tm n)} {ls : List (Tm m)} (h : s ≠ s') : cmpT (n + 1) (m + 1) (k, i, s, ks) (k, i, s', ls) = ordS s s' := by
  simp only [cmpT, ne_eq, h, not_true_eq_false, not_false_eq_true, if_true, if_false]
theorem cmp_list {n m : Nat} {i : Int} {s : ByteArray} {ks : List (Tm n)} {ls : List (Tm m)} : cmpT (n + 1) (m + 1) (8, i, s, ks) (8, i, s, ls) =
    if eachI (cmpT n m) ks ls 1 ks.length 0 = 0 then sgn ks.length ls.length else eachI (cmpT n m) ks ls 1 ks.length 0 := by
  simp only [cmpT, ne_eq, not_true_eq_false, if_true, if_false]
theorem cmp_len {n m : Nat} {k i : Int} {s : ByteArray} {ks : List (Tm n)} {ls : List (Tm m)} (h8 : k ≠ 8) (h : ks.length ≠ ls.length) : cmpT (n + 1) (m + 1) (k, i, s, ks) (k, i, s, ls) = sgn ks.length ls.length := by
  simp only [cmpT, ne_eq, h, h8, not_true_eq_false, not_false_eq_true, if_true, if_false]
theorem cmp_map {n m : Nat} {i : Int} {s : ByteArray} {ks : List (Tm n)} {ls : List (Tm m)} (h : ks.length = ls.length) : cmpT (n + 1) (m + 1) (7, i, s, ks) (7, i, s, ls) =
    if eachI (cmpT n m) ks ls 2 ks.length 0 = 0 then eachI (cmpT n m) ks ls 2 ks.length 1 else eachI (cmpT n m) ks ls 2 ks.length 0 := by
  simp only [cmpT, ne_eq, h, not_true_eq_false, if_true, if_false, show ¬ (7 : Int) = 8 from by decide]
theorem cmp_rest {n m : Nat} {k i : Int} {s : ByteArray} {ks : List (Tm n)} {ls : List (Tm m)} (h8 : k ≠ 8) (h7 : k ≠ 7) (h : ks.length = ls.length) : cmpT (n + 1) (m + 1) (k, i, s, ks) (k, i, s, ls) = eachI (cmpT n m) ks ls 1 ks.length 0 := by
  simp only [cmpT, ne_eq, h, h8, h7, not_true_eq_false, if_false]

set_option maxHeartbeats 2000000 in
theorem cmp_of {n m : Nat} (h : EachSaid n m) : CmpSaid (n + 1) (m + 1) := by
  rintro ⟨k, i, s, ks⟩ ⟨k', i', s', ls⟩ c0 c1 c2 c3 d0 d1 d2 d3 w ⟨rfl, rfl, rfl, hk, hm, hs, hks⟩ ⟨rfl, rfl, rfl, hk', hm', hs', hls⟩
  have hb2 := below_two w
  have hU := fun x y => hks.up (hb2 x y)
  have hV := fun x y => hls.up (hb2 x y)
  obtain ⟨ua, uc, rfl, -, -, -⟩ := hks
  obtain ⟨va, vc, rfl, -, -, -⟩ := hls
  by_cases h1 : k = k'
  case neg =>
    have h1' : (k != k') = true := by simpa using h1
    have hc := hide (cmp_kind (n := n) (m := m) (i := i) (i' := i') (s := s) (s' := s') (ks := ks) (ls := ls) h1)
    clear h1 hU hV
    go_enter Tryz.func27, Tryz.ntmps27
    go_wp2_with (go_at_call 37; refine (sign_any _ _ _).mono ?_; rintro e w' ⟨rfl, rfl⟩)
    go_ret
    exact ⟨ret_int (unhide hc).symm, hb2 _ _⟩
  subst h1
  by_cases h2 : i = i'
  case neg =>
    have h2' : (i != i') = true := by simpa using h2
    have hc := hide (cmp_num (n := n) (m := m) (k := k) (s := s) (s' := s') (ks := ks) (ls := ls) h2)
    clear h2 hU hV
    go_enter Tryz.func27, Tryz.ntmps27
    go_wp2_with (go_at_call 37; refine (sign_any _ _ _).mono ?_; rintro e w' ⟨rfl, rfl⟩)
    go_ret
    exact ⟨ret_int (unhide hc).symm, hb2 _ _⟩
  subst h2
  by_cases h3 : s = s'
  case neg =>
    have h3' : (s.toList == s'.toList) = false := toList_ne h3
    have hc := hide (cmp_text (n := n) (m := m) (k := k) (i := i) (ks := ks) (ls := ls) h3)
    clear h3 hU hV
    go_enter Tryz.func27, Tryz.ntmps27
    go_wp2_with (go_at_call 38; refine (order_any _ _ _).mono ?_; rintro e w' ⟨rfl, rfl⟩)
    go_ret
    exact ⟨ret_int (unhide hc).symm, hb2 _ _⟩
  subst h3
  have hE : ∀ (i step : Nat) (x y : Obj), i ≤ 1 → 1 ≤ step → step ≤ 2 → Calls Tryz.prog 39 #[.slice ua ks.length uc, .slice va ls.length vc, .int .i64 i, .int .i64 step] ((w.alloc x).alloc y)
      fun e w' => e = .returned (.int .i64 (eachI (cmpT n m) ks ls step ks.length i)) ∧ Below ((w.alloc x).alloc y).heap.size ((w.alloc x).alloc y) w' := fun i step x y h1 h2 h3 =>
    h ks ls _ _ i step _ (hU x y) (hV x y) h1 h2 h3
  have hEl : ∀ (i step : Nat) (x y : Obj) (w1 : World), Below ((w.alloc x).alloc y).heap.size ((w.alloc x).alloc y) w1 → i ≤ 1 → 1 ≤ step → step ≤ 2 → Calls Tryz.prog 39 #[.slice ua ks.length uc, .slice va ls.length vc, .int .i64 i, .int .i64 step] w1
      fun e w' => e = .returned (.int .i64 (eachI (cmpT n m) ks ls step ks.length i)) ∧ Below w.heap.size w w' := fun i step x y w1 hb h1 h2 h3 =>
    (h ks ls _ _ i step w1 ((hU x y).up hb) ((hV x y).up hb) h1 h2 h3).mono fun e w' he => ⟨he.1, ((hb2 x y).trans (hb.mono (by simp; omega))).trans (he.2.mono (by have := hb.size; simp at this; omega))⟩
  clear hU hV
  by_cases h8 : k = 8
  case pos =>
    subst h8
    have h01 := hide (fun x y => hE 0 1 x y (by omega) (by omega) (by omega))
    have hc := cmp_list (n := n) (m := m) (i := i) (s := s) (ks := ks) (ls := ls)
    clear hE hEl
    by_cases hz : eachI (cmpT n m) ks ls 1 ks.length 0 = 0
    · rw [if_pos hz] at hc
      have HC := hide hc
      rw [hz] at h01
      clear hc hz
      go_enter Tryz.func27, Tryz.ntmps27
      go_wp2_with fail
      refine ((unhide h01) _ _).mono ?_
      rintro e w' ⟨rfl, hb⟩
      obtain ⟨r1, r2⟩ := two_cells hb
      go_wp2_with (go_at_call 37; refine (sign_any _ _ _).mono ?_; rintro e w' ⟨rfl, rfl⟩)
      go_ret
      exact ⟨ret_int (unhide HC).symm, (hb2 _ _).trans (hb.mono (by simp; omega))⟩
    · rw [if_neg hz] at hc
      have HC := hide hc
      have hz' : (eachI (cmpT n m) ks ls 1 ks.length 0 != 0) = true := by simpa using hz
      clear hc hz
      go_enter Tryz.func27, Tryz.ntmps27
      go_wp2_with (first | (go_at_call 39; refine ((unhide h01) _ _).mono ?_; rintro e w' ⟨rfl, hb⟩))
      go_ret
      exact ⟨ret_int (unhide HC).symm, (hb2 _ _).trans (hb.mono (by simp; omega))⟩
  have h8' : (k == 8) = false := by simpa using h8
  by_cases hl : ks.length = ls.length
  case neg =>
    have hc := hide (cmp_len (n := n) (m := m) (i := i) (s := s) h8 hl)
    have hl' : ((ks.length : Int) != (ls.length : Int)) = true := by simpa using (by omega : ¬ (ks.length : Int) = ls.length)
    clear hE hEl hl h8
    go_enter Tryz.func27, Tryz.ntmps27
    go_wp2_with (go_at_call 37; refine (sign_any _ _ _).mono ?_; rintro e w' ⟨rfl, rfl⟩)
    go_ret
    exact ⟨ret_int (unhide hc).symm, hb2 _ _⟩
  have hl' : ((ks.length : Int) != (ls.length : Int)) = false := by simp [hl]
  by_cases h7 : k = 7
  case pos =>
    subst h7
    have h02 := hide (fun x y => hE 0 2 x y (by omega) (by omega) (by omega))
    have h12 := hide (fun x y w1 hb => hEl 1 2 x y w1 hb (by omega) (by omega) (by omega))
    have hc := cmp_map (n := n) (m := m) (i := i) (s := s) hl
    have Hl := hide hl
    clear hE hEl hl
    by_cases hz : eachI (cmpT n m) ks ls 2 ks.length 0 = 0
    · rw [if_pos hz] at hc
      have HC := hide hc
      rw [hz] at h02
      clear hc hz
      go_enter Tryz.func27, Tryz.ntmps27
      go_wp2_with fail
      refine ((unhide h02) _ _).mono ?_
      rintro e w' ⟨rfl, hb⟩
      obtain ⟨r1, r2⟩ := two_cells hb
      go_wp2_with (go_at_call 39; refine ((unhide h12) _ _ _ hb).mono ?_; rintro e w' ⟨rfl, hb⟩)
      go_ret
      exact ⟨ret_int (unhide HC).symm, hb⟩
    · rw [if_neg hz] at hc
      have HC := hide hc
      have hz' : (eachI (cmpT n m) ks ls 2 ks.length 0 != 0) = true := by simpa using hz
      clear hc hz
      go_enter Tryz.func27, Tryz.ntmps27
      go_wp2_with (go_at_call 39; refine ((unhide h02) _ _).mono ?_; rintro e w' ⟨rfl, hb⟩)
      go_ret
      exact ⟨ret_int (unhide HC).symm, (hb2 _ _).trans (hb.mono (by simp; omega))⟩
  have h7' : (k == 7) = false := by simpa using h7
  have h01 := hide (fun x y => hE 0 1 x y (by omega) (by omega) (by omega))
  have hc := hide (cmp_rest (n := n) (m := m) (i := i) (s := s) h8 h7 hl)
  clear hE hEl hl h8 h7
  go_enter Tryz.func27, Tryz.ntmps27
  go_wp2_with (go_at_call 39; refine ((unhide h01) _ _).mono ?_; rintro e w' ⟨rfl, hb⟩)
  go_ret
  exact ⟨ret_int (unhide hc).symm, (hb2 _ _).trans (hb.mono (by simp; omega))⟩

theorem cmp_any : ∀ n m, CmpSaid n m
  | 0, _ => fun t => t.elim
  | _ + 1, 0 => fun _ u => u.elim
  | n + 1, m + 1 => cmp_of (each_of (cmp_any n m))

end Go.Proofs.YtffgdchemjmbmaaGreat
/- Whether a term is right: l01Right, spec.TermOK, spec.TermSize, spec.TermCompare. -/
namespace Go.Proofs.YtffgdchemjmbmaaGreat
open Go.RowKit

/-- A term's own fields are as its kind asks. -/
def fitB (k m : Int) (s : ByteArray) (l : Nat) : Bool :=
  if k = 1 then decide (-1000000000000000 ≤ m) && decide (m ≤ 1000000000000000) && decide (s.size = 0) && decide (l = 0)
  else if k = 2 then decide (m = 0) && nameB s && decide (l = 0)
  else if k = 3 then decide (0 ≤ m) && decide (m ≤ 1000000000000000) && decide (s.size = 0) && decide (l = 0)
  else if k = 5 then decide (0 ≤ m) && decide (m ≤ 1000000000000000) && decide (s.size = 0) && decide (l = 0)
  else if k = 4 then decide (0 ≤ m) && decide (m ≤ 1000000000000000) && decide (s.size = 0)
  else if k = 6 then decide (m = 0) && decide (s.size = 0)
  else if k = 8 then decide (m = 0) && decide (s.size = 0)
  else if k = 7 then decide (m = 0) && decide (s.size = 0) && decide (l % 2 = 0)
  else if k = 9 then decide (m = 0) && decide (s.size ≤ 4000) && decide (l = 0)
  else false

/-- The keys of a row of keys and values rise. -/
def risesB {α : Type} (f : α → α → Int) (ks : List α) : Bool :=
  (List.range ks.length).all fun i => match ks[2 * i]?, ks[2 * i + 2]? with
    | some x, some y => decide (f x y < 0)
    | _, _ => true
theorem risesB_true {α : Type} {f : α → α → Int} {ks : List α} : risesB f ks = true ↔ ∀ i (h : 2 * i + 2 < ks.length), f ks[2 * i] ks[2 * i + 2] < 0 := by
  unfold risesB
  rw [List.all_eq_true]
  constructor
  · intro h i hi
    have := h i (List.mem_range.2 (by omega))
    rw [List.getElem?_eq_getElem (by omega), List.getElem?_eq_getElem hi] at this
    simpa using this
  · intro h i _
    by_cases hi : 2 * i + 2 < ks.length
    · rw [List.getElem?_eq_getElem (by omega), List.getElem?_eq_getElem hi]
      simpa using h i hi
    · rw [List.getElem?_eq_none (i := 2 * i + 2) (by omega)]
      cases ks[2 * i]? <;> rfl

def rightB : (n : Nat) → Tm n → Bool
  | 0, t => t.elim
  | n + 1, (k, m, s, ks) => fitB k m s ks.length && ks.all (rightB n) && (if k = 7 then risesB (cmpT n n) ks else true)

def RightSaid (n : Nat) : Prop := ∀ (t : Tm n) (c0 c1 c2 c3 : Value) (w : World), TAt (Under w.heap.size) w n t c0 c1 c2 c3 →
  Calls Tryz.prog 26 #[.agg #[c0, c1, c2, c3]] w fun e w' => e = .returned (.bool (rightB n t)) ∧ Below w.heap.size w w'

def p1B (k : Int) (s : ByteArray) : Bool := decide (k ≠ 2) && decide (k ≠ 9) && decide (0 < s.size)
def p2B (k i : Int) : Bool := decide (k ≠ 1) && decide (k ≠ 3) && decide (k ≠ 5) && decide (k ≠ 4) && decide (i ≠ 0)
theorem p1B_false {k : Int} {s : ByteArray} (h : p1B k s = false) : k = 2 ∨ k = 9 ∨ s.size = 0 := by
  by_cases h2 : k = 2
  · exact .inl h2
  · by_cases h9 : k = 9
    · exact .inr (.inl h9)
    · refine .inr (.inr ?_)
      have hz : ¬ 0 < s.size := by
        intro hp
        rw [p1B, decide_eq_true h2, decide_eq_true h9, decide_eq_true hp] at h
        cases h
      omega
theorem p2B_false {k i : Int} (h : p2B k i = false) : k = 1 ∨ k = 3 ∨ k = 5 ∨ k = 4 ∨ i = 0 := by
  by_cases h1 : k = 1
  · exact .inl h1
  · by_cases h3 : k = 3
    · exact .inr (.inl h3)
    · by_cases h5 : k = 5
      · exact .inr (.inr (.inl h5))
      · by_cases h4 : k = 4
        · exact .inr (.inr (.inr (.inl h4)))
        · refine .inr (.inr (.inr (.inr ?_)))
          simp [p2B, h1, h3, h5, h4] at h; exact h
theorem fit_p1 {k i : Int} {s : ByteArray} {l : Nat} (h : p1B k s = true) : fitB k i s l = false := by
  simp only [p1B, Bool.and_eq_true, decide_eq_true_eq] at h
  unfold fitB
  have h0 : decide (s.size = 0) = false := decide_eq_false (by omega)
  simp only [h0, h.1.1, h.1.2, Bool.and_false, Bool.false_and, if_false, ite_self]
theorem fit_p2 {k i : Int} {s : ByteArray} {l : Nat} (h : p2B k i = true) : fitB k i s l = false := by
  simp only [p2B, Bool.and_eq_true, decide_eq_true_eq] at h
  unfold fitB
  have h0 : decide (i = 0) = false := by simp; omega
  simp only [h0, h.1.1.1.1, h.1.1.1.2, h.1.1.2, h.1.2, Bool.false_and, if_false, ite_self]

theorem fit_1 {i : Int} {s : ByteArray} {l : Nat} : fitB 1 i s l = (decide (-1000000000000000 ≤ i) && decide (i ≤ 1000000000000000) && decide (s.size = 0) && decide (l = 0)) := if_pos rfl
theorem fit_2 {i : Int} {s : ByteArray} {l : Nat} : fitB 2 i s l = (decide (i = 0) && nameB s && decide (l = 0)) := by unfold fitB; rw [if_neg (by decide), if_pos rfl]
theorem fit_3 {i : Int} {s : ByteArray} {l : Nat} : fitB 3 i s l = (decide (0 ≤ i) && decide (i ≤ 1000000000000000) && decide (s.size = 0) && decide (l = 0)) := by unfold fitB; rw [if_neg (by decide), if_neg (by decide), if_pos rfl]
theorem fit_5 {i : Int} {s : ByteArray} {l : Nat} : fitB 5 i s l = (decide (0 ≤ i) && decide (i ≤ 1000000000000000) && decide (s.size = 0) && decide (l = 0)) := by unfold fitB; rw [if_neg (by decide), if_neg (by decide), if_neg (by decide), if_pos rfl]
theorem fit_4 {i : Int} {s : ByteArray} {l : Nat} : fitB 4 i s l = (decide (0 ≤ i) && decide (i ≤ 1000000000000000) && decide (s.size = 0)) := by unfold fitB; rw [if_neg (by decide), if_neg (by decide), if_neg (by decide), if_neg (by decide), if_pos rfl]
theorem fit_6 {i : Int} {s : ByteArray} {l : Nat} : fitB 6 i s l = (decide (i = 0) && decide (s.size = 0)) := by unfold fitB; rw [if_neg (by decide), if_neg (by decide), if_neg (by decide), if_neg (by decide), if_neg (by decide), if_pos rfl]
theorem fit_8 {i : Int} {s : ByteArray} {l : Nat} : fitB 8 i s l = (decide (i = 0) && decide (s.size = 0)) := by unfold fitB; rw [if_neg (by decide), if_neg (by decide), if_neg (by decide), if_neg (by decide), if_neg (by decide), if_neg (by decide), if_pos rfl]
theorem fit_7 {i : Int} {s : ByteArray} {l : Nat} : fitB 7 i s l = (decide (i = 0) && decide (s.size = 0) && decide (l % 2 = 0)) := by unfold fitB; rw [if_neg (by decide), if_neg (by decide), if_neg (by decide), if_neg (by decide), if_neg (by decide), if_neg (by decide), if_neg (by decide), if_pos rfl]
theorem fit_9 {i : Int} {s : ByteArray} {l : Nat} : fitB 9 i s l = (decide (i = 0) && decide (s.size ≤ 4000) && decide (l = 0)) := by
  unfold fitB; rw [if_neg (by decide), if_neg (by decide), if_neg (by decide), if_neg (by decide), if_neg (by decide), if_neg (by decide), if_neg (by decide), if_neg (by decide), if_pos rfl]
theorem fit_else {k i : Int} {s : ByteArray} {l : Nat} (h1 : k ≠ 1) (h2 : k ≠ 2) (h3 : k ≠ 3) (h4 : k ≠ 4) (h5 : k ≠ 5) (h6 : k ≠ 6) (h7 : k ≠ 7) (h8 : k ≠ 8) (h9 : k ≠ 9) : fitB k i s l = false := by
  unfold fitB; rw [if_neg h1, if_neg h2, if_neg h3, if_neg h5, if_neg h4, if_neg h6, if_neg h8, if_neg h7, if_neg h9]

set_option maxRecDepth 100000 in
set_option maxHeartbeats 4000000 in
theorem right_of {n : Nat} (h : RightSaid n) : RightSaid (n + 1) := by
  rintro ⟨k, i, s, ks⟩ c0 c1 c2 c3 w ⟨rfl, rfl, rfl, hk, hm, hs, hks⟩
  have hbx := fun x : Obj => (Below.refl w.heap.size w).alloc (Nat.le_refl _) x
  have hU := hide hks
  have hgoal : Hid (rightB (n + 1) (k, i, s, ks) = (fitB k i s ks.length && ks.all (rightB n) && (if k = 7 then risesB (cmpT n n) ks else true))) := rfl
  generalize rightB (n + 1) (k, i, s, ks) = R at *
  obtain ⟨ua, uc, rfl, hlen, hcap, hel⟩ := hks
  go_enter Tryz.func26, Tryz.ntmps26
  go_upto_region 1 with fail
  go_cut [19] (fun t wc => t = .bool (p1B k s) ∧ wc = w.alloc (.cells #[.int .i64 k, .int .i64 i, .string s, .slice ua ks.length uc] 28))
  case first =>
    clear hel hU
    by_cases h2 : k = 2
    · subst h2
      go_wp2_with fail
      go_meet
      case rel => exact ⟨by simp [p1B], rfl⟩
    · have h2' : (k != 2) = true := by simpa using h2
      by_cases h9 : k = 9
      · subst h9
        go_wp2_with fail
        go_meet
        case rel => exact ⟨by simp [p1B], rfl⟩
      · have h9' : (k != 9) = true := by simpa using h9
        have H2 := hide h2
        have H9 := hide h9
        clear h2 h9
        go_wp2_with fail
        go_meet
        case rel => exact ⟨by simp [p1B, unhide H2, unhide H9], rfl⟩
  case rest =>
    obtain ⟨rfl, rfl⟩ := hcut
    by_cases hp1 : p1B k s = true
    · have hf := hide (fit_p1 (i := i) (l := ks.length) hp1)
      rw [hp1]
      clear hp1
      go_wp2_with fail
      go_ret
      exact ⟨ret_bool (by rw [unhide hgoal, unhide hf]; rfl), hbx _⟩
    · have hp1 : p1B k s = false := by simpa using hp1
      rw [hp1]
      have hq1 := hide (p1B_false hp1)
      clear hp1
      go_upto_region 3 with fail
      go_cut [42] (fun t wc => t = .bool (p2B k i) ∧ wc = w.alloc (.cells #[.int .i64 k, .int .i64 i, .string s, .slice ua ks.length uc] 28))
      case first =>
        clear hel hU
        by_cases h1 : k = 1
        · subst h1
          go_wp2_with fail
          go_meet
          case rel => exact ⟨by simp [p2B], rfl⟩
        · have h1' : (k != 1) = true := by simpa using h1
          by_cases h3 : k = 3
          · subst h3
            go_wp2_with fail
            go_meet
            case rel => exact ⟨by simp [p2B], rfl⟩
          · have h3' : (k != 3) = true := by simpa using h3
            by_cases h5 : k = 5
            · subst h5
              go_wp2_with fail
              go_meet
              case rel => exact ⟨by simp [p2B], rfl⟩
            · have h5' : (k != 5) = true := by simpa using h5
              by_cases h4 : k = 4
              · subst h4
                go_wp2_with fail
                go_meet
                case rel => exact ⟨by simp [p2B], rfl⟩
              · have h4' : (k != 4) = true := by simpa using h4
                have HH := hide (And.intro h1 (And.intro h3 (And.intro h5 h4)))
                clear h1 h3 h5 h4
                go_wp2_with fail
                go_meet
                case rel => exact ⟨by obtain ⟨g1, g3, g5, g4⟩ := unhide HH; simp [p2B, g1, g3, g5, g4]; rfl, rfl⟩
      case rest =>
        obtain ⟨rfl, rfl⟩ := hcut
        by_cases hp2 : p2B k i = true
        · have hf := hide (fit_p2 (s := s) (l := ks.length) hp2)
          rw [hp2]
          clear hp2
          go_wp2_with fail
          go_ret
          exact ⟨ret_bool (by rw [unhide hgoal, unhide hf]; rfl), hbx _⟩
        · have hp2 : p2B k i = false := by simpa using hp2
          rw [hp2]
          have hq2 := hide (p2B_false hp2)
          clear hp2
          go_upto_region 6 with fail
          iterate 10 go_step
          go_cut [3] (fun t wc => (∃ kb : Bool, t = .bool kb ∧ (fitB k i s ks.length = (kb || decide (ks.length = 0)))) ∧ wc = w.alloc (.cells #[.int .i64 k, .int .i64 i, .string s, .slice ua ks.length uc] 28))
          case first =>
            clear hel hU
            by_cases g1 : k = 1
            · subst g1
              have hs0 : s.size = 0 := by have := unhide hq1; omega
              by_cases hlo : (-1000000000000000 : Int) ≤ i
              · by_cases hhi : i ≤ 1000000000000000
                · have HF : Hid (fitB 1 i s ks.length = (false || decide (ks.length = 0))) := by
                    show fitB 1 i s ks.length = (false || decide (ks.length = 0))
                    rw [fit_1, decide_eq_true hlo, decide_eq_true hhi, decide_eq_true hs0]; rfl
                  clear hs0
                  go_wp2_with fail
                  go_meet
                  case rel => exact ⟨⟨false, rfl, unhide HF⟩, rfl⟩
                · have HF : Hid (fitB 1 i s ks.length = false) := by
                    show fitB 1 i s ks.length = false
                    rw [fit_1, decide_eq_false hhi]; simp
                  clear hs0
                  go_wp2_with fail
                  go_ret
                  exact ⟨ret_bool (by rw [unhide hgoal, unhide HF]; rfl), hbx _⟩
              · have HF : Hid (fitB 1 i s ks.length = false) := by
                  show fitB 1 i s ks.length = false
                  rw [fit_1, decide_eq_false hlo]; rfl
                clear hs0
                go_wp2_with fail
                go_ret
                exact ⟨ret_bool (by rw [unhide hgoal, unhide HF]; rfl), hbx _⟩
            have g1' : (k == 1) = false := by simpa using g1
            by_cases g2 : k = 2
            · subst g2
              have hi0 : i = 0 := by have := unhide hq2; omega
              subst hi0
              by_cases hnm : nameB s = true
              · have HF : Hid (fitB 2 0 s ks.length = (false || decide (ks.length = 0))) := by
                  show fitB 2 0 s ks.length = (false || decide (ks.length = 0))
                  rw [fit_2, hnm]; rfl
                go_wp2_with (go_at_call 36; refine (name_any _ _ hs).mono ?_; rintro e w' ⟨rfl, rfl⟩; rw [hnm])
                go_meet
                case rel => exact ⟨⟨false, rfl, unhide HF⟩, rfl⟩
              · have hnm : nameB s = false := by simpa using hnm
                have HF : Hid (fitB 2 0 s ks.length = false) := by
                  show fitB 2 0 s ks.length = false
                  rw [fit_2, hnm]; rfl
                go_wp2_with (go_at_call 36; refine (name_any _ _ hs).mono ?_; rintro e w' ⟨rfl, rfl⟩; rw [hnm])
                go_ret
                exact ⟨ret_bool (by rw [unhide hgoal, unhide HF]; rfl), hbx _⟩
            have g2' : (k == 2) = false := by simpa using g2
            by_cases g3 : k = 3
            · subst g3
              have hs0 : s.size = 0 := by have := unhide hq1; omega
              by_cases hlo : (0 : Int) ≤ i
              · by_cases hhi : i ≤ 1000000000000000
                · have HF : Hid (fitB 3 i s ks.length = (false || decide (ks.length = 0))) := by
                    show fitB 3 i s ks.length = (false || decide (ks.length = 0))
                    rw [fit_3, decide_eq_true hlo, decide_eq_true hhi, decide_eq_true hs0]; rfl
                  clear hs0
                  go_wp2_with fail
                  go_meet
                  case rel => exact ⟨⟨false, rfl, unhide HF⟩, rfl⟩
                · have HF : Hid (fitB 3 i s ks.length = false) := by
                    show fitB 3 i s ks.length = false
                    rw [fit_3, decide_eq_false hhi]; simp
                  clear hs0
                  go_wp2_with fail
                  go_ret
                  exact ⟨ret_bool (by rw [unhide hgoal, unhide HF]; rfl), hbx _⟩
              · have HF : Hid (fitB 3 i s ks.length = false) := by
                  show fitB 3 i s ks.length = false
                  rw [fit_3, decide_eq_false hlo]; rfl
                clear hs0
                go_wp2_with fail
                go_ret
                exact ⟨ret_bool (by rw [unhide hgoal, unhide HF]; rfl), hbx _⟩
            have g3' : (k == 3) = false := by simpa using g3
            by_cases g5 : k = 5
            · subst g5
              have hs0 : s.size = 0 := by have := unhide hq1; omega
              by_cases hlo : (0 : Int) ≤ i
              · by_cases hhi : i ≤ 1000000000000000
                · have HF : Hid (fitB 5 i s ks.length = (false || decide (ks.length = 0))) := by
                    show fitB 5 i s ks.length = (false || decide (ks.length = 0))
                    rw [fit_5, decide_eq_true hlo, decide_eq_true hhi, decide_eq_true hs0]; rfl
                  clear hs0
                  go_wp2_with fail
                  go_meet
                  case rel => exact ⟨⟨false, rfl, unhide HF⟩, rfl⟩
                · have HF : Hid (fitB 5 i s ks.length = false) := by
                    show fitB 5 i s ks.length = false
                    rw [fit_5, decide_eq_false hhi]; simp
                  clear hs0
                  go_wp2_with fail
                  go_ret
                  exact ⟨ret_bool (by rw [unhide hgoal, unhide HF]; rfl), hbx _⟩
              · have HF : Hid (fitB 5 i s ks.length = false) := by
                  show fitB 5 i s ks.length = false
                  rw [fit_5, decide_eq_false hlo]; rfl
                clear hs0
                go_wp2_with fail
                go_ret
                exact ⟨ret_bool (by rw [unhide hgoal, unhide HF]; rfl), hbx _⟩
            have g5' : (k == 5) = false := by simpa using g5
            by_cases g4 : k = 4
            · subst g4
              have hs0 : s.size = 0 := by have := unhide hq1; omega
              by_cases hlo : (0 : Int) ≤ i
              · by_cases hhi : i ≤ 1000000000000000
                · have HF : Hid (fitB 4 i s ks.length = (true || decide (ks.length = 0))) := by
                    show fitB 4 i s ks.length = (true || decide (ks.length = 0))
                    rw [fit_4, decide_eq_true hlo, decide_eq_true hhi, decide_eq_true hs0]; rfl
                  clear hs0
                  go_wp2_with fail
                  go_meet
                  case rel => exact ⟨⟨true, rfl, unhide HF⟩, rfl⟩
                · have HF : Hid (fitB 4 i s ks.length = false) := by
                    show fitB 4 i s ks.length = false
                    rw [fit_4, decide_eq_false hhi]; simp
                  clear hs0
                  go_wp2_with fail
                  go_ret
                  exact ⟨ret_bool (by rw [unhide hgoal, unhide HF]; rfl), hbx _⟩
              · have HF : Hid (fitB 4 i s ks.length = false) := by
                  show fitB 4 i s ks.length = false
                  rw [fit_4, decide_eq_false hlo]; rfl
                clear hs0
                go_wp2_with fail
                go_ret
                exact ⟨ret_bool (by rw [unhide hgoal, unhide HF]; rfl), hbx _⟩
            have g4' : (k == 4) = false := by simpa using g4
            by_cases g6 : k = 6
            · subst g6
              have hs0 : s.size = 0 := by have := unhide hq1; omega
              have hi0 : i = 0 := by have := unhide hq2; omega
              have HF : Hid (fitB 6 i s ks.length = (true || decide (ks.length = 0))) := by
                show fitB 6 i s ks.length = (true || decide (ks.length = 0))
                rw [fit_6, decide_eq_true hi0, decide_eq_true hs0]; rfl
              clear hs0 hi0
              go_wp2_with fail
              go_meet
              case rel => exact ⟨⟨true, rfl, unhide HF⟩, rfl⟩
            have g6' : (k == 6) = false := by simpa using g6
            by_cases g8 : k = 8
            · subst g8
              have hs0 : s.size = 0 := by have := unhide hq1; omega
              have hi0 : i = 0 := by have := unhide hq2; omega
              have HF : Hid (fitB 8 i s ks.length = (true || decide (ks.length = 0))) := by
                show fitB 8 i s ks.length = (true || decide (ks.length = 0))
                rw [fit_8, decide_eq_true hi0, decide_eq_true hs0]; rfl
              clear hs0 hi0
              go_wp2_with fail
              go_meet
              case rel => exact ⟨⟨true, rfl, unhide HF⟩, rfl⟩
            have g8' : (k == 8) = false := by simpa using g8
            by_cases g7 : k = 7
            · subst g7
              have hs0 : s.size = 0 := by have := unhide hq1; omega
              have hi0 : i = 0 := by have := unhide hq2; omega
              by_cases hev : ks.length % 2 = 0
              · have HF : Hid (fitB 7 i s ks.length = (true || decide (ks.length = 0))) := by
                  show fitB 7 i s ks.length = (true || decide (ks.length = 0))
                  rw [fit_7, decide_eq_true hi0, decide_eq_true hs0, decide_eq_true hev]; rfl
                have hev' : ((ks.length : Int) % 2 != 0) = false := by simp; omega
                clear hs0 hi0 hev
                go_wp2_with fail
                go_meet
                case rel => exact ⟨⟨true, rfl, unhide HF⟩, rfl⟩
              · have HF : Hid (fitB 7 i s ks.length = false) := by
                  show fitB 7 i s ks.length = false
                  rw [fit_7, decide_eq_false hev]; simp
                have hev' : ((ks.length : Int) % 2 != 0) = true := by simp; omega
                clear hs0 hi0 hev
                go_wp2_with fail
                go_ret
                exact ⟨ret_bool (by rw [unhide hgoal, unhide HF]; rfl), hbx _⟩
            have g7' : (k == 7) = false := by simpa using g7
            by_cases g9 : k = 9
            · subst g9
              have hi0 : i = 0 := by have := unhide hq2; omega
              by_cases hsz : s.size ≤ 4000
              · have HF : Hid (fitB 9 i s ks.length = (false || decide (ks.length = 0))) := by
                  show fitB 9 i s ks.length = (false || decide (ks.length = 0))
                  rw [fit_9, decide_eq_true hi0, decide_eq_true hsz]; rfl
                clear hi0
                go_wp2_with fail
                go_meet
                case rel => exact ⟨⟨false, rfl, unhide HF⟩, rfl⟩
              · have HF : Hid (fitB 9 i s ks.length = false) := by
                  show fitB 9 i s ks.length = false
                  rw [fit_9, decide_eq_false hsz]; simp
                clear hi0
                go_wp2_with fail
                go_ret
                exact ⟨ret_bool (by rw [unhide hgoal, unhide HF]; rfl), hbx _⟩
            have g9' : (k == 9) = false := by simpa using g9
            have HF : Hid (fitB k i s ks.length = false) := by
              show fitB k i s ks.length = false
              exact fit_else g1 g2 g3 g4 g5 g6 g7 g8 g9
            clear g1 g2 g3 g4 g5 g6 g7 g8 g9
            go_wp2_with fail
            go_ret
            exact ⟨ret_bool (by rw [unhide hgoal, unhide HF]; rfl), hbx _⟩
          case rest =>
            obtain ⟨⟨kb, rfl, hkb⟩, rfl⟩ := hcut
            have HKB := hide hkb
            clear hkb
            go_upto_region 30 with fail
            go_cut [99] (fun t wc => t = .bool (!fitB k i s ks.length) ∧ wc = w.alloc (.cells #[.int .i64 k, .int .i64 i, .string s, .slice ua ks.length uc] 28))
            case first =>
              cases kb with
              | true =>
                go_wp2_with fail
                go_meet
                case rel => exact ⟨by rw [unhide HKB]; rfl, rfl⟩
              | false =>
                go_wp2_with fail
                go_meet
                case rel => exact ⟨by rw [unhide HKB, Bool.false_or, ← decide_not]; exact congrArg Value.bool (decide_eq_decide.2 (by omega)), rfl⟩
            case rest =>
              obtain ⟨rfl, rfl⟩ := hcut
              by_cases hf : fitB k i s ks.length = true
              · rw [hf]
                have HF := hide hf
                clear hf
                go_wp2_with fail
                go_loopw [4] (fun iv wr => ∃ j : Nat, j ≤ ks.length ∧ iv = .int .i64 j ∧ (∀ x (hx : x < ks.length), x < j → rightB n ks[x] = true) ∧
                  Below (w.heap.size + 1) (w.alloc (.cells #[.int .i64 k, .int .i64 i, .string s, .slice ua ks.length uc] 28)) wr) (fun iv _ => ks.length - (intOf iv).toNat)
                case atStart => exact ⟨0, Nat.zero_le _, rfl, fun x _ hx => absurd hx (by omega), Below.refl _ _⟩
                case round =>
                  obtain ⟨j, hj, rfl, hall, hb⟩ := hrel
                  have hb0 : wr.cell? ⟨w.heap.size, 0, none⟩ = some (.int .i64 k) := by
                    rw [hb.cell (p := ⟨w.heap.size, 0, none⟩) (by simp)]; exact cell_of_heap (heap_new w _) 0
                  have hb3 : wr.cell? ⟨w.heap.size, 3, none⟩ = some (.slice ua ks.length uc) := by
                    rw [hb.cell (p := ⟨w.heap.size, 3, none⟩) (by simp)]; exact cell_of_heap (heap_new w _) 3
                  have hbw : Below w.heap.size w wr := (hbx _).trans (hb.mono (by omega))
                  have HALL := hide hall
                  clear hall
                  by_cases hlt : j < ks.length
                  · obtain ⟨b, off, d0, d1, d2, d3, rfl, hS, e0, e1, e2, e3, ht⟩ := hel j hlt
                    have hbc := bcell hbw
                    have f0 := (hbc b _ hS).trans e0
                    have f1 := (hbc b _ hS).trans e1
                    have f2 := (hbc b _ hS).trans e2
                    have f3 := (hbc b _ hS).trans e3
                    clear hbc e0 e1 e2 e3
                    have hc := hide (h ks[j] d0 d1 d2 d3 wr (ht.up hbw))
                    have hszb := hb.size
                    by_cases hr : rightB n ks[j] = true
                    · rw [hr] at hc
                      have HR := hide hr
                      clear hr
                      go_wp2_with (go_at_call 26; refine (unhide hc).mono ?_; rintro e w' ⟨rfl, hb2⟩)
                      go_roundw
                      case rel =>
                        (repeat apply Exists.intro)
                        refine ⟨?_, rfl⟩
                        exact ⟨j + 1, hlt, by go_num, fun x hx hxj => if hxx : x = j then by subst hxx; exact unhide HR else unhide HALL x hx (by omega), hb.trans (hb2.mono (by simpa using hszb))⟩
                      case measure => simp [intOf]; omega
                    · have hr : rightB n ks[j] = false := by simpa using hr
                      rw [hr] at hc
                      have HR : Hid (ks.all (rightB n) = false) := by
                        rw [← Bool.not_eq_true, List.all_eq_true]
                        intro hx
                        rw [hx _ (List.getElem_mem hlt)] at hr; cases hr
                      clear hr
                      go_wp2_with (go_at_call 26; refine (unhide hc).mono ?_; rintro e w' ⟨rfl, hb2⟩)
                      go_ret
                      exact ⟨ret_bool (by rw [unhide hgoal, unhide HR, Bool.and_false]; rfl), hbw.trans (hb2.mono hbw.size)⟩
                  · have hjj : j = ks.length := by omega
                    subst hjj
                    have HA : Hid (ks.all (rightB n) = true) := by
                      show _ = true
                      rw [List.all_eq_true]
                      intro t ht
                      obtain ⟨x, hx, rfl⟩ := List.getElem_of_mem ht
                      exact unhide HALL x hx hx
                    clear HALL
                    by_cases h7 : k = 7
                    · subst h7
                      go_wp2_with fail
                      clear hb0
                      obtain ⟨w2, hw2⟩ : ∃ x, x = wr := ⟨wr, rfl⟩
                      subst hw2
                      go_loopw [5] (fun iv wq => ∃ y : Nat, y ≤ ks.length ∧ y % 2 = 0 ∧ iv = .int .i64 ((y : Int) + 2) ∧ (∀ x (hx : 2 * x + 2 < ks.length), 2 * x < y → cmpT n n ks[2 * x] ks[2 * x + 2] < 0) ∧
                        Below w2.heap.size w2 wq) (fun iv _ => ks.length + 3 - (intOf iv).toNat)
                      case atStart => exact ⟨0, Nat.zero_le _, rfl, rfl, fun x _ hx => absurd hx (by omega), Below.refl _ _⟩
                      case round =>
                        obtain ⟨y, hy, hy2, rfl, hrise, hbq⟩ := hrel
                        have hb3q : wr.cell? ⟨w.heap.size, 3, none⟩ = some (.slice ua ks.length uc) := by
                          rw [hbq.cell (p := ⟨w.heap.size, 3, none⟩) (by have := hb.size; simp at this; show w.heap.size < _; omega)]; exact hb3
                        have HRISE := hide hrise
                        clear hrise hb3
                        by_cases hlt : y + 2 < ks.length
                        · have hlt1 : y < ks.length := by omega
                          have hbq0 : Below w.heap.size w wr := hbw.trans (hbq.mono hbw.size)
                          obtain ⟨b, off, d0, d1, d2, d3, rfl, hS, e0, e1, e2, e3, hr⟩ := hel y hlt1
                          obtain ⟨b', off', d0', d1', d2', d3', hbo, hS', e0', e1', e2', e3', hr'⟩ := hel (y + 2) hlt
                          simp only [Option.some.injEq, Addr.mk.injEq, and_true] at hbo
                          obtain ⟨rfl, rfl⟩ := hbo
                          have F0 : ∀ x : LaterW wr.heap.size wr, x.wd.cell? ⟨b, off + y * 4, none⟩ = some d0 := fun x => ((bcell (hbq0.trans (x.be.mono hbq0.size))) b _ hS).trans e0
                          have F1 : ∀ x : LaterW wr.heap.size wr, x.wd.cell? ⟨b, off + y * 4 + 1, none⟩ = some d1 := fun x => ((bcell (hbq0.trans (x.be.mono hbq0.size))) b _ hS).trans e1
                          have F2 : ∀ x : LaterW wr.heap.size wr, x.wd.cell? ⟨b, off + y * 4 + 2, none⟩ = some d2 := fun x => ((bcell (hbq0.trans (x.be.mono hbq0.size))) b _ hS).trans e2
                          have F3 : ∀ x : LaterW wr.heap.size wr, x.wd.cell? ⟨b, off + y * 4 + 3, none⟩ = some d3 := fun x => ((bcell (hbq0.trans (x.be.mono hbq0.size))) b _ hS).trans e3
                          have G0 : ∀ x : LaterW wr.heap.size wr, x.wd.cell? ⟨b, off + (y + 2) * 4, none⟩ = some d0' := fun x => ((bcell (hbq0.trans (x.be.mono hbq0.size))) b _ hS).trans e0'
                          have G1 : ∀ x : LaterW wr.heap.size wr, x.wd.cell? ⟨b, off + (y + 2) * 4 + 1, none⟩ = some d1' := fun x => ((bcell (hbq0.trans (x.be.mono hbq0.size))) b _ hS).trans e1'
                          have G2 : ∀ x : LaterW wr.heap.size wr, x.wd.cell? ⟨b, off + (y + 2) * 4 + 2, none⟩ = some d2' := fun x => ((bcell (hbq0.trans (x.be.mono hbq0.size))) b _ hS).trans e2'
                          have G3 : ∀ x : LaterW wr.heap.size wr, x.wd.cell? ⟨b, off + (y + 2) * 4 + 3, none⟩ = some d3' := fun x => ((bcell (hbq0.trans (x.be.mono hbq0.size))) b _ hS).trans e3'
                          have HBX : ∀ x : LaterW wr.heap.size wr, x.wd.cell? ⟨w.heap.size, 3, none⟩ = some (.slice (some ⟨b, off, none⟩) ks.length uc) := fun x => (x.be.cell (p := ⟨w.heap.size, 3, none⟩) (World.block_lt_of_cell? _ _ hb3q)).trans hb3q
                          clear e0 e1 e2 e3 e0' e1' e2' e3'
                          go_wp2_with fail
                          haveI hne : Nonempty (LaterW wr.heap.size wr) := ⟨⟨wr, Below.refl _ _⟩⟩
                          refine wp_region_later wr.heap.size (by kernel_rfl) (by kernel_rfl) ?_
                          have hcc := hide (fun x : LaterW wr.heap.size wr => cmp_any n n ks[y] ks[y + 2] _ _ _ _ _ _ _ _ x.wd (hr.up (hbq0.trans (x.be.mono hbq0.size))) (hr'.up (hbq0.trans (x.be.mono hbq0.size))))
                          repeat (go_big_quiet_step ((go_at_call 27; rename_i x; refine Calls.later (v := .int .i64 (cmpT n n ks[y] ks[y + 2])) (Nat.le_refl _) ((unhide hcc) x))))
                          refine wpQuiet_nil ?_
                          rintro _ ⟨⟨wq, hq⟩, rfl⟩
                          clear F0 F1 F2 F3 G0 G1 G2 G3 HBX hne hcc
                          by_cases hz : cmpT n n ks[y] ks[y + 2] < 0
                          · have HZ := hide hz
                            have hz' : ¬ 0 ≤ cmpT n n ks[y] ks[y + 2] := by omega
                            clear hz
                            go_wp2_with fail
                            go_roundw
                            case rel =>
                              refine ⟨y + 2, by omega, by omega, by go_num, fun x hx hxy => ?_, hbq.trans (hq.mono hbq.size)⟩
                              by_cases hxx : 2 * x = y
                              · subst hxx; exact unhide HZ
                              · exact unhide HRISE x hx (by omega)
                            case measure => simp [intOf]; omega
                          · have HZ : Hid (risesB (cmpT n n) ks = false) := by
                              rw [← Bool.not_eq_true, risesB_true]
                              intro hx
                              have := hx (y / 2) (by omega)
                              simp only [show 2 * (y / 2) = y from by omega] at this
                              exact hz this
                            go_wp2_with fail
                            go_ret
                            exact ⟨ret_bool (by rw [unhide hgoal, unhide HA, unhide HF]; simp [unhide HZ]), hbq0.trans (hq.mono hbq0.size)⟩
                        · go_wp2_with fail
                          go_ret
                          exact ⟨ret_bool (by rw [unhide hgoal, unhide HA, unhide HF]; simp [(risesB_true (f := cmpT n n)).2 fun x hx => unhide HRISE x hx (by omega)]), hbw.trans (hbq.mono hbw.size)⟩
                    · have h7' : (k == 7) = false := by simpa using h7
                      have H7 := hide h7
                      clear h7
                      go_wp2_with fail
                      go_ret
                      exact ⟨ret_bool (by rw [unhide hgoal, unhide HA, unhide HF, if_neg (unhide H7)]; rfl), hbw⟩
              · have hf : fitB k i s ks.length = false := by simpa using hf
                rw [hf]
                have HF := hide hf
                clear hf
                go_wp2_with fail
                go_ret
                exact ⟨ret_bool (by rw [unhide hgoal, unhide HF]; rfl), hbx _⟩

end Go.Proofs.YtffgdchemjmbmaaGreat
/- spec's faces: TermOK, TermSize, TermCompare. -/
namespace Go.Proofs.YtffgdchemjmbmaaGreat
open Go.RowKit

theorem right_any : ∀ n, RightSaid n
  | 0 => fun t => t.elim
  | n + 1 => right_of (right_any n)

/-- Right, and not too large or too deep. -/
def okB (n : Nat) (t : Tm n) : Bool := fitsB n t && rightB n t

set_option maxHeartbeats 1000000 in
theorem sOK_any {n : Nat} (t : Tm n) (c0 c1 c2 c3 : Value) (w : World) (ht : TAt (Under w.heap.size) w n t c0 c1 c2 c3) :
    Calls Tryz.prog 12 #[.agg #[c0, c1, c2, c3]] w fun e w' => e = .returned (.bool (okB n t)) ∧ Below w.heap.size w w' := by
  obtain ⟨k0, k1, k2, k3, k4, k5, rfl, rfl, rfl, rfl⟩ := ht.shape
  have hbx := fun x : Obj => (Below.refl w.heap.size w).alloc (Nat.le_refl _) x
  have hc := hide (fun x => fits_any t _ _ _ _ (w.alloc x) (ht.up (hbx x)))
  by_cases hf : fitsB n t = true
  · rw [hf] at hc
    go_enter Tryz.func12, Tryz.ntmps12
    go_wp2_with fail
    refine ((unhide hc) _).mono ?_
    rintro e w1 ⟨rfl, hb⟩
    have hblk := hb.block w.heap.size (by simp)
    rw [heap_new] at hblk
    have hcell := cell_of_heap hblk
    clear hblk
    have hb2 := (hbx _).trans (hb.mono (by simp))
    have hr := hide (right_any n t _ _ _ _ w1 (ht.up hb2))
    go_wp2_with (go_at_call 26; refine (unhide hr).mono ?_; rintro e w' ⟨rfl, hb3⟩)
    go_ret
    exact ⟨ret_bool (by unfold okB; rw [hf]; rfl), hb2.trans (hb3.mono hb2.size)⟩
  · have hf : fitsB n t = false := by simpa using hf
    rw [hf] at hc
    go_enter Tryz.func12, Tryz.ntmps12
    go_wp2_with (go_at_call 25; refine ((unhide hc) _).mono ?_; rintro e w1 ⟨rfl, hb⟩)
    go_ret
    exact ⟨ret_bool (by unfold okB; rw [hf]; rfl), (hbx _).trans (hb.mono (by simp))⟩

end Go.Proofs.YtffgdchemjmbmaaGreat
