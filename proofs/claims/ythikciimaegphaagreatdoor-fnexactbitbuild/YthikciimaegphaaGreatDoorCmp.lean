/- The order of terms as spec has it: l01Sign, l01Order, l01Each, l01Cmp. -/
import Derived.Test.YthikciimaegphaaGreatDoorQ10
namespace Go.Proofs.YthikciimaegphaaGreatDoor
open Go.RowKit

def sgn (a b : Int) : Int := if a < b then -1 else if b < a then 1 else 0
def ordS (a b : ByteArray) : Int := if Op.bytesLess a.toList b.toList then -1 else if Op.bytesLess a.toList b.toList || a.toList == b.toList then 0 else 1

/-- The first that tells two lists apart, from place i on, each so many places farther. -/
def eachI {α β : Type} (f : α → β → Int) (ks : List α) (ls : List β) (step : Nat) : Nat → Nat → Int
  | 0, _ => 0
  | fuel + 1, i => match ks[i]?, ls[i]? with
    | some x, some y => if f x y = 0 then eachI f ks ls step fuel (i + step) else f x y
    | _, _ => 0

def cmpT : (n m : Nat) → Tm n → Tm m → Int
  | 0, _, t, _ => t.elim
  | _ + 1, 0, _, u => u.elim
  | n + 1, m + 1, (k, i, s, ks), (k', i', s', ks') =>
    if k ≠ k' then sgn k k' else if i ≠ i' then sgn i i' else if s ≠ s' then ordS s s' else
    if k = 8 then (if eachI (cmpT n m) ks ks' 1 ks.length 0 = 0 then sgn ks.length ks'.length else eachI (cmpT n m) ks ks' 1 ks.length 0)
    else if ks.length ≠ ks'.length then sgn ks.length ks'.length
    else if k = 7 then (if eachI (cmpT n m) ks ks' 2 ks.length 0 = 0 then eachI (cmpT n m) ks ks' 2 ks.length 1 else eachI (cmpT n m) ks ks' 2 ks.length 0)
    else eachI (cmpT n m) ks ks' 1 ks.length 0

theorem eachI_out {α β : Type} (f : α → β → Int) (ks : List α) (ls : List β) (step fuel i : Nat) (h : ks.length ≤ i ∨ ls.length ≤ i) : eachI f ks ls step fuel i = 0 := by
  cases fuel with
  | zero => rfl
  | succ fuel =>
    unfold eachI
    rcases h with h | h
    · rw [List.getElem?_eq_none h]
    · rw [List.getElem?_eq_none h]; cases ks[i]? <;> rfl
theorem eachI_in {α β : Type} (f : α → β → Int) (ks : List α) (ls : List β) (step fuel i : Nat) (h : i < ks.length) (h' : i < ls.length) :
    eachI f ks ls step (fuel + 1) i = if f ks[i] ls[i] = 0 then eachI f ks ls step fuel (i + step) else f ks[i] ls[i] := by
  rw [eachI, List.getElem?_eq_getElem h, List.getElem?_eq_getElem h']

set_option maxHeartbeats 400000 in
theorem sign_any (a b : Int) (w : World) : Calls Tryz.prog 72 #[.int .i64 a, .int .i64 b] w fun e w' => e = .returned (.int .i64 (sgn a b)) ∧ w' = w := by
  by_cases h1 : a < b
  · go_enter Tryz.func72, Tryz.ntmps72
    go_wp2
    go_ret
    exact ⟨ret_int (by simp [sgn, h1]), rfl⟩
  · by_cases h2 : b < a
    all_goals
      go_enter Tryz.func72, Tryz.ntmps72
      go_wp2
      go_ret
      exact ⟨ret_int (by unfold sgn; split <;> first | omega | (split <;> omega)), rfl⟩

set_option maxHeartbeats 400000 in
theorem order_any (a b : ByteArray) (w : World) : Calls Tryz.prog 73 #[.string a, .string b] w fun e w' => e = .returned (.int .i64 (ordS a b)) ∧ w' = w := by
  by_cases h1 : Op.bytesLess a.toList b.toList = true
  · go_enter Tryz.func73, Tryz.ntmps73
    go_wp2
    go_ret
    exact ⟨ret_int (by simp [ordS, h1]), rfl⟩
  · have h1' : Op.bytesLess a.toList b.toList = false := by simpa using h1
    by_cases h2 : (a.toList == b.toList) = true
    · go_enter Tryz.func73, Tryz.ntmps73
      go_wp2
      go_ret
      exact ⟨ret_int (by unfold ordS; rw [h1', h2]; rfl), rfl⟩
    · have h2' : (a.toList == b.toList) = false := by simpa using h2
      go_enter Tryz.func73, Tryz.ntmps73
      go_wp2
      go_ret
      exact ⟨ret_int (by unfold ordS; rw [h1', h2']; rfl), rfl⟩

theorem toList_ne {s s' : ByteArray} (h : s ≠ s') : (s.toList == s'.toList) = false := by
  rw [beq_eq_false_iff_ne]
  intro hh
  rw [ByteArray.toList_eq, ByteArray.toList_eq] at hh
  cases s; cases s'
  exact h (congrArg ByteArray.mk (Array.toList_inj.1 hh))

theorem two_cells {w w' : World} {x0 x1 x2 x3 y0 y1 y2 y3 : Value} {e : TypeId}
    (hb : Below ((w.alloc (.cells #[x0, x1, x2, x3] e)).alloc (.cells #[y0, y1, y2, y3] e)).heap.size ((w.alloc (.cells #[x0, x1, x2, x3] e)).alloc (.cells #[y0, y1, y2, y3] e)) w') :
    w'.cell? ⟨w.heap.size, 3, none⟩ = some x3 ∧ w'.cell? ⟨w.heap.size + 1, 3, none⟩ = some y3 := by
  have h1 : w'.heap[w.heap.size]? = some (.cells #[x0, x1, x2, x3] e) := by
    rw [hb.block _ (by simp; omega), Below.heap_alloc _ _ _ (by simp), heap_new]
  have h2 : w'.heap[w.heap.size + 1]? = some (.cells #[y0, y1, y2, y3] e) := by
    rw [hb.block _ (by simp)]
    have := heap_new (w.alloc (.cells #[x0, x1, x2, x3] e)) (.cells #[y0, y1, y2, y3] e)
    rwa [World.size_alloc] at this
  exact ⟨cell_of_heap h1 3, cell_of_heap h2 3⟩

def CmpSaid (n m : Nat) : Prop := ∀ (t : Tm n) (u : Tm m) (c0 c1 c2 c3 d0 d1 d2 d3 : Value) (w : World), TAt (Under w.heap.size) w n t c0 c1 c2 c3 → TAt (Under w.heap.size) w m u d0 d1 d2 d3 →
  Calls Tryz.prog 56 #[.agg #[c0, c1, c2, c3], .agg #[d0, d1, d2, d3]] w fun e w' => e = .returned (.int .i64 (cmpT n m t u)) ∧ Below w.heap.size w w'

def EachSaid (n m : Nat) : Prop := ∀ (ks : List (Tm n)) (ls : List (Tm m)) (u v : Value) (i step : Nat) (w : World), SAt (Under w.heap.size) w (TAt (Under w.heap.size) w n) ks u → SAt (Under w.heap.size) w (TAt (Under w.heap.size) w m) ls v →
  i ≤ 1 → 1 ≤ step → step ≤ 2 →
  Calls Tryz.prog 74 #[u, v, .int .i64 i, .int .i64 step] w fun e w' => e = .returned (.int .i64 (eachI (cmpT n m) ks ls step ks.length i)) ∧ Below w.heap.size w w'

set_option maxHeartbeats 2000000 in
theorem each_of {n m : Nat} (h : CmpSaid n m) : EachSaid n m := by
  intro ks ls u v i0 step w hu hv hi hs1 hs2
  obtain ⟨a, cap, rfl, hlen, hcap, hel⟩ := hu
  obtain ⟨a', cap', rfl, hlen', hcap', hel'⟩ := hv
  go_enter Tryz.func74, Tryz.ntmps74
  go_wp2_with fail
  go_loopw [9] (fun iv wr => ∃ k fuel : Nat, iv = .int .i64 k ∧ k ≤ ks.length + 2 ∧ ks.length ≤ k + fuel ∧ eachI (cmpT n m) ks ls step ks.length i0 = eachI (cmpT n m) ks ls step fuel k ∧ Below w.heap.size w wr) (fun iv _ => ks.length + 3 - (intOf iv).toNat)
  case atStart => exact ⟨i0, ks.length, rfl, by omega, by omega, rfl, Below.refl _ _⟩
  case round =>
    obtain ⟨k, fuel, rfl, hk1, hk2, heq, hb⟩ := hrel
    by_cases hlt : k < ks.length
    · by_cases hlt' : k < ls.length
      · obtain ⟨fuel, rfl⟩ : ∃ f, fuel = f + 1 := ⟨fuel - 1, by omega⟩
        rw [eachI_in _ _ _ _ _ _ hlt hlt'] at heq
        obtain ⟨b, off, d0, d1, d2, d3, rfl, hS, e0, e1, e2, e3, hr⟩ := hel k hlt
        obtain ⟨b', off', d0', d1', d2', d3', rfl, hS', e0', e1', e2', e3', hr'⟩ := hel' k hlt'
        have F0 : ∀ x : LaterW w.heap.size wr, x.wd.cell? ⟨b, off + k * 4, none⟩ = some d0 := fun x => ((bcell (hb.trans x.be)) b _ hS).trans e0
        have F1 : ∀ x : LaterW w.heap.size wr, x.wd.cell? ⟨b, off + k * 4 + 1, none⟩ = some d1 := fun x => ((bcell (hb.trans x.be)) b _ hS).trans e1
        have F2 : ∀ x : LaterW w.heap.size wr, x.wd.cell? ⟨b, off + k * 4 + 2, none⟩ = some d2 := fun x => ((bcell (hb.trans x.be)) b _ hS).trans e2
        have F3 : ∀ x : LaterW w.heap.size wr, x.wd.cell? ⟨b, off + k * 4 + 3, none⟩ = some d3 := fun x => ((bcell (hb.trans x.be)) b _ hS).trans e3
        have G0 : ∀ x : LaterW w.heap.size wr, x.wd.cell? ⟨b', off' + k * 4, none⟩ = some d0' := fun x => ((bcell (hb.trans x.be)) b' _ hS').trans e0'
        have G1 : ∀ x : LaterW w.heap.size wr, x.wd.cell? ⟨b', off' + k * 4 + 1, none⟩ = some d1' := fun x => ((bcell (hb.trans x.be)) b' _ hS').trans e1'
        have G2 : ∀ x : LaterW w.heap.size wr, x.wd.cell? ⟨b', off' + k * 4 + 2, none⟩ = some d2' := fun x => ((bcell (hb.trans x.be)) b' _ hS').trans e2'
        have G3 : ∀ x : LaterW w.heap.size wr, x.wd.cell? ⟨b', off' + k * 4 + 3, none⟩ = some d3' := fun x => ((bcell (hb.trans x.be)) b' _ hS').trans e3'
        have HE := hide heq
        clear heq e0 e1 e2 e3 e0' e1' e2' e3' hel hel'
        go_wp2_with fail
        haveI hne : Nonempty (LaterW w.heap.size wr) := ⟨⟨wr, Below.refl _ _⟩⟩
        refine wp_region_later w.heap.size (by kernel_rfl) (by kernel_rfl) ?_
        repeat (go_big_quiet_step ((go_at_call 56; rename_i x; refine Calls.later (v := .int .i64 (cmpT n m ks[k] ls[k])) hb.size (h _ _ _ _ _ _ _ _ _ _ _ (hr.up (hb.trans x.be)) (hr'.up (hb.trans x.be))))))
        refine wpQuiet_nil ?_
        rintro _ ⟨⟨wq, hq⟩, rfl⟩
        clear F0 F1 F2 F3 G0 G1 G2 G3 hne
        by_cases hz : cmpT n m ks[k] ls[k] = 0
        · rw [hz]
          have HE2 := unhide HE
          rw [if_pos hz] at HE2
          have HE3 := hide HE2
          clear HE HE2 hz
          go_wp2_with fail
          go_roundw
          case rel => exact ⟨k + step, fuel, by go_num, by omega, by omega, unhide HE3, hb.trans hq⟩
          case measure => simp [intOf]; omega
        · have HE2 := unhide HE
          rw [if_neg hz] at HE2
          have HE3 := hide HE2
          have hz2 : (cmpT n m ks[k] ls[k] != 0) = true := by simpa using hz
          clear HE HE2 hz
          go_wp2_with fail
          go_ret
          exact ⟨ret_int (unhide HE3).symm, hb.trans hq⟩
      · rw [eachI_out (cmpT n m) ks ls step fuel k (.inr (by omega))] at heq
        have HE := hide heq
        clear heq hel hel'
        go_wp2_with fail
        go_ret
        exact ⟨ret_int (unhide HE).symm, hb⟩
    · rw [eachI_out (cmpT n m) ks ls step fuel k (.inl (by omega))] at heq
      have HE := hide heq
      clear heq hel hel'
      go_wp2_with fail
      go_ret
      exact ⟨ret_int (unhide HE).symm, hb⟩

theorem cmp_kind {n m : Nat} {k k' i i' : Int} {s s' : ByteArray} {ks : List (Tm n)} {ls : List (Tm m)} (h : k ≠ k') : cmpT (n + 1) (m + 1) (k, i, s, ks) (k', i', s', ls) = sgn k k' := by
  simp only [cmpT, ne_eq, h, not_false_eq_true, if_true]
theorem cmp_num {n m : Nat} {k i i' : Int} {s s' : ByteArray} {ks : List (Tm n)} {ls : List (Tm m)} (h : i ≠ i') : cmpT (n + 1) (m + 1) (k, i, s, ks) (k, i', s', ls) = sgn i i' := by
  simp only [cmpT, ne_eq, h, not_true_eq_false, not_false_eq_true, if_true, if_false]
theorem cmp_text {n m : Nat} {k i : Int} {s s' : ByteArray} {ks : List (Tm n)} {ls : List (Tm m)} (h : s ≠ s') : cmpT (n + 1) (m + 1) (k, i, s, ks) (k, i, s', ls) = ordS s s' := by
  simp only [cmpT, ne_eq, h, not_true_eq_false, not_false_eq_true, if_true, if_false]
theorem cmp_list {n m : Nat} {i : Int} {s : ByteArray} {ks : List (Tm n)} {ls : List (Tm m)} : cmpT (n + 1) (m + 1) (8, i, s, ks) (8, i, s, ls) =
    if eachI (cmpT n m) ks ls 1 ks.length 0 = 0 then sgn ks.length ls.length else eachI (cmpT n m) ks ls 1 ks.length 0 := by
  simp only [cmpT, ne_eq, not_true_eq_false, if_true, if_false]
theorem cmp_len {n m : Nat} {k i : Int} {s : ByteArray} {ks : List (Tm n)} {ls : List (Tm m)} (h8 : k ≠ 8) (h : ks.length ≠ ls.length) : cmpT (n + 1) (m + 1) (k, i, s, ks) (k, i, s, ls) = sgn ks.length ls.length := by
  simp only [cmpT, ne_eq, h, h8, not_true_eq_false, not_false_eq_true, if_true, if_false]
theorem cmp_map {n m : Nat} {i : Int} {s : ByteArray} {ks : List (Tm n)} {ls : List (Tm m)} (h : ks.length = ls.length) : cmpT (n + 1) (m + 1) (7, i, s, ks) (7, i, s, ls) =
    if eachI (cmpT n m) ks ls 2 ks.length 0 = 0 then eachI (cmpT n m) ks ls 2 ks.length 1 else eachI (cmpT n m) ks ls 2 ks.length 0 := by
  simp only [cmpT, ne_eq, h, not_true_eq_false, if_true, if_false, show ¬ (7 : Int) = 8 from by decide]
theorem cmp_rest {n m : Nat} {k i : Int} {s : ByteArray} {ks : List (Tm n)} {ls : List (Tm m)} (h8 : k ≠ 8) (h7 : k ≠ 7) (h : ks.length = ls.length) : cmpT (n + 1) (m + 1) (k, i, s, ks) (k, i, s, ls) = eachI (cmpT n m) ks ls 1 ks.length 0 := by
  simp only [cmpT, ne_eq, h, h8, h7, not_true_eq_false, if_false]

set_option maxHeartbeats 2000000 in
theorem cmp_of {n m : Nat} (h : EachSaid n m) : CmpSaid (n + 1) (m + 1) := by
  rintro ⟨k, i, s, ks⟩ ⟨k', i', s', ls⟩ c0 c1 c2 c3 d0 d1 d2 d3 w ⟨rfl, rfl, rfl, hk, hm, hs, hks⟩ ⟨rfl, rfl, rfl, hk', hm', hs', hls⟩
  have hb2 := below_two w
  have hU := fun x y => hks.up (hb2 x y)
  have hV := fun x y => hls.up (hb2 x y)
  obtain ⟨ua, uc, rfl, -, -, -⟩ := hks
  obtain ⟨va, vc, rfl, -, -, -⟩ := hls
  by_cases h1 : k = k'
  case neg =>
    have h1' : (k != k') = true := by simpa using h1
    have hc := hide (cmp_kind (n := n) (m := m) (i := i) (i' := i') (s := s) (s' := s') (ks := ks) (ls := ls) h1)
    clear h1 hU hV
    go_enter Tryz.func56, Tryz.ntmps56
    go_wp2_with (go_at_call 72; refine (sign_any _ _ _).mono ?_; rintro e w' ⟨rfl, rfl⟩)
    go_ret
    exact ⟨ret_int (unhide hc).symm, hb2 _ _⟩
  subst h1
  by_cases h2 : i = i'
  case neg =>
    have h2' : (i != i') = true := by simpa using h2
    have hc := hide (cmp_num (n := n) (m := m) (k := k) (s := s) (s' := s') (ks := ks) (ls := ls) h2)
    clear h2 hU hV
    go_enter Tryz.func56, Tryz.ntmps56
    go_wp2_with (go_at_call 72; refine (sign_any _ _ _).mono ?_; rintro e w' ⟨rfl, rfl⟩)
    go_ret
    exact ⟨ret_int (unhide hc).symm, hb2 _ _⟩
  subst h2
  by_cases h3 : s = s'
  case neg =>
    have h3' : (s.toList == s'.toList) = false := toList_ne h3
    have hc := hide (cmp_text (n := n) (m := m) (k := k) (i := i) (ks := ks) (ls := ls) h3)
    clear h3 hU hV
    go_enter Tryz.func56, Tryz.ntmps56
    go_wp2_with (go_at_call 73; refine (order_any _ _ _).mono ?_; rintro e w' ⟨rfl, rfl⟩)
    go_ret
    exact ⟨ret_int (unhide hc).symm, hb2 _ _⟩
  subst h3
  have hE : ∀ (i step : Nat) (x y : Obj), i ≤ 1 → 1 ≤ step → step ≤ 2 → Calls Tryz.prog 74 #[.slice ua ks.length uc, .slice va ls.length vc, .int .i64 i, .int .i64 step] ((w.alloc x).alloc y)
      fun e w' => e = .returned (.int .i64 (eachI (cmpT n m) ks ls step ks.length i)) ∧ Below ((w.alloc x).alloc y).heap.size ((w.alloc x).alloc y) w' := fun i step x y h1 h2 h3 =>
    h ks ls _ _ i step _ (hU x y) (hV x y) h1 h2 h3
  have hEl : ∀ (i step : Nat) (x y : Obj) (w1 : World), Below ((w.alloc x).alloc y).heap.size ((w.alloc x).alloc y) w1 → i ≤ 1 → 1 ≤ step → step ≤ 2 → Calls Tryz.prog 74 #[.slice ua ks.length uc, .slice va ls.length vc, .int .i64 i, .int .i64 step] w1
      fun e w' => e = .returned (.int .i64 (eachI (cmpT n m) ks ls step ks.length i)) ∧ Below w.heap.size w w' := fun i step x y w1 hb h1 h2 h3 =>
    (h ks ls _ _ i step w1 ((hU x y).up hb) ((hV x y).up hb) h1 h2 h3).mono fun e w' he => ⟨he.1, ((hb2 x y).trans (hb.mono (by simp; omega))).trans (he.2.mono (by have := hb.size; simp at this; omega))⟩
  clear hU hV
  by_cases h8 : k = 8
  case pos =>
    subst h8
    have h01 := hide (fun x y => hE 0 1 x y (by omega) (by omega) (by omega))
    have hc := cmp_list (n := n) (m := m) (i := i) (s := s) (ks := ks) (ls := ls)
    clear hE hEl
    by_cases hz : eachI (cmpT n m) ks ls 1 ks.length 0 = 0
    · rw [if_pos hz] at hc
      have HC := hide hc
      rw [hz] at h01
      clear hc hz
      go_enter Tryz.func56, Tryz.ntmps56
      go_wp2_with fail
      refine ((unhide h01) _ _).mono ?_
      rintro e w' ⟨rfl, hb⟩
      obtain ⟨r1, r2⟩ := two_cells hb
      go_wp2_with (go_at_call 72; refine (sign_any _ _ _).mono ?_; rintro e w' ⟨rfl, rfl⟩)
      go_ret
      exact ⟨ret_int (unhide HC).symm, (hb2 _ _).trans (hb.mono (by simp; omega))⟩
    · rw [if_neg hz] at hc
      have HC := hide hc
      have hz' : (eachI (cmpT n m) ks ls 1 ks.length 0 != 0) = true := by simpa using hz
      clear hc hz
      go_enter Tryz.func56, Tryz.ntmps56
      go_wp2_with (first | (go_at_call 74; refine ((unhide h01) _ _).mono ?_; rintro e w' ⟨rfl, hb⟩))
      go_ret
      exact ⟨ret_int (unhide HC).symm, (hb2 _ _).trans (hb.mono (by simp; omega))⟩
  have h8' : (k == 8) = false := by simpa using h8
  by_cases hl : ks.length = ls.length
  case neg =>
    have hc := hide (cmp_len (n := n) (m := m) (i := i) (s := s) h8 hl)
    have hl' : ((ks.length : Int) != (ls.length : Int)) = true := by simpa using (by omega : ¬ (ks.length : Int) = ls.length)
    clear hE hEl hl h8
    go_enter Tryz.func56, Tryz.ntmps56
    go_wp2_with (go_at_call 72; refine (sign_any _ _ _).mono ?_; rintro e w' ⟨rfl, rfl⟩)
    go_ret
    exact ⟨ret_int (unhide hc).symm, hb2 _ _⟩
  have hl' : ((ks.length : Int) != (ls.length : Int)) = false := by simp [hl]
  by_cases h7 : k = 7
  case pos =>
    subst h7
    have h02 := hide (fun x y => hE 0 2 x y (by omega) (by omega) (by omega))
    have h12 := hide (fun x y w1 hb => hEl 1 2 x y w1 hb (by omega) (by omega) (by omega))
    have hc := cmp_map (n := n) (m := m) (i := i) (s := s) hl
    have Hl := hide hl
    clear hE hEl hl
    by_cases hz : eachI (cmpT n m) ks ls 2 ks.length 0 = 0
    · rw [if_pos hz] at hc
      have HC := hide hc
      rw [hz] at h02
      clear hc hz
      go_enter Tryz.func56, Tryz.ntmps56
      go_wp2_with fail
      refine ((unhide h02) _ _).mono ?_
      rintro e w' ⟨rfl, hb⟩
      obtain ⟨r1, r2⟩ := two_cells hb
      go_wp2_with (go_at_call 74; refine ((unhide h12) _ _ _ hb).mono ?_; rintro e w' ⟨rfl, hb⟩)
      go_ret
      exact ⟨ret_int (unhide HC).symm, hb⟩
    · rw [if_neg hz] at hc
      have HC := hide hc
      have hz' : (eachI (cmpT n m) ks ls 2 ks.length 0 != 0) = true := by simpa using hz
      clear hc hz
      go_enter Tryz.func56, Tryz.ntmps56
      go_wp2_with (go_at_call 74; refine ((unhide h02) _ _).mono ?_; rintro e w' ⟨rfl, hb⟩)
      go_ret
      exact ⟨ret_int (unhide HC).symm, (hb2 _ _).trans (hb.mono (by simp; omega))⟩
  have h7' : (k == 7) = false := by simpa using h7
  have h01 := hide (fun x y => hE 0 1 x y (by omega) (by omega) (by omega))
  have hc := hide (cmp_rest (n := n) (m := m) (i := i) (s := s) h8 h7 hl)
  clear hE hEl hl h8 h7
  go_enter Tryz.func56, Tryz.ntmps56
  go_wp2_with (go_at_call 74; refine ((unhide h01) _ _).mono ?_; rintro e w' ⟨rfl, hb⟩)
  go_ret
  exact ⟨ret_int (unhide hc).symm, (hb2 _ _).trans (hb.mono (by simp; omega))⟩

theorem cmp_any : ∀ n m, CmpSaid n m
  | 0, _ => fun t => t.elim
  | _ + 1, 0 => fun _ u => u.elim
  | n + 1, m + 1 => cmp_of (each_of (cmp_any n m))

end Go.Proofs.YthikciimaegphaaGreatDoor
