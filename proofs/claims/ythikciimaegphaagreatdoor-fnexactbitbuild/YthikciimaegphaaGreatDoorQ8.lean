/- Plain definitions: trees of bounded depth, how they lie in memory, what becomes of that when the world grows. Nothing of the program is named here. -/
import Derived.Test.YthikciimaegphaaGreatDoorQ1
import Derived.Below
import Derived.ProofKit
import Derived.Test.YthikciimaegphaaGreatDoorRows
import Derived.WalkKit
import Derived.WalkSpells
import Derived.WalkLawsBesides
import Derived.BigQuiet
namespace Go.Proofs.YthikciimaegphaaGreatDoor
open Go.RowKit

/-- A term's tree, at most so deep: its kind, its number, its text, its kids. -/
def Tm : Nat → Type
  | 0 => Empty
  | n + 1 => Int × Int × ByteArray × List (Tm n)

/-- A number that an int can hold. -/
def In64 (n : Int) : Prop := -9223372036854775808 ≤ n ∧ n ≤ 9223372036854775807

/-- A slice whose elements are four cells each, all in blocks of which S holds; element i stands for ks[i]. -/
def SAt {α : Type} (S : Nat → Prop) (w : World) (R : α → Value → Value → Value → Value → Prop) (ks : List α) (v : Value) : Prop :=
  ∃ a cap, v = .slice a ks.length cap ∧ ks.length ≤ cap ∧ ks.length ≤ 2 ^ 47 ∧ ∀ i (h : i < ks.length), ∃ b off d0 d1 d2 d3, a = some ⟨b, off, none⟩ ∧ S b ∧
    w.cell? ⟨b, off + i * 4, none⟩ = some d0 ∧ w.cell? ⟨b, off + i * 4 + 1, none⟩ = some d1 ∧ w.cell? ⟨b, off + i * 4 + 2, none⟩ = some d2 ∧
    w.cell? ⟨b, off + i * 4 + 3, none⟩ = some d3 ∧ R ks[i] d0 d1 d2 d3

/-- The four cells of a term. -/
def TAt (S : Nat → Prop) (w : World) : (n : Nat) → Tm n → Value → Value → Value → Value → Prop
  | 0, t => t.elim
  | n + 1, (k, m, s, ks) => fun c0 c1 c2 c3 => c0 = .int .i64 k ∧ c1 = .int .i64 m ∧ c2 = .string s ∧ In64 k ∧ In64 m ∧ s.size ≤ 2 ^ 47 ∧ SAt S w (TAt S w n) ks c3

/-- Where the blocks of S are as they were, the terms there are too. -/
theorem SAt.keep {α : Type} {S : Nat → Prop} {w w' : World} {R R' : α → Value → Value → Value → Value → Prop} {ks : List α} {v : Value}
    (h : SAt S w R ks v) (hk : ∀ b, S b → w'.heap[b]? = w.heap[b]?) (hR : ∀ t ∈ ks, ∀ a b c d, R t a b c d → R' t a b c d) : SAt S w' R' ks v := by
  obtain ⟨a, cap, hv, h1, h2, h3⟩ := h
  refine ⟨a, cap, hv, h1, h2, fun i hi => ?_⟩
  obtain ⟨b, off, d0, d1, d2, d3, ha, hS, e0, e1, e2, e3, hr⟩ := h3 i hi
  have hc : ∀ o, w'.cell? ⟨b, o, none⟩ = w.cell? ⟨b, o, none⟩ := fun o => World.cell?_of_block (w := w) (hk b hS)
  exact ⟨b, off, d0, d1, d2, d3, ha, hS, by rw [hc, e0], by rw [hc, e1], by rw [hc, e2], by rw [hc, e3], hR _ (List.getElem_mem hi) _ _ _ _ hr⟩

theorem TAt.keep {S : Nat → Prop} {w w' : World} (hk : ∀ b, S b → w'.heap[b]? = w.heap[b]?) : ∀ {n : Nat} {t : Tm n} {a b c d : Value}, TAt S w n t a b c d → TAt S w' n t a b c d := by
  intro n
  induction n with
  | zero => intro t; exact t.elim
  | succ n ih =>
    rintro ⟨k, m, s, ks⟩ a b c d ⟨h0, h1, h2, hk1, hm, hs, h3⟩
    exact ⟨h0, h1, h2, hk1, hm, hs, h3.keep hk (fun t _ a b c d h => ih h)⟩

theorem SAt.mono {α : Type} {S S' : Nat → Prop} {w : World} {R R' : α → Value → Value → Value → Value → Prop} {ks : List α} {v : Value}
    (h : SAt S w R ks v) (hk : ∀ b, S b → S' b) (hR : ∀ t ∈ ks, ∀ a b c d, R t a b c d → R' t a b c d) : SAt S' w R' ks v := by
  obtain ⟨a, cap, hv, h1, h2, h3⟩ := h
  refine ⟨a, cap, hv, h1, h2, fun i hi => ?_⟩
  obtain ⟨b, off, d0, d1, d2, d3, ha, hS, e0, e1, e2, e3, hr⟩ := h3 i hi
  exact ⟨b, off, d0, d1, d2, d3, ha, hk b hS, e0, e1, e2, e3, hR _ (List.getElem_mem hi) _ _ _ _ hr⟩

theorem TAt.mono {S S' : Nat → Prop} {w : World} (hk : ∀ b, S b → S' b) : ∀ {n : Nat} {t : Tm n} {a b c d : Value}, TAt S w n t a b c d → TAt S' w n t a b c d := by
  intro n
  induction n with
  | zero => intro t; exact t.elim
  | succ n ih =>
    rintro ⟨k, m, s, ks⟩ a b c d ⟨h0, h1, h2, hk1, hm, hs, h3⟩
    exact ⟨h0, h1, h2, hk1, hm, hs, h3.mono hk (fun t _ a b c d h => ih h)⟩

/-- Behind a step that turns nothing below B. -/
theorem TAt.below {S : Nat → Prop} {B : Nat} {w w' : World} (hb : Below B w w') (hS : ∀ b, S b → b < B) {n : Nat} {t : Tm n} {a b c d : Value} (h : TAt S w n t a b c d) : TAt S w' n t a b c d :=
  h.keep fun b hs => hb.block b (hS b hs)
theorem SAt.below {S : Nat → Prop} {B : Nat} {w w' : World} (hb : Below B w w') (hS : ∀ b, S b → b < B) {n : Nat} {ks : List (Tm n)} {v : Value} (h : SAt S w (TAt S w n) ks v) : SAt S w' (TAt S w' n) ks v :=
  h.keep (fun b hs => hb.block b (hS b hs)) fun _ _ _ _ _ _ ht => ht.below hb hS

/-- All that lies below B. -/
abbrev Under (B : Nat) : Nat → Prop := fun b => b < B

/-- Into a later world, all that was there being below the first one's size. -/
theorem TAt.up {w w' : World} (hb : Below w.heap.size w w') {n : Nat} {t : Tm n} {a b c d : Value} (h : TAt (Under w.heap.size) w n t a b c d) : TAt (Under w'.heap.size) w' n t a b c d :=
  (h.below hb fun _ h => h).mono fun _ h => Nat.lt_of_lt_of_le h hb.size
theorem SAt.up {w w' : World} (hb : Below w.heap.size w w') {n : Nat} {ks : List (Tm n)} {v : Value} (h : SAt (Under w.heap.size) w (TAt (Under w.heap.size) w n) ks v) :
    SAt (Under w'.heap.size) w' (TAt (Under w'.heap.size) w' n) ks v :=
  (h.keep (fun b hs => hb.block b hs) fun _ _ _ _ _ _ ht => ht.below hb fun _ h => h).mono (fun _ h => Nat.lt_of_lt_of_le h hb.size) fun _ _ _ _ _ _ ht => ht.mono fun _ h => Nat.lt_of_lt_of_le h hb.size

/-- The shape of a term's four cells. -/
theorem TAt.shape {S : Nat → Prop} {w : World} : ∀ {n : Nat} {t : Tm n} {c0 c1 c2 c3 : Value}, TAt S w n t c0 c1 c2 c3 → ∃ k m s a l c, c0 = .int .i64 k ∧ c1 = .int .i64 m ∧ c2 = .string s ∧ c3 = .slice a l c
  | 0, t, _, _, _, _, _ => t.elim
  | _ + 1, (k, m, s, _), _, _, _, _, ⟨h0, h1, h2, _, _, _, a, cap, h3, _⟩ => ⟨k, m, s, a, _, cap, h0, h1, h2, h3⟩

/-- How many letters and kids a term has, with all within. -/
def tot : (n : Nat) → Tm n → Nat
  | 0, t => t.elim
  | n + 1, (_, _, s, ks) => s.size + (ks.length + (ks.map (tot n)).sum)

def totS {n : Nat} (ks : List (Tm n)) : Nat := (ks.map (tot n)).sum

theorem totS_take {n : Nat} (ks : List (Tm n)) (k : Nat) (h : k < ks.length) : totS (ks.take (k + 1)) = totS (ks.take k) + tot n ks[k] := by
  unfold totS; rw [List.take_succ_eq_append_getElem h, List.map_append, List.sum_append]; simp only [List.map_cons, List.map_nil, List.sum_cons, List.sum_nil, Nat.add_zero]
theorem totS_le {n : Nat} (ks : List (Tm n)) (k : Nat) : totS (ks.take k) ≤ totS ks := by
  have : totS ks = totS (ks.take k) + totS (ks.drop k) := by unfold totS; rw [← List.sum_append, ← List.map_append, List.take_append_drop]
  omega

end Go.Proofs.YthikciimaegphaaGreatDoor
/- The walks of szTerm and szTermS, by induction on the depth. -/
namespace Go.Proofs.YthikciimaegphaaGreatDoor
open Go.RowKit

/-- What szTerm hands back: what is left, or -1. -/
def left (t : Nat) (l : Int) : Int := if (t : Int) ≤ l then l - t else -1

def SzSaid (n : Nat) : Prop := ∀ (t : Tm n) (c0 c1 c2 c3 : Value) (l : Int) (w : World), TAt (Under w.heap.size) w n t c0 c1 c2 c3 → 0 ≤ l → l ≤ 1048576 →
  Calls Tryz.prog 33 #[.agg #[c0, c1, c2, c3], .int .i64 l] w fun e w' => e = .returned (.int .i64 (left (tot n t) l)) ∧ Below w.heap.size w w'

def SzSSaid (n : Nat) : Prop := ∀ (ks : List (Tm n)) (v : Value) (l : Int) (w : World), SAt (Under w.heap.size) w (TAt (Under w.heap.size) w n) ks v → 0 ≤ l → l ≤ 1048576 →
  Calls Tryz.prog 53 #[v, .int .i64 l] w fun e w' => e = .returned (.int .i64 (left (ks.length + totS ks) l)) ∧ Below w.heap.size w w'

theorem left_pos {t : Nat} {l : Int} (h : (t : Int) ≤ l) : left t l = l - t := if_pos h
theorem left_neg {t : Nat} {l : Int} (h : ¬ (t : Int) ≤ l) : left t l = -1 := if_neg h
theorem bcell {W w1 : World} (hb : Below W.heap.size W w1) : (∀ b o, b < W.heap.size → w1.cell? ⟨b, o, none⟩ = W.cell? ⟨b, o, none⟩) :=
  fun b o h => hb.cell (p := ⟨b, o, none⟩) h

set_option maxHeartbeats 400000 in
theorem szS_of {n : Nat} (h : SzSaid n) : SzSSaid n := by
  intro ks v l w hv hl0 hl1
  obtain ⟨a, cap, rfl, hlen, hcap, hel⟩ := hv
  by_cases hneg : l < ks.length
  · have hn : l - ks.length < 0 := by omega
    go_enter Tryz.func53, Tryz.ntmps53
    go_wp2_with fail
    go_ret
    exact ⟨ret_int (left_neg (by omega)).symm, Below.refl _ _⟩
  · have hn : ¬ l - ks.length < 0 := by omega
    have hlb : (ks.length : Int) ≤ l := by omega
    go_enter Tryz.func53, Tryz.ntmps53
    go_wp2_with fail
    go_loopw [1, 5] (fun lv iv wr => ∃ k : Nat, k ≤ ks.length ∧ iv = .int .i64 k ∧ (totS (ks.take k) : Int) + ks.length ≤ l ∧ lv = .int .i64 (l - ks.length - totS (ks.take k)) ∧ Below w.heap.size w wr) (fun _ iv _ => ks.length - (intOf iv).toNat)
    case atStart => exact ⟨0, by omega, rfl, by simp [totS]; omega, by simp [totS], Below.refl _ _⟩
    case round =>
      obtain ⟨k, hk, rfl, hle, rfl, hb⟩ := hrel
      by_cases hlt : k < ks.length
      · obtain ⟨b, off, d0, d1, d2, d3, rfl, hS, e0, e1, e2, e3, hr⟩ := hel k hlt
        have hbc := bcell hb
        have f0 := (hbc b _ hS).trans e0
        have f1 := (hbc b _ hS).trans e1
        have f2 := (hbc b _ hS).trans e2
        have f3 := (hbc b _ hS).trans e3
        clear hbc e0 e1 e2 e3
        have hts := totS_take ks k hlt
        have htl := totS_le ks (k + 1)
        by_cases hfit : (tot n ks[k] : Int) ≤ l - ks.length - totS (ks.take k)
        · have hnn : ¬ l - ks.length - totS (ks.take k) - tot n ks[k] < 0 := by omega
          have HT : Hid (totS (ks.take (k + 1)) = totS (ks.take k) + tot n ks[k]) := hts
          clear hts htl
          go_wp2_with (go_at_call 33; refine (h _ _ _ _ _ _ _ (hr.up hb) (by omega) (by omega)).mono ?_; rintro e w' ⟨rfl, hb2⟩; rw [left, if_pos hfit])
          go_roundw
          case rel => exact ⟨k + 1, hlt, by go_num, by rw [HT.out]; omega, by rw [HT.out]; congr 1; omega, hb.trans (hb2.mono hb.size)⟩
          case measure => simp [intOf]; omega
        · have hlast : ¬ ((ks.length + totS ks : Nat) : Int) ≤ l := by omega
          clear hts htl
          go_wp2_with (go_at_call 33; refine (h _ _ _ _ _ _ _ (hr.up hb) (by omega) (by omega)).mono ?_; rintro e w' ⟨rfl, hb2⟩; rw [left, if_neg hfit])
          go_ret
          exact ⟨ret_int (left_neg (by omega)).symm, hb.trans (hb2.mono hb.size)⟩
      · have hkk : k = ks.length := by omega
        subst hkk
        rw [List.take_length] at hle ⊢
        go_wp2_with fail
        go_ret
        exact ⟨ret_int (by rw [left_pos (by omega)]; omega), hb⟩

set_option maxHeartbeats 400000 in
theorem sz_of {n : Nat} (h : SzSSaid n) : SzSaid (n + 1) := by
  rintro ⟨kd, m, s, ks⟩ c0 c1 c2 c3 l w ⟨rfl, rfl, rfl, hk, hm, hs, hks⟩ hl0 hl1
  have hS := hks
  have hdef : tot (n + 1) (kd, m, s, ks) = s.size + (ks.length + totS ks) := rfl
  rw [hdef]
  by_cases h1 : (s.size : Int) ≤ l
  · have hn : ¬ l - s.size < 0 := by omega
    by_cases h2 : ((ks.length + totS ks : Nat) : Int) ≤ l - s.size
    · have hn2 : ¬ l - s.size - ((ks.length + totS ks : Nat) : Int) < 0 := by omega
      go_enter Tryz.func33, Tryz.ntmps33
      go_wp2_with (go_at_call 53; refine (h _ _ _ _ ((hks.up ((Below.refl _ _).alloc (Nat.le_refl _) _))) (by omega) (by omega)).mono ?_; rintro e w' ⟨rfl, hb2⟩; rw [left_pos h2])
      go_ret
      exact ⟨ret_int (by rw [left_pos (by omega)]; omega), ((Below.refl _ _).alloc (Nat.le_refl _) _).trans (hb2.mono (by simp))⟩
    · go_enter Tryz.func33, Tryz.ntmps33
      go_wp2_with (go_at_call 53; refine (h _ _ _ _ ((hks.up ((Below.refl _ _).alloc (Nat.le_refl _) _))) (by omega) (by omega)).mono ?_; rintro e w' ⟨rfl, hb2⟩; rw [left_neg h2])
      go_ret
      exact ⟨ret_int (by rw [left_neg (by omega)]), ((Below.refl _ _).alloc (Nat.le_refl _) _).trans (hb2.mono (by simp))⟩
  · have hn : l - s.size < 0 := by omega
    go_enter Tryz.func33, Tryz.ntmps33
    go_wp2_with fail
    go_ret
    exact ⟨ret_int (by rw [left_neg (by omega)]), (Below.refl _ _).alloc (Nat.le_refl _) _⟩

theorem sz_any : ∀ n, SzSaid n
  | 0 => fun t => t.elim
  | n + 1 => sz_of (szS_of (sz_any n))

end Go.Proofs.YthikciimaegphaaGreatDoor
/- The walks of eqTerm and eqTermS where both are the same term, by induction on the depth. -/
namespace Go.Proofs.YthikciimaegphaaGreatDoor
open Go.RowKit

def EqSaid (n : Nat) : Prop := ∀ (t : Tm n) (c0 c1 c2 c3 d0 d1 d2 d3 : Value) (w : World), TAt (Under w.heap.size) w n t c0 c1 c2 c3 → TAt (Under w.heap.size) w n t d0 d1 d2 d3 →
  Calls Tryz.prog 44 #[.agg #[c0, c1, c2, c3], .agg #[d0, d1, d2, d3]] w fun e w' => e = .returned (.bool true) ∧ Below w.heap.size w w'

def EqSSaid (n : Nat) : Prop := ∀ (ks : List (Tm n)) (u v : Value) (w : World), SAt (Under w.heap.size) w (TAt (Under w.heap.size) w n) ks u → SAt (Under w.heap.size) w (TAt (Under w.heap.size) w n) ks v →
  Calls Tryz.prog 65 #[u, v] w fun e w' => e = .returned (.bool true) ∧ Below w.heap.size w w'

set_option maxHeartbeats 1000000 in
theorem eqS_of {n : Nat} (h : EqSaid n) : EqSSaid n := by
  intro ks u v w hu hv
  have hu0 := hu
  have hv0 := hv
  obtain ⟨a, cap, rfl, hlen, hcap, hel⟩ := hu
  obtain ⟨a', cap', rfl, hlen', hcap', hel'⟩ := hv
  have hl1 : ((ks.length : Int) != (ks.length : Int)) = false := by simp
  go_enter Tryz.func65, Tryz.ntmps65
  go_wp2_with fail
  go_loopw [5] (fun iv wr => ∃ k : Nat, k ≤ ks.length ∧ iv = .int .i64 k ∧ Below w.heap.size w wr) (fun iv _ => ks.length - (intOf iv).toNat)
  case atStart => exact ⟨0, by omega, rfl, Below.refl _ _⟩
  case round =>
    obtain ⟨k, hk, rfl, hb⟩ := hrel
    by_cases hlt : k < ks.length
    · obtain ⟨b, off, d0, d1, d2, d3, rfl, hS, e0, e1, e2, e3, hr⟩ := hel k hlt
      obtain ⟨b', off', d0', d1', d2', d3', rfl, hS', e0', e1', e2', e3', hr'⟩ := hel' k hlt
      have F0 : ∀ x : LaterW w.heap.size wr, x.wd.cell? ⟨b, off + k * 4, none⟩ = some d0 := fun x => ((bcell (hb.trans x.be)) b _ hS).trans e0
      have F1 : ∀ x : LaterW w.heap.size wr, x.wd.cell? ⟨b, off + k * 4 + 1, none⟩ = some d1 := fun x => ((bcell (hb.trans x.be)) b _ hS).trans e1
      have F2 : ∀ x : LaterW w.heap.size wr, x.wd.cell? ⟨b, off + k * 4 + 2, none⟩ = some d2 := fun x => ((bcell (hb.trans x.be)) b _ hS).trans e2
      have F3 : ∀ x : LaterW w.heap.size wr, x.wd.cell? ⟨b, off + k * 4 + 3, none⟩ = some d3 := fun x => ((bcell (hb.trans x.be)) b _ hS).trans e3
      have G0 : ∀ x : LaterW w.heap.size wr, x.wd.cell? ⟨b', off' + k * 4, none⟩ = some d0' := fun x => ((bcell (hb.trans x.be)) b' _ hS').trans e0'
      have G1 : ∀ x : LaterW w.heap.size wr, x.wd.cell? ⟨b', off' + k * 4 + 1, none⟩ = some d1' := fun x => ((bcell (hb.trans x.be)) b' _ hS').trans e1'
      have G2 : ∀ x : LaterW w.heap.size wr, x.wd.cell? ⟨b', off' + k * 4 + 2, none⟩ = some d2' := fun x => ((bcell (hb.trans x.be)) b' _ hS').trans e2'
      have G3 : ∀ x : LaterW w.heap.size wr, x.wd.cell? ⟨b', off' + k * 4 + 3, none⟩ = some d3' := fun x => ((bcell (hb.trans x.be)) b' _ hS').trans e3'
      clear e0 e1 e2 e3 e0' e1' e2' e3' hu0 hv0
      go_wp2_with fail
      haveI hne : Nonempty (LaterW w.heap.size wr) := ⟨⟨wr, Below.refl _ _⟩⟩
      refine wp_region_later w.heap.size (by kernel_rfl) (by kernel_rfl) ?_
      repeat (go_big_quiet_step ((go_at_call 44; rename_i x; refine Calls.later (v := .bool true) hb.size (h _ _ _ _ _ _ _ _ _ _ (hr.up (hb.trans x.be)) (hr'.up (hb.trans x.be))))))
      refine wpQuiet_nil ?_
      rintro _ ⟨⟨wq, hq⟩, rfl⟩
      go_wp2_with fail
      go_roundw
      case rel => exact ⟨k + 1, hlt, by go_num, hb.trans hq⟩
      case measure => simp [intOf]; omega
    · go_wp2_with fail
      go_ret
      exact ⟨rfl, hb⟩

theorem below_two (w : World) (o o' : Obj) : Below w.heap.size w ((w.alloc o).alloc o') :=
  ((Below.refl _ _).alloc (Nat.le_refl _) _).alloc (by simp) _

set_option maxHeartbeats 1000000 in
theorem eq_of {n : Nat} (h : EqSSaid n) : EqSaid (n + 1) := by
  rintro ⟨kd, m, s, ks⟩ c0 c1 c2 c3 d0 d1 d2 d3 w ⟨rfl, rfl, rfl, hk, hm, hs, hks⟩ ⟨rfl, rfl, rfl, _, _, _, hks'⟩
  go_enter Tryz.func44, Tryz.ntmps44
  go_wp2_with (go_at_call 65; refine (h _ _ _ _ (hks.up (below_two _ _ _)) (hks'.up (below_two _ _ _))).mono ?_; rintro e w' ⟨rfl, hb2⟩)
  go_ret
  exact ⟨rfl, (below_two _ _ _).trans (hb2.mono (by simp; omega))⟩

theorem eq_any : ∀ n, EqSaid n
  | 0 => fun t => t.elim
  | n + 1 => eq_of (eqS_of (eq_any n))

end Go.Proofs.YthikciimaegphaaGreatDoor
