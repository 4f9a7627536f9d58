/- Plain definitions: trees of bounded depth, how they lie in memory, what becomes of that when the world grows. Nothing of the program is named here. -/
import Derived.Test.YtcgbonlffcpofaaGreatDoorQ1
import Derived.Below
import Derived.ProofKit
import Derived.Test.YtcgbonlffcpofaaGreatDoorRows
import Derived.WalkKit
import Derived.WalkSpells
import Derived.WalkLawsBesides
import Derived.BigQuiet
namespace Go.Proofs.YtcgbonlffcpofaaGreatDoor
open Go.RowKit

/-- A term's tree, at most so deep: its kind, its number, its text, its kids. -/
def Tm : Nat → Type
  | 0 => Empty
  | n + 1 => Int × Int × ByteArray × List (Tm n)

/-- A number that an int can hold. -/
def In64 (n : Int) : Prop := -9223372036854775808 ≤ n ∧ n ≤ 9223372036854775807

/-- A slice whose elements are four cells each, all in blocks of which S holds; element i stands for ks[i]. -/
def SAt {α : Type} (S : Nat → Prop) (w : World) (R : α → Value → Value → Value → Value → Prop) (ks : List α) (v : Value) : Prop :=
  ∃ a cap, v = .slice a ks.length cap ∧ ks.length ≤ cap ∧ ks.length ≤ 2 ^ 47 ∧ ∀ i (h : i < ks.length), ∃ b off d0 d1 d2 d3, a = some ⟨b, off, none⟩ ∧ S b ∧
    w.cell? ⟨b, off + i * 4, none⟩ = some d0 ∧ w.cell? ⟨b, off + i * 4 + 1, none⟩ = some d1 ∧ w.cell? ⟨b, off + i * 4 + 2, none⟩ = some d2 ∧
    w.cell? ⟨b, off + i * 4 + 3, none⟩ = some d3 ∧ R ks[i] d0 d1 d2 d3

/-- The four cells of a term. -/
def TAt (S : Nat → Prop) (w : World) : (n : Nat) → Tm n → Value → Value → Value → Value → Prop
  | 0, t => t.elim
  | n + 1, (k, m, s, ks) => fun c0 c1 c2 c3 => c0 = .int .i64 k ∧ c1 = .int .i64 m ∧ c2 = .string s ∧ In64 k ∧ In64 m ∧ s.size ≤ 2 ^ 47 ∧ SAt S w (TAt S w n) ks c3

/-- Where the blocks of S are as they were, the terms there are too. -/
theorem SAt.keep {α : Type} {S : Nat → Prop} {w w' : World} {R R' : α → Value → Value → Value → Value → Prop} {ks : List α} {v : Value}
    (h : SAt S w R ks v) (hk : ∀ b, S b → w'.heap[b]? = w.heap[b]?) (hR : ∀ t ∈ ks, ∀ a b c d, R t a b c d → R' t a b c d) : SAt S w' R' ks v := by
  obtain ⟨a, cap, hv, h1, h2, h3⟩ := h
  refine ⟨a, cap, hv, h1, h2, fun i hi => ?_⟩
  obtain ⟨b, off, d0, d1, d2, d3, ha, hS, e0, e1, e2, e3, hr⟩ := h3 i hi
  have hc : ∀ o, w'.cell? ⟨b, o, none⟩ = w.cell? ⟨b, o, none⟩ := fun o => World.cell?_of_block (w := w) (hk b hS)
  exact ⟨b, off, d0, d1, d2, d3, ha, hS, by rw [hc, e0], by rw [hc, e1], by rw [hc, e2], by rw [hc, e3], hR _ (List.getElem_mem hi) _ _ _ _ hr⟩

theorem TAt.keep {S : Nat → Prop} {w w' : World} (hk : ∀ b, S b → w'.heap[b]? = w.heap[b]?) : ∀ {n : Nat} {t : Tm n} {a b c d : Value}, TAt S w n t a b c d → TAt S w' n t a b c d := by
  intro n
  induction n with
  | zero => intro t; exact t.elim
  | succ n ih =>
    rintro ⟨k, m, s, ks⟩ a b c d ⟨h0, h1, h2, hk1, hm, hs, h3⟩
    exact ⟨h0, h1, h2, hk1, hm, hs, h3.keep hk (fun t _ a b c d h => ih h)⟩

theorem SAt.mono {α : Type} {S S' : Nat → Prop} {w : World} {R R' : α → Value → Value → Value → Value → Prop} {ks : List α} {v : Value}
    (h : SAt S w R ks v) (hk : ∀ b, S b → S' b) (hR : ∀ t ∈ ks, ∀ a b c d, R t a b c d → R' t a b c d) : SAt S' w R' ks v := by
  obtain ⟨a, cap, hv, h1, h2, h3⟩ := h
  refine ⟨a, cap, hv, h1, h2, fun i hi => ?_⟩
  obtain ⟨b, off, d0, d1, d2, d3, ha, hS, e0, e1, e2, e3, hr⟩ := h3 i hi
  exact ⟨b, off, d0, d1, d2, d3, ha, hk b hS, e0, e1, e2, e3, hR _ (List.getElem_mem hi) _ _ _ _ hr⟩

theorem TAt.mono {S S' : Nat → Prop} {w : World} (hk : ∀ b, S b → S' b) : ∀ {n : Nat} {t : Tm n} {a b c d : Value}, TAt S w n t a b c d → TAt S' w n t a b c d := by
  intro n
  induction n with
  | zero => intro t; exact t.elim
  | succ n ih =>
    rintro ⟨k, m, s, ks⟩ a b c d ⟨h0, h1, h2, hk1, hm, hs, h3⟩
    exact ⟨h0, h1, h2, hk1, hm, hs, h3.mono hk (fun t _ a b c d h => ih h)⟩

/-- Behind a step that turns nothing below B. -/
theorem TAt.below {S : Nat → Prop} {B : Nat} {w w' : World} (hb : Below B w w') (hS : ∀ b, S b → b < B) {n : Nat} {t : Tm n} {a b c d : Value} (h : TAt S w n t a b c d) : TAt S w' n t a b c d :=
  h.keep fun b hs => hb.block b (hS b hs)
theorem SAt.below {S : Nat → Prop} {B : Nat} {w w' : World} (hb : Below B w w') (hS : ∀ b, S b → b < B) {n : Nat} {ks : List (Tm n)} {v : Value} (h : SAt S w (TAt S w n) ks v) : SAt S w' (TAt S w' n) ks v :=
  h.keep (fun b hs => hb.block b (hS b hs)) fun _ _ _ _ _ _ ht => ht.below hb hS

/-- All that lies below B. -/
abbrev Under (B : Nat) : Nat → Prop := fun b => b < B

/-- Into a later world, all that was there being below the first one's size. -/
theorem TAt.up {w w' : World} (hb : Below w.heap.size w w') {n : Nat} {t : Tm n} {a b c d : Value} (h : TAt (Under w.heap.size) w n t a b c d) : TAt (Under w'.heap.size) w' n t a b c d :=
  (h.below hb fun _ h => h).mono fun _ h => Nat.lt_of_lt_of_le h hb.size
theorem SAt.up {w w' : World} (hb : Below w.heap.size w w') {n : Nat} {ks : List (Tm n)} {v : Value} (h : SAt (Under w.heap.size) w (TAt (Under w.heap.size) w n) ks v) :
    SAt (Under w'.heap.size) w' (TAt (Under w'.heap.size) w' n) ks v :=
  (h.keep (fun b hs => hb.block b hs) fun _ _ _ _ _ _ ht => ht.below hb fun _ h => h).mono (fun _ h => Nat.lt_of_lt_of_le h hb.size) fun _ _ _ _ _ _ ht => ht.mono fun _ h => Nat.lt_of_lt_of_le h hb.size

/-- The shape of a term's four cells. -/
theorem TAt.shape {S : Nat → Prop} {w : World} : ∀ {n : Nat} {t : Tm n} {c0 c1 c2 c3 : Value}, TAt S w n t c0 c1 c2 c3 → ∃ k m s a l c, c0 = .int .i64 k ∧ c1 = .int .i64 m ∧ c2 = .string s ∧ c3 = .slice a l c
  | 0, t, _, _, _, _, _ => t.elim
  | _ + 1, (k, m, s, _), _, _, _, _, ⟨h0, h1, h2, _, _, _, a, cap, h3, _⟩ => ⟨k, m, s, a, _, cap, h0, h1, h2, h3⟩

end Go.Proofs.YtcgbonlffcpofaaGreatDoor
/- The walks of szTerm and szTermS, by induction on the depth. -/
namespace Go.Proofs.YtcgbonlffcpofaaGreatDoor
open Go.RowKit

/-- What szTerm hands back: what is left, or -1. -/
def left (t : Nat) (l : Int) : Int := if (t : Int) ≤ l then l - t else -1

theorem bcell {W w1 : World} (hb : Below W.heap.size W w1) : (∀ b o, b < W.heap.size → w1.cell? ⟨b, o, none⟩ = W.cell? ⟨b, o, none⟩) :=
  fun b o h => hb.cell (p := ⟨b, o, none⟩) h

end Go.Proofs.YtcgbonlffcpofaaGreatDoor
/- The walks of eqTerm and eqTermS where both are the same term, by induction on the depth. -/
namespace Go.Proofs.YtcgbonlffcpofaaGreatDoor
open Go.RowKit

theorem below_two (w : World) (o o' : Obj) : Below w.heap.size w ((w.alloc o).alloc o') :=
  ((Below.refl _ _).alloc (Nat.le_refl _) _).alloc (by simp) _

end Go.Proofs.YtcgbonlffcpofaaGreatDoor
/- The walks of toTerm and toTermS: a copy in new memory, by induction on the depth. -/
namespace Go.Proofs.YtcgbonlffcpofaaGreatDoor
open Go.RowKit

/-- Blocks that are there in w' and weren't in w. -/
abbrev Fresh (w w' : World) : Nat → Prop := fun b => w.heap.size ≤ b ∧ b < w'.heap.size

/-- The cells of a new slice of terms. -/
def zeros (n : Nat) : Array Value := madeCells #[.int .i64 0, .int .i64 0, .string ⟨#[]⟩, .slice none 0 0] n
/-- A row of N cells, block B, none frozen. -/
def Row (B : Nat) (e : TypeId) (N : Nat) (w : World) : Prop := ∃ arr, w.heap[B]? = some (.cells arr e (0, 0)) ∧ arr.size = N

theorem Row.cell {B N : Nat} {e : TypeId} {w : World} (h : Row B e N w) {o : Nat} (ho : o < N) : (∃ v, w.cell? ⟨B, o, none⟩ = some v) := by
  obtain ⟨arr, h1, h2⟩ := h
  exact ⟨arr[o]'(by omega), by simp [World.cell?, h1, h2, ho]⟩
theorem Row.lt {B N : Nat} {e : TypeId} {w : World} (h : Row B e N w) : B < w.heap.size := by
  obtain ⟨arr, h1, h2⟩ := h
  rcases Nat.lt_or_ge B w.heap.size with h | h
  · exact h
  · rw [Array.getElem?_eq_none h] at h1; cases h1
theorem Row.frozen {B N : Nat} {e : TypeId} {w : World} (h : Row B e N w) (o : Nat) : w.frozen? ⟨B, o, none⟩ = false := by
  obtain ⟨arr, h1, h2⟩ := h
  simp [World.frozen?, h1]
theorem Row.keep {B N : Nat} {e : TypeId} {w w' : World} (h : Row B e N w) (hb : w'.heap[B]? = w.heap[B]?) : Row B e N w' := by
  obtain ⟨arr, h1, h2⟩ := h
  exact ⟨arr, by rw [hb, h1], h2⟩
theorem Row.setHeap {B : Nat} {e : TypeId} {w : World} {arr : Array Value} (h1 : w.heap[B]? = some (.cells arr e (0, 0))) (o : Nat) (v : Value) :
    (w.setCell ⟨B, o, none⟩ v).heap[B]? = some (.cells (arr.setIfInBounds o v) e (0, 0)) := by
  simp only [World.setCell, Array.getElem?_modify, if_true, h1, Option.map_some, Option.isSome_none, Bool.false_eq_true, if_false]
theorem Row.set {B N : Nat} {e : TypeId} {w : World} (h : Row B e N w) (o : Nat) (v : Value) : Row B e N (w.setCell ⟨B, o, none⟩ v) := by
  obtain ⟨arr, h1, h2⟩ := h
  exact ⟨arr.setIfInBounds o v, Row.setHeap h1 o v, by simp [h2]⟩
theorem Row.set_get {B N : Nat} {e : TypeId} {w : World} (h : Row B e N w) {o : Nat} (ho : o < N) (v : Value) : (w.setCell ⟨B, o, none⟩ v).cell? ⟨B, o, none⟩ = some v := by
  obtain ⟨arr, h1, h2⟩ := h
  simp [World.cell?, Row.setHeap h1 o v, h2, ho]
theorem Row.set_ne {B N : Nat} {e : TypeId} {w : World} (h : Row B e N w) {o o' : Nat} (hne : o ≠ o') (v : Value) : (w.setCell ⟨B, o, none⟩ v).cell? ⟨B, o', none⟩ = w.cell? ⟨B, o', none⟩ := by
  obtain ⟨arr, h1, h2⟩ := h
  simp [World.cell?, Row.setHeap h1 o v, h1, hne]
theorem Row.new {e : TypeId} (w : World) (arr : Array Value) : Row w.heap.size e arr.size (w.alloc (.cells arr e)) := ⟨arr, by show (w.heap.push _)[_]? = _; simp, rfl⟩

theorem frozen_of_heap {w : World} {b : Nat} {arr : Array Value} {e : TypeId} (h : w.heap[b]? = some (.cells arr e (0, 0))) (o : Nat) : w.frozen? ⟨b, o, none⟩ = false := by simp [World.frozen?, h]

end Go.Proofs.YtcgbonlffcpofaaGreatDoor
