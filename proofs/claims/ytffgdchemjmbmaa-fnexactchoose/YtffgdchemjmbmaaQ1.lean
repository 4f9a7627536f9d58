/- What all frames have in common. -/
import Derived.Test.YtffgdchemjmbmaaRows
import Derived.ProofKit
import Derived.Below
import Derived.WalkKit
import Derived.BigQuiet
import Derived.OpenShut
import Derived.SizedLaws
import Derived.Lib.SmallJoins
import Derived.WalkSpells
import Derived.WalkLawsBesides
import Derived.Deep.OwnRows
namespace Go.Proofs.Ytffgdchemjmbmaa
open Go.ChangeShapes Go.WideShapes Go.ChangeAt Go.RowKit

theorem own : ownKnob Try.prog.godebug = none := by kernel_rfl
theorem laidOut : laidOutB Try.prog = true := by kernel_rfl

end Go.Proofs.Ytffgdchemjmbmaa
/- What both families of texts share: facts kept out of the walk's sight, worlds in which nothing below a bound has turned, a new block's cells. -/
namespace Go.Proofs.Ytffgdchemjmbmaa
open Go.RowKit

theorem hide {p : Prop} (h : p) : Hid p := h
theorem unhide {p : Prop} (h : Hid p) : p := h
/-- A world in which nothing below B has turned. -/
structure LaterW (B : Nat) (w : World) where
  wd : World
  be : Below B w wd

/-- A region that draws its order, whose operations only read and whose callees turn nothing below B: one walk, in the order of the text. -/
theorem wp_region_later {P : Program} {id : Nat} {Q : Exit → Act → World → Prop} {a : Act} {w : World} {l : List Oper} (B : Nat) (hm : P.follows .mixedOrders = true) (hB : Region.lexB .any l.toArray = true)
    (h : wpQuiet P l.toArray (fun w' => ∃ x : LaterW B w, w' = x.wd) (fun a' => ∀ w', (∃ x : LaterW B w, w' = x.wd) → Q .normal a' w') l a) : (Code.region id l.toArray true).wp P Q a w :=
  wp_region_quiet (C := fun w' => ∃ x : LaterW B w, w' = x.wd) hm hB ⟨⟨_, (Below.refl _ _).drew⟩, rfl⟩ (by simpa using h)

theorem Calls.later {P : Program} {f : FuncId} {args : Array Value} {B : Nat} {w : World} {x : LaterW B w} {v : Value} (hB : B ≤ w.heap.size)
    (h : Calls P f args x.wd fun e w' => e = .returned v ∧ Below x.wd.heap.size x.wd w') : Calls P f args x.wd fun e w'' => e = .returned v ∧ ∃ y : LaterW B w, w'' = y.wd :=
  h.mono fun _ w'' ⟨he, hb⟩ => ⟨he, ⟨w'', x.be.trans (hb.mono (Nat.le_trans hB x.be.size))⟩, rfl⟩

end Go.Proofs.Ytffgdchemjmbmaa
/- Plain definitions: trees of bounded depth, how they lie in memory, what becomes of that when the world grows. Nothing of the program is named here. -/
namespace Go.Proofs.Ytffgdchemjmbmaa
open Go.RowKit

/-- A term's tree, at most so deep: its kind, its number, its text, its kids. -/
def Tm : Nat → Type
  | 0 => Empty
  | n + 1 => Int × Int × ByteArray × List (Tm n)

/-- A number that an int can hold. -/
def In64 (n : Int) : Prop := -9223372036854775808 ≤ n ∧ n ≤ 9223372036854775807

/-- A slice whose elements are four cells each, all in blocks of which S holds; element i stands for ks[i]. -/
def SAt {α : Type} (S : Nat → Prop) (w : World) (R : α → Value → Value → Value → Value → Prop) (ks : List α) (v : Value) : Prop :=
  ∃ a cap, v = .slice a ks.length cap ∧ ks.length ≤ cap ∧ ks.length ≤ 2 ^ 47 ∧ ∀ i (h : i < ks.length), ∃ b off d0 d1 d2 d3, a = some ⟨b, off, none⟩ ∧ S b ∧
    w.cell? ⟨b, off + i * 4, none⟩ = some d0 ∧ w.cell? ⟨b, off + i * 4 + 1, none⟩ = some d1 ∧ w.cell? ⟨b, off + i * 4 + 2, none⟩ = some d2 ∧
    w.cell? ⟨b, off + i * 4 + 3, none⟩ = some d3 ∧ R ks[i] d0 d1 d2 d3

/-- The four cells of a term. -/
def TAt (S : Nat → Prop) (w : World) : (n : Nat) → Tm n → Value → Value → Value → Value → Prop
  | 0, t => t.elim
  | n + 1, (k, m, s, ks) => fun c0 c1 c2 c3 => c0 = .int .i64 k ∧ c1 = .int .i64 m ∧ c2 = .string s ∧ In64 k ∧ In64 m ∧ s.size ≤ 2 ^ 47 ∧ SAt S w (TAt S w n) ks c3

/-- Where the blocks of S are as they were, the terms there are too. -/
theorem SAt.keep {α : Type} {S : Nat → Prop} {w w' : World} {R R' : α → Value → Value → Value → Value → Prop} {ks : List α} {v : Value}
    (h : SAt S w R ks v) (hk : ∀ b, S b → w'.heap[b]? = w.heap[b]?) (hR : ∀ t ∈ ks, ∀ a b c d, R t a b c d → R' t a b c d) : SAt S w' R' ks v := by
  obtain ⟨a, cap, hv, h1, h2, h3⟩ := h
  refine ⟨a, cap, hv, h1, h2, fun i hi => ?_⟩
  obtain ⟨b, off, d0, d1, d2, d3, ha, hS, e0, e1, e2, e3, hr⟩ := h3 i hi
  have hc : ∀ o, w'.cell? ⟨b, o, none⟩ = w.cell? ⟨b, o, none⟩ := fun o => World.cell?_of_block (w := w) (hk b hS)
  exact ⟨b, off, d0, d1, d2, d3, ha, hS, by rw [hc, e0], by rw [hc, e1], by rw [hc, e2], by rw [hc, e3], hR _ (List.getElem_mem hi) _ _ _ _ hr⟩

theorem TAt.keep {S : Nat → Prop} {w w' : World} (hk : ∀ b, S b → w'.heap[b]? = w.heap[b]?) : ∀ {n : Nat} {t : Tm n} {a b c d : Value}, TAt S w n t a b c d → TAt S w' n t a b c d := by
  intro n
  induction n with
  | zero => intro t; exact t.elim
  | succ n ih =>
    rintro ⟨k, m, s, ks⟩ a b c d ⟨h0, h1, h2, hk1, hm, hs, h3⟩
    exact ⟨h0, h1, h2, hk1, hm, hs, h3.keep hk (fun t _ a b c d h => ih h)⟩

theorem SAt.mono {α : Type} {S S' : Nat → Prop} {w : World} {R R' : α → Value → Value → Value → Value → Prop} {ks : List α} {v : Value}
    (h : SAt S w R ks v) (hk : ∀ b, S b → S' b) (hR : ∀ t ∈ ks, ∀ a b c d, R t a b c d → R' t a b c d) : SAt S' w R' ks v := by
  obtain ⟨a, cap, hv, h1, h2, h3⟩ := h
  refine ⟨a, cap, hv, h1, h2, fun i hi => ?_⟩
  obtain ⟨b, off, d0, d1, d2, d3, ha, hS, e0, e1, e2, e3, hr⟩ := h3 i hi
  exact ⟨b, off, d0, d1, d2, d3, ha, hk b hS, e0, e1, e2, e3, hR _ (List.getElem_mem hi) _ _ _ _ hr⟩

theorem TAt.mono {S S' : Nat → Prop} {w : World} (hk : ∀ b, S b → S' b) : ∀ {n : Nat} {t : Tm n} {a b c d : Value}, TAt S w n t a b c d → TAt S' w n t a b c d := by
  intro n
  induction n with
  | zero => intro t; exact t.elim
  | succ n ih =>
    rintro ⟨k, m, s, ks⟩ a b c d ⟨h0, h1, h2, hk1, hm, hs, h3⟩
    exact ⟨h0, h1, h2, hk1, hm, hs, h3.mono hk (fun t _ a b c d h => ih h)⟩

/-- Behind a step that turns nothing below B. -/
theorem TAt.below {S : Nat → Prop} {B : Nat} {w w' : World} (hb : Below B w w') (hS : ∀ b, S b → b < B) {n : Nat} {t : Tm n} {a b c d : Value} (h : TAt S w n t a b c d) : TAt S w' n t a b c d :=
  h.keep fun b hs => hb.block b (hS b hs)
theorem SAt.below {S : Nat → Prop} {B : Nat} {w w' : World} (hb : Below B w w') (hS : ∀ b, S b → b < B) {n : Nat} {ks : List (Tm n)} {v : Value} (h : SAt S w (TAt S w n) ks v) : SAt S w' (TAt S w' n) ks v :=
  h.keep (fun b hs => hb.block b (hS b hs)) fun _ _ _ _ _ _ ht => ht.below hb hS

/-- All that lies below B. -/
abbrev Under (B : Nat) : Nat → Prop := fun b => b < B

/-- Into a later world, all that was there being below the first one's size. -/
theorem TAt.up {w w' : World} (hb : Below w.heap.size w w') {n : Nat} {t : Tm n} {a b c d : Value} (h : TAt (Under w.heap.size) w n t a b c d) : TAt (Under w'.heap.size) w' n t a b c d :=
  (h.below hb fun _ h => h).mono fun _ h => Nat.lt_of_lt_of_le h hb.size
theorem SAt.up {w w' : World} (hb : Below w.heap.size w w') {n : Nat} {ks : List (Tm n)} {v : Value} (h : SAt (Under w.heap.size) w (TAt (Under w.heap.size) w n) ks v) :
    SAt (Under w'.heap.size) w' (TAt (Under w'.heap.size) w' n) ks v :=
  (h.keep (fun b hs => hb.block b hs) fun _ _ _ _ _ _ ht => ht.below hb fun _ h => h).mono (fun _ h => Nat.lt_of_lt_of_le h hb.size) fun _ _ _ _ _ _ ht => ht.mono fun _ h => Nat.lt_of_lt_of_le h hb.size

end Go.Proofs.Ytffgdchemjmbmaa
/- What the frames of the laws on terms have in common: a term that came in is a tree that lies in memory. -/
namespace Go.Proofs.Ytffgdchemjmbmaa
open Go.ChangeShapes Go.WideShapes Go.ChangeAt Go.RowKit Go.Joins

theorem cellsInt : Try.prog.cellsOf 3 = 1 := by kernel_rfl
theorem in64_of {n : Int} (h : (Lit.int .i64 n).wf = true) : In64 n := by
  have := bounds_i64 h
  exact this
theorem list_of {α : Type} {R : Nat → α → Prop} : ∀ (len : Nat), (∀ i, i < len → ∃ t, R i t) → ∃ ks : List α, ks.length = len ∧ ∀ i (h : i < ks.length), R i ks[i]
  | 0, _ => ⟨[], rfl, fun i h => by simp at h⟩
  | len + 1, H => by
    obtain ⟨ks, h1, h2⟩ := list_of len fun i h => H i (by omega)
    obtain ⟨t, ht⟩ := H len (by omega)
    refine ⟨ks ++ [t], by simp [h1], fun i h => ?_⟩
    by_cases hi : i < ks.length
    · rw [List.getElem_append_left hi]; exact h2 i hi
    · have : i = ks.length := by simp at h; omega
      subst this
      simp only [List.getElem_concat_length]
      rw [h1]; exact ht

section
variable {H : Type} {enc : TypeId × Value → H}

end
end Go.Proofs.Ytffgdchemjmbmaa
/- The walks of szTerm and szTermS, by induction on the depth. -/
namespace Go.Proofs.Ytffgdchemjmbmaa
open Go.RowKit

theorem bcell {W w1 : World} (hb : Below W.heap.size W w1) : (∀ b o, b < W.heap.size → w1.cell? ⟨b, o, none⟩ = W.cell? ⟨b, o, none⟩) :=
  fun b o h => hb.cell (p := ⟨b, o, none⟩) h

end Go.Proofs.Ytffgdchemjmbmaa
/- The walks of toTerm and toTermS: a copy in new memory, by induction on the depth. -/
namespace Go.Proofs.Ytffgdchemjmbmaa
open Go.RowKit

/-- Blocks that are there in w' and weren't in w. -/
abbrev Fresh (w w' : World) : Nat → Prop := fun b => w.heap.size ≤ b ∧ b < w'.heap.size

/-- A row of N cells, block B, none frozen. -/
def Row (B : Nat) (e : TypeId) (N : Nat) (w : World) : Prop := ∃ arr, w.heap[B]? = some (.cells arr e (0, 0)) ∧ arr.size = N

theorem Row.cell {B N : Nat} {e : TypeId} {w : World} (h : Row B e N w) {o : Nat} (ho : o < N) : (∃ v, w.cell? ⟨B, o, none⟩ = some v) := by
  obtain ⟨arr, h1, h2⟩ := h
  exact ⟨arr[o]'(by omega), by simp [World.cell?, h1, h2, ho]⟩
theorem Row.lt {B N : Nat} {e : TypeId} {w : World} (h : Row B e N w) : B < w.heap.size := by
  obtain ⟨arr, h1, h2⟩ := h
  rcases Nat.lt_or_ge B w.heap.size with h | h
  · exact h
  · rw [Array.getElem?_eq_none h] at h1; cases h1
theorem Row.frozen {B N : Nat} {e : TypeId} {w : World} (h : Row B e N w) (o : Nat) : w.frozen? ⟨B, o, none⟩ = false := by
  obtain ⟨arr, h1, h2⟩ := h
  simp [World.frozen?, h1]
theorem Row.keep {B N : Nat} {e : TypeId} {w w' : World} (h : Row B e N w) (hb : w'.heap[B]? = w.heap[B]?) : Row B e N w' := by
  obtain ⟨arr, h1, h2⟩ := h
  exact ⟨arr, by rw [hb, h1], h2⟩
theorem Row.setHeap {B : Nat} {e : TypeId} {w : World} {arr : Array Value} (h1 : w.heap[B]? = some (.cells arr e (0, 0))) (o : Nat) (v : Value) :
    (w.setCell ⟨B, o, none⟩ v).heap[B]? = some (.cells (arr.setIfInBounds o v) e (0, 0)) := by
  simp only [World.setCell, Array.getElem?_modify, if_true, h1, Option.map_some, Option.isSome_none, Bool.false_eq_true, if_false]
theorem Row.set {B N : Nat} {e : TypeId} {w : World} (h : Row B e N w) (o : Nat) (v : Value) : Row B e N (w.setCell ⟨B, o, none⟩ v) := by
  obtain ⟨arr, h1, h2⟩ := h
  exact ⟨arr.setIfInBounds o v, Row.setHeap h1 o v, by simp [h2]⟩
theorem Row.set_get {B N : Nat} {e : TypeId} {w : World} (h : Row B e N w) {o : Nat} (ho : o < N) (v : Value) : (w.setCell ⟨B, o, none⟩ v).cell? ⟨B, o, none⟩ = some v := by
  obtain ⟨arr, h1, h2⟩ := h
  simp [World.cell?, Row.setHeap h1 o v, h2, ho]
theorem Row.new {e : TypeId} (w : World) (arr : Array Value) : Row w.heap.size e arr.size (w.alloc (.cells arr e)) := ⟨arr, by show (w.heap.push _)[_]? = _; simp, rfl⟩

end Go.Proofs.Ytffgdchemjmbmaa
/- Rows of elements of K cells: what lies in memory, for any kind of element. -/
namespace Go.Proofs.Ytffgdchemjmbmaa
open Go.RowKit

/-- A slice whose elements take K cells each; each stands for a member of ks, as R says. -/
def RAt {α : Type} (K : Nat) (S : Nat → Prop) (w : World) (R : α → List Value → Prop) (ks : List α) (v : Value) : Prop :=
  ∃ a cap, v = .slice a ks.length cap ∧ ks.length ≤ cap ∧ ks.length ≤ 2 ^ 47 ∧ ∀ i (h : i < ks.length), ∃ b off ds, a = some ⟨b, off, none⟩ ∧ S b ∧ ds.length = K ∧
    (∀ j, j < K → w.cell? ⟨b, off + i * K + j, none⟩ = ds[j]?) ∧ R ks[i] ds
theorem RAt.keep {α : Type} {K : Nat} {S : Nat → Prop} {w w' : World} {R R' : α → List Value → Prop} {ks : List α} {v : Value} (h : RAt K S w R ks v) (hk : ∀ b, S b → w'.heap[b]? = w.heap[b]?) (hR : ∀ t ∈ ks, ∀ ds, R t ds → R' t ds) : RAt K S w' R' ks v := by
  obtain ⟨a, cap, hv, h1, h2, h3⟩ := h
  refine ⟨a, cap, hv, h1, h2, fun i hi => ?_⟩
  obtain ⟨b, off, ds, e0, e1, e2, e3, hr⟩ := h3 i hi
  exact ⟨b, off, ds, e0, e1, e2, fun j hj => (World.cell?_of_block (w := w) (hk b e1)).trans (e3 j hj), hR _ (List.getElem_mem hi) _ hr⟩
theorem RAt.mono {α : Type} {K : Nat} {S S' : Nat → Prop} {w : World} {R R' : α → List Value → Prop} {ks : List α} {v : Value} (h : RAt K S w R ks v) (hk : ∀ b, S b → S' b) (hR : ∀ t ∈ ks, ∀ ds, R t ds → R' t ds) : RAt K S' w R' ks v := by
  obtain ⟨a, cap, hv, h1, h2, h3⟩ := h
  refine ⟨a, cap, hv, h1, h2, fun i hi => ?_⟩
  obtain ⟨b, off, ds, e0, e1, e2, e3, hr⟩ := h3 i hi
  exact ⟨b, off, ds, e0, hk b e1, e2, e3, hR _ (List.getElem_mem hi) _ hr⟩
end Go.Proofs.Ytffgdchemjmbmaa
/- The laws' markText: a function of its number. -/
namespace Go.Proofs.Ytffgdchemjmbmaa
open Go.RowKit Go.Deep

/-- The digits ahead of a text. -/
def digF : Nat → Nat → ByteArray → ByteArray
  | 0, _, o => o
  | f + 1, k, o => if k = 0 then o else digF f (k / 10) (strOfNums [((48 + k % 10 : Nat) : Int)] ++ o)
/-- The mark of a number. -/
def mtext (k : Nat) : ByteArray := if k = 0 then ⟨#[109, 48]⟩ else ⟨#[109]⟩ ++ digF k k ⟨#[]⟩

end Go.Proofs.Ytffgdchemjmbmaa
/- How many terms a term is, and how deep: l01Measure, l01Fits. -/
namespace Go.Proofs.Ytffgdchemjmbmaa
open Go.RowKit

def siz : (n : Nat) → Tm n → Nat
  | 0, t => t.elim
  | n + 1, (_, _, _, ks) => 1 + (ks.map (siz n)).sum
def sizS {n : Nat} (ks : List (Tm n)) : Nat := (ks.map (siz n)).sum
end Go.Proofs.Ytffgdchemjmbmaa
/- The laws' markTermS: what it marks. -/
namespace Go.Proofs.Ytffgdchemjmbmaa
open Go.RowKit Go.Deep

def kidsOf {n : Nat} (t : Tm (n + 1)) : List (Tm n) := t.2.2.2
/-- Marked from k on. -/
def MkdS (w : World) : (n : Nat) → Nat → Nat → List (Tm n) → Value → Nat → Prop
  | 0, _, _, ks, v, _ => ∃ a cap, v = .slice a ks.length cap
  | n + 1, lo, hi, ks, v, k => ∃ a cap, v = .slice a ks.length cap ∧ (ks = [] ∨ ∃ R, a = some ⟨R, 0, none⟩ ∧ lo ≤ R ∧ R < hi ∧ ∀ i (h : i < ks.length), ∃ v3 : Value, w.cell? ⟨R, i * 4, none⟩ = some (.int .i64 ((k + 3 * sizS (ks.take i) : Nat) : Int)) ∧
      w.cell? ⟨R, i * 4 + 1, none⟩ = some (.int .i64 ((k + 3 * sizS (ks.take i) + 1 : Nat) : Int)) ∧ w.cell? ⟨R, i * 4 + 2, none⟩ = some (.string (mtext (k + 3 * sizS (ks.take i) + 2))) ∧ w.cell? ⟨R, i * 4 + 3, none⟩ = some v3 ∧
      MkdS w n lo hi (kidsOf ks[i]) v3 (k + 3 * sizS (ks.take i) + 3))
theorem MkdS.keep {w w' : World} : ∀ {n lo hi lo' hi' : Nat} {ks : List (Tm n)} {v : Value} {k : Nat}, MkdS w n lo hi ks v k → (∀ b, lo ≤ b → b < hi → w'.heap[b]? = w.heap[b]?) → lo' ≤ lo → hi ≤ hi' → MkdS w' n lo' hi' ks v k
  | 0, _, _, _, _, _, _, _, h, _, _, _ => h
  | n + 1, lo, hi, lo', hi', ks, v, k, ⟨a, cap, hv, h⟩, hk, hl, hh => by
    refine ⟨a, cap, hv, ?_⟩
    rcases h with h | ⟨R, h1, h2, h3, h4⟩
    · exact .inl h
    · refine .inr ⟨R, h1, by omega, by omega, fun i hi' => ?_⟩
      obtain ⟨v3, e0, e1, e2, e3, hm⟩ := h4 i hi'
      have hc : ∀ o, w'.cell? ⟨R, o, none⟩ = w.cell? ⟨R, o, none⟩ := fun o => World.cell?_of_block (w := w) (hk R h2 h3)
      exact ⟨v3, (hc _).trans e0, (hc _).trans e1, (hc _).trans e2, (hc _).trans e3, hm.keep hk hl hh⟩

/-- Only blocks between lo and hi, and new ones, were written. -/
structure Out (lo hi : Nat) (w w' : World) : Prop where
  os : w'.os = w.os
  tape : w'.tape = w.tape
  output : w'.output = w.output
  size : w.heap.size ≤ w'.heap.size
  block : ∀ b, b < w.heap.size → b < lo ∨ hi ≤ b → w'.heap[b]? = w.heap[b]?
theorem Out.refl (lo hi : Nat) (w : World) : Out lo hi w w := ⟨rfl, rfl, rfl, Nat.le_refl _, fun _ _ _ => rfl⟩
theorem Out.trans {lo hi : Nat} {a b c : World} (h : Out lo hi a b) (k : Out lo hi b c) : Out lo hi a c :=
  ⟨k.os.trans h.os, k.tape.trans h.tape, k.output.trans h.output, Nat.le_trans h.size k.size, fun i hi hg => (k.block i (Nat.lt_of_lt_of_le hi h.size) hg).trans (h.block i hi hg)⟩
theorem Out.set {lo hi R : Nat} {a w : World} (h : Out lo hi a w) (h1 : lo ≤ R) (h2 : R < hi) (o : Nat) (v : Value) : Out lo hi a (w.setCell ⟨R, o, none⟩ v) :=
  h.trans ⟨rfl, rfl, rfl, by simp, fun k _ hg => Below.heap_setCell _ _ _ _ (by show k ≠ R; omega)⟩
end Go.Proofs.Ytffgdchemjmbmaa
/- Rows of ints: how they lie in memory; toIntS, eqIntS, markIntS, heldIntS. -/
namespace Go.Proofs.Ytffgdchemjmbmaa
open Go.RowKit Go.Deep

/-- A slice of ints. -/
def IntsAt (S : Nat → Prop) (w : World) (xs : List Int) (v : Value) : Prop :=
  ∃ a cap, v = .slice a xs.length cap ∧ xs.length ≤ cap ∧ xs.length ≤ 2 ^ 47 ∧ ∀ i (h : i < xs.length), ∃ b off, a = some ⟨b, off, none⟩ ∧ S b ∧ w.cell? ⟨b, off + i, none⟩ = some (.int .i64 xs[i]) ∧ In64 xs[i]
theorem IntsAt.keep {S : Nat → Prop} {w w' : World} (hk : ∀ b, S b → w'.heap[b]? = w.heap[b]?) {xs : List Int} {v : Value} (h : IntsAt S w xs v) : IntsAt S w' xs v := by
  obtain ⟨a, cap, hv, h1, h2, h3⟩ := h
  refine ⟨a, cap, hv, h1, h2, fun i hi => ?_⟩
  obtain ⟨b, off, e0, e1, e2, e3⟩ := h3 i hi
  exact ⟨b, off, e0, e1, (World.cell?_of_block (w := w) (hk b e1)).trans e2, e3⟩
theorem IntsAt.mono {S S' : Nat → Prop} {w : World} (hk : ∀ b, S b → S' b) {xs : List Int} {v : Value} (h : IntsAt S w xs v) : IntsAt S' w xs v := by
  obtain ⟨a, cap, hv, h1, h2, h3⟩ := h
  refine ⟨a, cap, hv, h1, h2, fun i hi => ?_⟩
  obtain ⟨b, off, e0, e1, e2, e3⟩ := h3 i hi
  exact ⟨b, off, e0, hk b e1, e2, e3⟩
theorem IntsAt.up {w w' : World} (hb : Below w.heap.size w w') {xs : List Int} {v : Value} (h : IntsAt (Under w.heap.size) w xs v) : IntsAt (Under w'.heap.size) w' xs v :=
  (h.keep fun b hb' => hb.block b hb').mono fun _ hb' => Nat.lt_of_lt_of_le hb' hb.size
theorem IntsAt.form {S : Nat → Prop} {w : World} {xs : List Int} {v : Value} (h : IntsAt S w xs v) : ∃ a cap, v = .slice a xs.length cap ∧ xs.length ≤ 2 ^ 47 := by
  obtain ⟨a, cap, h, _, h2, _⟩ := h
  exact ⟨a, cap, h, h2⟩
/-- The cell of a place's element. -/
theorem IntsAt.at {S : Nat → Prop} {w : World} {xs : List Int} {a : Option Addr} {l cap : Nat} (h : IntsAt S w xs (.slice a l cap)) (i : Nat) (hi : i < xs.length) : ∃ b off, a = some ⟨b, off, none⟩ ∧ S b ∧ w.cell? ⟨b, off + i, none⟩ = some (.int .i64 xs[i]) ∧ In64 xs[i] := by
  obtain ⟨a', cap', hv, h1, h2, h3⟩ := h
  cases hv
  exact h3 i hi
theorem IntsAt.in64 {S : Nat → Prop} {w : World} {xs : List Int} {v : Value} (h : IntsAt S w xs v) (i : Nat) (hi : i < xs.length) : In64 xs[i] := by
  obtain ⟨a', cap', hv, h1, h2, h3⟩ := h
  obtain ⟨_, _, _, _, _, h4⟩ := h3 i hi
  exact h4

/-- A row of ints of its own, in a block between lo and hi. -/
def OwnI (w : World) (lo hi : Nat) (n : Nat) (v : Value) : Prop := ∃ a cap, v = .slice a n cap ∧ (n = 0 ∨ ∃ R cs, a = some ⟨R, 0, none⟩ ∧ w.heap[R]? = some (.cells cs 3 (0, 0)) ∧ lo ≤ R ∧ R < hi ∧ n ≤ cs.size)
theorem run_mkInts (n : Nat) (hn : n ≤ 1048576) (w : World) : (Instr.makeSlice 22 (.int .i64 n) (.int .i64 n)).run Try.prog w =
    .ok (.slice (some ⟨w.heap.size, 0, none⟩) n n) (w.alloc (.cells (madeCells #[.int .i64 0] n) 3)) := by
  have := run_make (P := Try.prog) w 22 3 (Try.prog.types[3]!) (.int .i64 0) (by kernel_rfl) (by kernel_rfl) (by kernel_rfl) .i64 .i64 n n (by omega) (Int.le_refl _)
    (by rw [show (Try.prog.types[3]!).bytes = 8 from by kernel_rfl]; omega) (by omega)
  rw [this, show (Try.prog.types[3]!).size = 1 from by kernel_rfl, Nat.mul_one]
  rfl

/-- The first k ints over, in block B. -/
def IntsTo (B : Nat) (xs : List Int) (k : Nat) (w wr : World) : Prop := Below B w wr ∧ Row B 3 xs.length wr ∧ ∀ j (hj : j < xs.length), j < k → wr.cell? ⟨B, j, none⟩ = some (.int .i64 xs[j])
theorem IntsTo.next {B k : Nat} {xs : List Int} {w wr : World} (h : IntsTo B xs k w wr) (hk : k < xs.length) : IntsTo B xs (k + 1) w (wr.setCell ⟨B, k, none⟩ (.int .i64 xs[k])) := by
  obtain ⟨hb, hrow, hall⟩ := h
  refine ⟨hb.setCell (p := ⟨B, k, none⟩) (Nat.le_refl B) _, hrow.set k _, fun j hj hjk => ?_⟩
  by_cases hjk2 : j = k
  · subst hjk2; exact hrow.set_get hj _
  · exact (World.cell?_setCell_other _ _ _ _ (by intro e; cases e; exact hjk2 rfl)).trans (hall j hj (by omega))

set_option maxRecDepth 40000 in
set_option maxHeartbeats 1000000 in
theorem toInts_any (xs : List Int) (v : Value) (w : World) (hv : IntsAt (Under w.heap.size) w xs v) (hn : xs.length ≤ 1048576) :
    Calls Try.prog 5 #[v] w fun e w' => ∃ u, e = .returned u ∧ IntsAt (Fresh w w') w' xs u ∧ OwnI w' w.heap.size w'.heap.size xs.length u ∧ Below w.heap.size w w' := by
  obtain ⟨a, cap, rfl, hcap⟩ := hv.form
  have hmk := run_mkInts xs.length hn
  go_enter Try.func5, Try.ntmps5
  go_wp2_with fail
  clear hmk
  go_loopw [4] (fun iv wr => ∃ k : Nat, k ≤ xs.length ∧ iv = .int .i64 k ∧ IntsTo w.heap.size xs k w wr) (fun iv _ => xs.length - (intOf iv).toNat)
  case atStart =>
    refine ⟨0, by omega, rfl, (Below.refl _ _).alloc (Nat.le_refl _) _, ?_, fun j _ hj => absurd hj (by omega)⟩
    have := Row.new (e := 3) w (madeCells #[.int .i64 0] xs.length)
    rw [size_madeCells] at this
    simpa using this
  case round =>
    obtain ⟨k, hk, rfl, hto⟩ := hrel
    by_cases hlt : k < xs.length
    · obtain ⟨b, off, rfl, hS, e0, hin⟩ := (hv.up hto.1).at k hlt
      have hrow := hto.2.1
      obtain ⟨v0, x0⟩ := hrow.cell (o := k) hlt
      have z := hrow.frozen k
      have KEY := hide (hto.next hlt)
      clear hto hrow
      go_wp2_with fail
      go_roundw
      case rel => exact ⟨k + 1, hlt, by go_num, unhide KEY⟩
      case measure => simp [intOf]; omega
    · have hkk : k = xs.length := by omega
      subst hkk
      obtain ⟨hb, hrow, hall⟩ := hto
      have hlt2 := hrow.lt
      go_wp2_with fail
      go_ret
      obtain ⟨arr, ha, has⟩ := hrow
      exact ⟨_, rfl, ⟨_, _, rfl, Nat.le_refl _, by omega, fun i hi => ⟨_, 0, rfl, ⟨Nat.le_refl _, hlt2⟩, by rw [Nat.zero_add]; exact hall i hi hi, hv.in64 i hi⟩⟩, ⟨_, _, rfl, .inr ⟨_, arr, rfl, ha, Nat.le_refl _, hlt2, by omega⟩⟩, hb⟩

set_option maxRecDepth 40000 in
set_option maxHeartbeats 1000000 in
theorem eqInts_any (xs : List Int) (u v : Value) (w : World) (hu : IntsAt (Under w.heap.size) w xs u) (hv : IntsAt (Under w.heap.size) w xs v) :
    Calls Try.prog 7 #[u, v] w fun e w' => e = .returned (.bool true) ∧ Below w.heap.size w w' := by
  obtain ⟨a, cap, rfl, hcap⟩ := hu.form
  obtain ⟨a', cap', rfl, _⟩ := hv.form
  have hl1 : ((xs.length : Int) != (xs.length : Int)) = false := by simp
  go_enter Try.func7, Try.ntmps7
  go_wp2_with fail
  go_loopw [5] (fun iv wr => ∃ k : Nat, k ≤ xs.length ∧ iv = .int .i64 k ∧ Below w.heap.size w wr) (fun iv _ => xs.length - (intOf iv).toNat)
  case atStart => exact ⟨0, by omega, rfl, Below.refl _ _⟩
  case round =>
    obtain ⟨k, hk, rfl, hb⟩ := hrel
    by_cases hlt : k < xs.length
    · obtain ⟨b, off, rfl, hS, e0, hin⟩ := hu.at k hlt
      obtain ⟨b', off', rfl, hS', e0', _⟩ := hv.at k hlt
      have e9 : (xs[k] != xs[k]) = false := by simp
      have F0 := fun x : LaterW w.heap.size wr => (bcell (hb.trans x.be) b _ hS).trans e0
      have G0 := fun x : LaterW w.heap.size wr => (bcell (hb.trans x.be) b' _ hS').trans e0'
      clear e0 e0'
      go_wp2_with fail
      haveI hne : Nonempty (LaterW w.heap.size wr) := ⟨⟨wr, Below.refl _ _⟩⟩
      refine wp_region_later w.heap.size (by kernel_rfl) (by kernel_rfl) ?_
      repeat (go_big_quiet_step (fail))
      refine wpQuiet_nil ?_
      rintro _ ⟨⟨wq, hq⟩, rfl⟩
      go_wp2_with fail
      go_roundw
      case rel => exact ⟨k + 1, hlt, by go_num, hb.trans hq⟩
      case measure => simp [intOf]; omega
    · go_wp2_with fail
      go_ret
      exact ⟨rfl, hb⟩

end Go.Proofs.Ytffgdchemjmbmaa
/- Who gets the next turn: what it is, and spec.Choose. -/
namespace Go.Proofs.Ytffgdchemjmbmaa
open Go.RowKit Go.Deep

/-- Who is chosen, and since then. -/
def choV (hs ns ls : List Int) (s : Int) : Int × Int :=
  if 0 < hs.length then (hs.getD 0 0, s) else if 0 < ls.length ∧ (ns.length = 0 ∨ 8 ≤ s) then (ls.getD 0 0, 0) else if 0 < ns.length then (ns.getD 0 0, wrap64 (s + 1)) else (0, s)
theorem getD_of {xs : List Int} {i : Nat} (h : i < xs.length) : xs.getD i 0 = xs[i] := by simp [List.getD_eq_getElem?_getD, List.getElem?_eq_getElem h]
set_option maxRecDepth 40000 in
set_option maxHeartbeats 1000000 in
theorem sChoose_any (hs ns ls : List Int) (u v x : Value) (s : Int) (w : World) (hu : IntsAt (Under w.heap.size) w hs u) (hv : IntsAt (Under w.heap.size) w ns v) (hx : IntsAt (Under w.heap.size) w ls x) :
    Calls Try.prog 4 #[u, v, x, .int .i64 s] w fun e w' => e = .returned (.tuple #[.int .i64 (choV hs ns ls s).1, .int .i64 (choV hs ns ls s).2]) ∧ Below w.heap.size w w' := by
  obtain ⟨ua, uc, rfl, _⟩ := hu.form
  obtain ⟨va, vc, rfl, _⟩ := hv.form
  obtain ⟨xa, xc, rfl, _⟩ := hx.form
  by_cases h1 : 0 < hs.length
  · obtain ⟨b, off, rfl, hS, e0, hin⟩ := hu.at 0 h1
    have hr : choV hs ns ls s = (hs[0], s) := by unfold choV; rw [if_pos h1, getD_of h1]
    have h1i : (hs.length : Int) > 0 := by omega
    rw [hr]
    simp only [Nat.add_zero] at e0
    go_enter Try.func4, Try.ntmps4
    go_wp2_with fail
    go_ret2
    exact ⟨rfl, Below.refl _ _⟩
  have h1i : ¬ (hs.length : Int) > 0 := by omega
  by_cases h2 : 0 < ls.length
  · obtain ⟨b, off, rfl, hS, e0, hin⟩ := hx.at 0 h2
    have h2i : (ls.length : Int) > 0 := by omega
    simp only [Nat.add_zero] at e0
    by_cases h3 : ns.length = 0
    · have hr : choV hs ns ls s = (ls[0], 0) := by unfold choV; rw [if_neg h1, if_pos ⟨h2, .inl h3⟩, getD_of h2]
      have h3i : (ns.length : Int) = 0 := by omega
      rw [hr]
      go_enter Try.func4, Try.ntmps4
      go_wp2_with fail
      go_ret2
      exact ⟨rfl, Below.refl _ _⟩
    have h3i : ¬ (ns.length : Int) = 0 := by omega
    by_cases h4 : 8 ≤ s
    · have hr : choV hs ns ls s = (ls[0], 0) := by unfold choV; rw [if_neg h1, if_pos ⟨h2, .inr h4⟩, getD_of h2]
      rw [hr]
      go_enter Try.func4, Try.ntmps4
      go_wp2_with fail
      go_ret2
      exact ⟨rfl, Below.refl _ _⟩
    have h5 : 0 < ns.length := by omega
    have h5i : (ns.length : Int) > 0 := by omega
    obtain ⟨b', off', rfl, hS', e0', hin'⟩ := hv.at 0 h5
    have hr : choV hs ns ls s = (ns[0], wrap64 (s + 1)) := by unfold choV; rw [if_neg h1, if_neg (by omega), if_pos h5, getD_of h5]
    simp only [Nat.add_zero] at e0'
    have h7 : ¬ s ≥ 8 := by omega
    rw [hr]
    go_enter Try.func4, Try.ntmps4
    go_wp2_with fail
    go_ret2
    exact ⟨rfl, Below.refl _ _⟩
  have h2i : ¬ (ls.length : Int) > 0 := by omega
  by_cases h5 : 0 < ns.length
  · have h5i : (ns.length : Int) > 0 := by omega
    obtain ⟨b', off', rfl, hS', e0', hin'⟩ := hv.at 0 h5
    have hr : choV hs ns ls s = (ns[0], wrap64 (s + 1)) := by unfold choV; rw [if_neg h1, if_neg (by omega), if_pos h5, getD_of h5]
    simp only [Nat.add_zero] at e0'
    rw [hr]
    go_enter Try.func4, Try.ntmps4
    go_wp2_with fail
    go_ret2
    exact ⟨rfl, Below.refl _ _⟩
  have h5i : ¬ (ns.length : Int) > 0 := by omega
  have hr : choV hs ns ls s = (0, s) := by unfold choV; rw [if_neg h1, if_neg (by omega), if_neg h5]
  rw [hr]
  go_enter Try.func4, Try.ntmps4
  go_wp2_with fail
  go_ret2
  exact ⟨rfl, Below.refl _ _⟩

end Go.Proofs.Ytffgdchemjmbmaa
/- impl.Choose. -/
namespace Go.Proofs.Ytffgdchemjmbmaa
open Go.RowKit Go.Deep

set_option maxRecDepth 40000 in
set_option maxHeartbeats 1000000 in
theorem iChoose_any (hs ns ls : List Int) (u v x : Value) (s : Int) (w : World) (hu : IntsAt (Under w.heap.size) w hs u) (hv : IntsAt (Under w.heap.size) w ns v) (hx : IntsAt (Under w.heap.size) w ls x) :
    Calls Try.prog 6 #[u, v, x, .int .i64 s] w fun e w' => e = .returned (.tuple #[.int .i64 (choV hs ns ls s).1, .int .i64 (choV hs ns ls s).2]) ∧ Below w.heap.size w w' := by
  obtain ⟨ua, uc, rfl, _⟩ := hu.form
  obtain ⟨va, vc, rfl, _⟩ := hv.form
  obtain ⟨xa, xc, rfl, _⟩ := hx.form
  by_cases h1 : 0 < hs.length
  · obtain ⟨b, off, rfl, hS, e0, hin⟩ := hu.at 0 h1
    have hr : choV hs ns ls s = (hs[0], s) := by unfold choV; rw [if_pos h1, getD_of h1]
    have h1i : (hs.length : Int) > 0 := by omega
    rw [hr]
    simp only [Nat.add_zero] at e0
    go_enter Try.func6, Try.ntmps6
    go_wp2_with fail
    go_ret2
    exact ⟨rfl, Below.refl _ _⟩
  have h1i : ¬ (hs.length : Int) > 0 := by omega
  by_cases h2 : 0 < ls.length
  · obtain ⟨b, off, rfl, hS, e0, hin⟩ := hx.at 0 h2
    have h2i : (ls.length : Int) > 0 := by omega
    simp only [Nat.add_zero] at e0
    by_cases h3 : ns.length = 0
    · have hr : choV hs ns ls s = (ls[0], 0) := by unfold choV; rw [if_neg h1, if_pos ⟨h2, .inl h3⟩, getD_of h2]
      have h3i : (ns.length : Int) = 0 := by omega
      rw [hr]
      go_enter Try.func6, Try.ntmps6
      go_wp2_with fail
      go_ret2
      exact ⟨rfl, Below.refl _ _⟩
    have h3i : ¬ (ns.length : Int) = 0 := by omega
    by_cases h4 : 8 ≤ s
    · have hr : choV hs ns ls s = (ls[0], 0) := by unfold choV; rw [if_neg h1, if_pos ⟨h2, .inr h4⟩, getD_of h2]
      rw [hr]
      go_enter Try.func6, Try.ntmps6
      go_wp2_with fail
      go_ret2
      exact ⟨rfl, Below.refl _ _⟩
    have h5 : 0 < ns.length := by omega
    have h5i : (ns.length : Int) > 0 := by omega
    obtain ⟨b', off', rfl, hS', e0', hin'⟩ := hv.at 0 h5
    have hr : choV hs ns ls s = (ns[0], wrap64 (s + 1)) := by unfold choV; rw [if_neg h1, if_neg (by omega), if_pos h5, getD_of h5]
    simp only [Nat.add_zero] at e0'
    have h7 : ¬ s ≥ 8 := by omega
    rw [hr]
    go_enter Try.func6, Try.ntmps6
    go_wp2_with fail
    go_ret2
    exact ⟨rfl, Below.refl _ _⟩
  have h2i : ¬ (ls.length : Int) > 0 := by omega
  by_cases h5 : 0 < ns.length
  · have h5i : (ns.length : Int) > 0 := by omega
    obtain ⟨b', off', rfl, hS', e0', hin'⟩ := hv.at 0 h5
    have hr : choV hs ns ls s = (ns[0], wrap64 (s + 1)) := by unfold choV; rw [if_neg h1, if_neg (by omega), if_pos h5, getD_of h5]
    simp only [Nat.add_zero] at e0'
    rw [hr]
    go_enter Try.func6, Try.ntmps6
    go_wp2_with fail
    go_ret2
    exact ⟨rfl, Below.refl _ _⟩
  have h5i : ¬ (ns.length : Int) > 0 := by omega
  have hr : choV hs ns ls s = (0, s) := by unfold choV; rw [if_neg h1, if_neg (by omega), if_neg h5]
  rw [hr]
  go_enter Try.func6, Try.ntmps6
  go_wp2_with fail
  go_ret2
  exact ⟨rfl, Below.refl _ _⟩

end Go.Proofs.Ytffgdchemjmbmaa
/- The law of Choose: its own walk. -/
namespace Go.Proofs.Ytffgdchemjmbmaa
open Go.RowKit Go.Deep

theorem neq_self (a : Int) : (a != a) = false := by simp

set_option maxRecDepth 100000 in
set_option maxHeartbeats 4000000 in
theorem law13_any (hs ns ls : List Int) (u v x : Value) (s : Int) (w : World) (hu : IntsAt (Under w.heap.size) w hs u) (hv : IntsAt (Under w.heap.size) w ns v) (hx : IntsAt (Under w.heap.size) w ls x) :
    Calls Try.prog 3 #[u, v, x, .int .i64 s] w fun e w' => e = .returned (.bool true) ∧ Below w.heap.size w w' := by
  obtain ⟨ua, uc, rfl, _⟩ := hu.form
  obtain ⟨va, vc, rfl, _⟩ := hv.form
  obtain ⟨xa, xc, rfl, _⟩ := hx.form
  by_cases l1 : hs.length ≤ 1048576
  rotate_left
  · have l1i : (hs.length : Int) > 1048576 := by omega
    go_enter Try.func3, Try.ntmps3
    go_wp2_with fail
    go_ret
    exact ⟨rfl, Below.refl _ _⟩
  have l1i : ¬ (hs.length : Int) > 1048576 := by omega
  by_cases l2 : ns.length ≤ 1048576
  rotate_left
  · have l2i : (ns.length : Int) > 1048576 := by omega
    go_enter Try.func3, Try.ntmps3
    go_wp2_with fail
    go_ret
    exact ⟨rfl, Below.refl _ _⟩
  have l2i : ¬ (ns.length : Int) > 1048576 := by omega
  by_cases l3 : ls.length ≤ 1048576
  rotate_left
  · have l3i : (ls.length : Int) > 1048576 := by omega
    go_enter Try.func3, Try.ntmps3
    go_wp2_with fail
    go_ret
    exact ⟨rfl, Below.refl _ _⟩
  have l3i : ¬ (ls.length : Int) > 1048576 := by omega
  have TU := hide (fun w' (hb : Below w.heap.size w w') => toInts_any hs (.slice ua hs.length uc) w' (hu.up hb) l1)
  have TV := hide (fun w' (hb : Below w.heap.size w w') => toInts_any ns (.slice va ns.length vc) w' (hv.up hb) l2)
  have TX := hide (fun w' (hb : Below w.heap.size w w') => toInts_any ls (.slice xa ls.length xc) w' (hx.up hb) l3)
  obtain ⟨c1, c2, hc⟩ : ∃ c1 c2, choV hs ns ls s = (c1, c2) := ⟨_, _, rfl⟩
  have SP := hide (fun a b c w' (h1 : IntsAt (Under w'.heap.size) w' hs a) (h2 : IntsAt (Under w'.heap.size) w' ns b) (h3 : IntsAt (Under w'.heap.size) w' ls c) => sChoose_any hs ns ls a b c s w' h1 h2 h3)
  have IM := hide (fun a b c w' (h1 : IntsAt (Under w'.heap.size) w' hs a) (h2 : IntsAt (Under w'.heap.size) w' ns b) (h3 : IntsAt (Under w'.heap.size) w' ls c) => iChoose_any hs ns ls a b c s w' h1 h2 h3)
  rw [hc] at SP IM
  have z1 := neq_self c1
  have z2 := neq_self c2
  clear hu hv hx hc
  have Bw := hide (Below.refl w.heap.size w)
  go_enter Try.func3, Try.ntmps3
  go_wp2_with fail
  refine ((unhide TU) w (unhide Bw)).mono ?_
  rintro e w1 ⟨u1, rfl, hu1, _, hb⟩
  have Hu1 := hide (hu1.mono fun b hb => hb.2 : IntsAt (Under w1.heap.size) w1 _ u1)
  have Dw1 := hide hb
  have Bw1 := hide ((unhide Bw).trans (hb.mono (unhide Bw).size))
  clear hu1 hb
  go_wp2_with fail
  refine ((unhide TV) w1 (unhide Bw1)).mono ?_
  rintro e w2 ⟨u2, rfl, hu2, _, hb⟩
  have Hu2 := hide (hu2.mono fun b hb => hb.2 : IntsAt (Under w2.heap.size) w2 _ u2)
  have Dw2 := hide hb
  have Bw2 := hide ((unhide Bw1).trans (hb.mono (unhide Bw1).size))
  clear hu2 hb
  go_wp2_with fail
  refine ((unhide TX) w2 (unhide Bw2)).mono ?_
  rintro e w3 ⟨u3, rfl, hu3, _, hb⟩
  have Hu3 := hide (hu3.mono fun b hb => hb.2 : IntsAt (Under w3.heap.size) w3 _ u3)
  have Dw3 := hide hb
  have Bw3 := hide ((unhide Bw2).trans (hb.mono (unhide Bw2).size))
  clear hu3 hb
  go_wp2_with fail
  refine ((unhide SP) u1 u2 u3 w3 ((unhide Hu1).up ((unhide Dw2).trans ((unhide Dw3).mono (unhide Dw2).size))) ((unhide Hu2).up (unhide Dw3)) (unhide Hu3)).mono ?_
  rintro e w4 ⟨rfl, hb⟩
  have Bw4 := hide ((unhide Bw3).trans (hb.mono (unhide Bw3).size))
  clear hb
  go_wp2_with fail
  refine ((unhide TU) w4 (unhide Bw4)).mono ?_
  rintro e w5 ⟨v1, rfl, hv1, _, hb⟩
  have Hv1 := hide (hv1.mono fun b hb => hb.2 : IntsAt (Under w5.heap.size) w5 _ v1)
  have Dw5 := hide hb
  have Bw5 := hide ((unhide Bw4).trans (hb.mono (unhide Bw4).size))
  clear hv1 hb
  go_wp2_with fail
  refine ((unhide TV) w5 (unhide Bw5)).mono ?_
  rintro e w6 ⟨v2, rfl, hv2, _, hb⟩
  have Hv2 := hide (hv2.mono fun b hb => hb.2 : IntsAt (Under w6.heap.size) w6 _ v2)
  have Dw6 := hide hb
  have Bw6 := hide ((unhide Bw5).trans (hb.mono (unhide Bw5).size))
  clear hv2 hb
  go_wp2_with fail
  refine ((unhide TX) w6 (unhide Bw6)).mono ?_
  rintro e w7 ⟨v3, rfl, hv3, _, hb⟩
  have Hv3 := hide (hv3.mono fun b hb => hb.2 : IntsAt (Under w7.heap.size) w7 _ v3)
  have Dw7 := hide hb
  have Bw7 := hide ((unhide Bw6).trans (hb.mono (unhide Bw6).size))
  clear hv3 hb
  go_wp2_with fail
  refine ((unhide IM) v1 v2 v3 w7 ((unhide Hv1).up ((unhide Dw6).trans ((unhide Dw7).mono (unhide Dw6).size))) ((unhide Hv2).up (unhide Dw7)) (unhide Hv3)).mono ?_
  rintro e w8 ⟨rfl, hb⟩
  have E1 := hide ((unhide Hv1).up ((unhide Dw6).trans ((unhide Dw7).mono (unhide Dw6).size) |>.trans (hb.mono (by have := (unhide Dw6).size; have := (unhide Dw7).size; omega))))
  have E2 := hide ((unhide Hv2).up ((unhide Dw7).trans (hb.mono (unhide Dw7).size)))
  have E3 := hide ((unhide Hv3).up hb)
  have Bw8 := hide ((unhide Bw7).trans (hb.mono (unhide Bw7).size))
  clear hb Hu1 Hu2 Hu3 Hv1 Hv2 Hv3 Dw1 Dw2 Dw3 Dw5 Dw6 Dw7 Bw1 Bw2 Bw3 Bw4 Bw5 Bw6 Bw7 SP IM
  go_wp2_with fail
  refine ((unhide TU) w8 (unhide Bw8)).mono ?_
  rintro e w9 ⟨y1, rfl, hy, _, hb⟩
  have Y := hide (hy.mono fun b hb => hb.2 : IntsAt (Under w9.heap.size) w9 hs y1)
  have X := hide ((unhide E1).up hb)
  have F2 := hide ((unhide E2).up hb)
  have F3 := hide ((unhide E3).up hb)
  have Bw9 := hide ((unhide Bw8).trans (hb.mono (unhide Bw8).size))
  clear hy hb E1 Bw8 E2 E3
  go_wp2_with fail
  refine (eqInts_any hs v1 y1 w9 (unhide X) (unhide Y)).mono ?_
  rintro e w10 ⟨rfl, hb⟩
  have E2 := hide ((unhide F2).up hb)
  have E3 := hide ((unhide F3).up hb)
  have Bw10 := hide ((unhide Bw9).trans (hb.mono (unhide Bw9).size))
  clear hb X Y Bw9 F2 F3
  go_wp2_with fail
  refine ((unhide TV) w10 (unhide Bw10)).mono ?_
  rintro e w11 ⟨y2, rfl, hy, _, hb⟩
  have Y := hide (hy.mono fun b hb => hb.2 : IntsAt (Under w11.heap.size) w11 ns y2)
  have X := hide ((unhide E2).up hb)
  have F3 := hide ((unhide E3).up hb)
  have Bw11 := hide ((unhide Bw10).trans (hb.mono (unhide Bw10).size))
  clear hy hb E2 Bw10 E3
  go_wp2_with fail
  refine (eqInts_any ns v2 y2 w11 (unhide X) (unhide Y)).mono ?_
  rintro e w12 ⟨rfl, hb⟩
  have E3 := hide ((unhide F3).up hb)
  have Bw12 := hide ((unhide Bw11).trans (hb.mono (unhide Bw11).size))
  clear hb X Y Bw11 F3
  go_wp2_with fail
  refine ((unhide TX) w12 (unhide Bw12)).mono ?_
  rintro e w13 ⟨y3, rfl, hy, _, hb⟩
  have Y := hide (hy.mono fun b hb => hb.2 : IntsAt (Under w13.heap.size) w13 ls y3)
  have X := hide ((unhide E3).up hb)
  have Bw13 := hide ((unhide Bw12).trans (hb.mono (unhide Bw12).size))
  clear hy hb E3 Bw12
  go_wp2_with fail
  refine (eqInts_any ls v3 y3 w13 (unhide X) (unhide Y)).mono ?_
  rintro e w14 ⟨rfl, hb⟩
  have Bw14 := hide ((unhide Bw13).trans (hb.mono (unhide Bw13).size))
  clear hb X Y Bw13
  go_wp2_with fail
  go_ret
  exact ⟨rfl, unhide Bw14⟩

end Go.Proofs.Ytffgdchemjmbmaa
/- Ints that came in: a slice of them lies in memory as IntsAt says. -/
namespace Go.Proofs.Ytffgdchemjmbmaa
open Go.ChangeShapes Go.WideShapes Go.ChangeAt Go.RowKit Go.Joins

theorem bytesInt : Try.prog.bytesOf 3 = 8 := by kernel_rfl

section
variable {H : Type} {enc : TypeId × Value → H}

set_option maxRecDepth 40000 in
theorem open_ints (W : World) (fuel : Nat) (v : Value) (x : DataW H × List MemPlace) (h : DataW.trod enc Try.prog W 0 (fun _ => true) true fuel 22 [v] = some x)
    (hw : ∀ y ∈ x.1.weights Try.prog 22, y ≤ reachBytes) : ∃ xs : List Int, IntsAt (Under W.heap.size) W xs v := by
  rcases DataW.trod_slice Try.underlying22 h with ⟨hc, _⟩ | ⟨a, len, cap, elems, rest, g, hg, hc, rfl, hb, hl, hcm, hlen, hel, hsp, _⟩
  · obtain rfl : v = .slice none 0 0 := by simpa using hc
    exact ⟨[], none, 0, rfl, Nat.le_refl _, by simp, fun i hi => by cases hi⟩
  · obtain rfl : v = .slice (some a) len cap := by simpa using hc
    have hrl := (hsp rfl).1
    have hwc : (elems.length + rest.length) * 8 ≤ reachBytes := by
      have := hw ((elems.length + rest.length) * 8) (by simp [DataW.weights, Try.underlying22, bytesInt])
      exact this
    have hR := reachBytes_lt
    have hspot : 0 < len → a.spot = none := fun h => by
      have he := hel 0 h
      rw [List.getElem?_eq_getElem (by omega)] at he
      obtain ⟨cs', hcs', _⟩ := Option.bind_eq_some_iff.1 he
      rw [cellsInt] at hcs'
      obtain ⟨_, hl4, hcell⟩ := World.cells?_some hcs'
      have hc0 := hcell 0 (by decide)
      rw [List.getElem?_eq_getElem (by omega)] at hc0
      simpa [Addr.add] using World.cell?_spot hc0
    have hkid : ∀ i, i < len → ∃ t : Int, ∃ b off, (some a : Option Addr) = some ⟨b, off, none⟩ ∧ Under W.heap.size b ∧ W.cell? ⟨b, off + i, none⟩ = some (.int .i64 t) ∧ In64 t := by
      intro i hi
      have he := hel i hi
      rw [List.getElem?_eq_getElem (by omega)] at he
      obtain ⟨cs', hcs', htr⟩ := Option.bind_eq_some_iff.1 he
      obtain ⟨k0, e0, _, w0⟩ := DataW.trod_int Try.underlying3 htr
      rw [cellsInt] at hcs'
      obtain ⟨_, hl1, hcell⟩ := World.cells?_some hcs'
      have hblk := World.cells?_block hcs' (by decide)
      have hsn := hspot (by omega)
      obtain ⟨b, off, sp⟩ := a
      obtain rfl : sp = none := hsn
      have hc0 := hcell 0 (by decide)
      rw [e0, Nat.mul_one, add_plain, add_plain] at hc0
      rw [add_plain] at hblk
      exact ⟨k0, b, off, rfl, hblk, by simpa using hc0, in64_of w0⟩
    obtain ⟨ks, hkl, hks⟩ := list_of len hkid
    exact ⟨ks, some a, cap, by rw [hkl], by omega, by omega, fun i hi => hks i hi⟩
end
end Go.Proofs.Ytffgdchemjmbmaa
