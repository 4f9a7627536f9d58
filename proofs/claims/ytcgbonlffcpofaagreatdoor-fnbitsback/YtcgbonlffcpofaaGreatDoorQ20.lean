/- The laws' markText: a function of its number. -/
import Derived.Test.YtcgbonlffcpofaaGreatDoorQ2
import Derived.WalkKit
import Derived.Deep.OwnRows
import Derived.Test.YtcgbonlffcpofaaGreatDoorQ6
namespace Go.Proofs.YtcgbonlffcpofaaGreatDoor
open Go.RowKit Go.Deep

/-- The digits ahead of a text. -/
def digF : Nat → Nat → ByteArray → ByteArray
  | 0, _, o => o
  | f + 1, k, o => if k = 0 then o else digF f (k / 10) (strOfNums [((48 + k % 10 : Nat) : Int)] ++ o)
/-- The mark of a number. -/
def mtext (k : Nat) : ByteArray := if k = 0 then ⟨#[109, 48]⟩ else ⟨#[109]⟩ ++ digF k k ⟨#[]⟩

end Go.Proofs.YtcgbonlffcpofaaGreatDoor
/- The laws' markTermS: what it marks. -/
namespace Go.Proofs.YtcgbonlffcpofaaGreatDoor
open Go.RowKit Go.Deep

def kidsOf {n : Nat} (t : Tm (n + 1)) : List (Tm n) := t.2.2.2
/-- A row of terms, and the rows below it, each in blocks of its own between lo and hi. -/
def OwnS (w : World) : (n : Nat) → Nat → Nat → List (Tm n) → Value → Prop
  | 0, _, _, ks, v => ∃ a cap, v = .slice a ks.length cap
  | n + 1, lo, hi, ks, v => ∃ a cap, v = .slice a ks.length cap ∧ (ks = [] ∨ ∃ R cs, ∃ bs : Nat → Nat, a = some ⟨R, 0, none⟩ ∧ w.heap[R]? = some (.cells cs 32 (0, 0)) ∧ lo ≤ R ∧ R < bs 0 ∧ (∀ i j, i ≤ j → bs i ≤ bs j) ∧ bs ks.length ≤ hi ∧
      ks.length * 4 ≤ cs.size ∧ ∀ i (h : i < ks.length), ∃ v3, cs[i * 4 + 3]? = some v3 ∧ OwnS w n (bs i) (bs (i + 1)) (kidsOf ks[i]) v3)

theorem OwnS.keep {w w' : World} : ∀ {n lo hi : Nat} {ks : List (Tm n)} {v : Value}, OwnS w n lo hi ks v → (∀ b, lo ≤ b → b < hi → w'.heap[b]? = w.heap[b]?) → OwnS w' n lo hi ks v
  | 0, _, _, _, _, h, _ => h
  | n + 1, lo, hi, ks, v, ⟨a, cap, hv, h⟩, hk => by
    refine ⟨a, cap, hv, ?_⟩
    rcases h with h | ⟨R, cs, bs, h1, h2, h3, h4, h5, h6, h7, h8⟩
    · exact .inl h
    · by_cases hn : ks = []
      · exact .inl hn
      refine .inr ⟨R, cs, bs, h1, ?_, h3, h4, h5, h6, h7, fun i hi' => ?_⟩
      · rw [hk R h3 (by have := h5 0 ks.length (Nat.zero_le _); omega), h2]
      · obtain ⟨v3, e3, ho⟩ := h8 i hi'
        exact ⟨v3, e3, ho.keep fun b hb1 hb2 => hk b (by have := h5 0 i (Nat.zero_le _); omega) (by have := h5 (i + 1) ks.length (by omega); omega)⟩
theorem OwnS.form {w : World} : ∀ {n lo hi : Nat} {ks : List (Tm n)} {v : Value}, OwnS w n lo hi ks v → ∃ a cap, v = .slice a ks.length cap
  | 0, _, _, _, _, h => h
  | _ + 1, _, _, _, _, ⟨a, cap, h, _⟩ => ⟨a, cap, h⟩

/-- Marked from k on. -/
def MkdS (w : World) : (n : Nat) → Nat → Nat → List (Tm n) → Value → Nat → Prop
  | 0, _, _, ks, v, _ => ∃ a cap, v = .slice a ks.length cap
  | n + 1, lo, hi, ks, v, k => ∃ a cap, v = .slice a ks.length cap ∧ (ks = [] ∨ ∃ R, a = some ⟨R, 0, none⟩ ∧ lo ≤ R ∧ R < hi ∧ ∀ i (h : i < ks.length), ∃ v3 : Value, w.cell? ⟨R, i * 4, none⟩ = some (.int .i64 ((k + 3 * sizS (ks.take i) : Nat) : Int)) ∧
      w.cell? ⟨R, i * 4 + 1, none⟩ = some (.int .i64 ((k + 3 * sizS (ks.take i) + 1 : Nat) : Int)) ∧ w.cell? ⟨R, i * 4 + 2, none⟩ = some (.string (mtext (k + 3 * sizS (ks.take i) + 2))) ∧ w.cell? ⟨R, i * 4 + 3, none⟩ = some v3 ∧
      MkdS w n lo hi (kidsOf ks[i]) v3 (k + 3 * sizS (ks.take i) + 3))
theorem MkdS.keep {w w' : World} : ∀ {n lo hi lo' hi' : Nat} {ks : List (Tm n)} {v : Value} {k : Nat}, MkdS w n lo hi ks v k → (∀ b, lo ≤ b → b < hi → w'.heap[b]? = w.heap[b]?) → lo' ≤ lo → hi ≤ hi' → MkdS w' n lo' hi' ks v k
  | 0, _, _, _, _, _, _, _, h, _, _, _ => h
  | n + 1, lo, hi, lo', hi', ks, v, k, ⟨a, cap, hv, h⟩, hk, hl, hh => by
    refine ⟨a, cap, hv, ?_⟩
    rcases h with h | ⟨R, h1, h2, h3, h4⟩
    · exact .inl h
    · refine .inr ⟨R, h1, by omega, by omega, fun i hi' => ?_⟩
      obtain ⟨v3, e0, e1, e2, e3, hm⟩ := h4 i hi'
      have hc : ∀ o, w'.cell? ⟨R, o, none⟩ = w.cell? ⟨R, o, none⟩ := fun o => World.cell?_of_block (w := w) (hk R h2 h3)
      exact ⟨v3, (hc _).trans e0, (hc _).trans e1, (hc _).trans e2, (hc _).trans e3, hm.keep hk hl hh⟩

/-- Only blocks between lo and hi, and new ones, were written. -/
structure Out (lo hi : Nat) (w w' : World) : Prop where
  os : w'.os = w.os
  tape : w'.tape = w.tape
  output : w'.output = w.output
  size : w.heap.size ≤ w'.heap.size
  block : ∀ b, b < w.heap.size → b < lo ∨ hi ≤ b → w'.heap[b]? = w.heap[b]?
theorem Out.refl (lo hi : Nat) (w : World) : Out lo hi w w := ⟨rfl, rfl, rfl, Nat.le_refl _, fun _ _ _ => rfl⟩
theorem Out.trans {lo hi : Nat} {a b c : World} (h : Out lo hi a b) (k : Out lo hi b c) : Out lo hi a c :=
  ⟨k.os.trans h.os, k.tape.trans h.tape, k.output.trans h.output, Nat.le_trans h.size k.size, fun i hi hg => (k.block i (Nat.lt_of_lt_of_le hi h.size) hg).trans (h.block i hi hg)⟩
theorem Out.below {lo hi : Nat} {w w' : World} (h : Below w.heap.size w w') : Out lo hi w w' := ⟨h.os, h.tape, h.output, h.size, fun b hb _ => h.block b hb⟩
theorem Out.set {lo hi R : Nat} {a w : World} (h : Out lo hi a w) (h1 : lo ≤ R) (h2 : R < hi) (o : Nat) (v : Value) : Out lo hi a (w.setCell ⟨R, o, none⟩ v) :=
  h.trans ⟨rfl, rfl, rfl, by simp, fun k _ hg => Below.heap_setCell _ _ _ _ (by show k ≠ R; omega)⟩
theorem Out.wide {lo hi lo' hi' : Nat} {w w' : World} (h : Out lo hi w w') (h1 : lo' ≤ lo) (h2 : hi ≤ hi') : Out lo' hi' w w' := ⟨h.os, h.tape, h.output, h.size, fun b hb hg => h.block b hb (by omega)⟩

end Go.Proofs.YtcgbonlffcpofaaGreatDoor
