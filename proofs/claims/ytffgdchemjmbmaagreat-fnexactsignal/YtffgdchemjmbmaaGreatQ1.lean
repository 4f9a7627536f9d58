/- What all frames have in common. -/
import Derived.Test.YtffgdchemjmbmaaGreatRows
import Derived.ProofKit
import Derived.Below
import Derived.WalkKit
import Derived.BigQuiet
import Derived.OpenShut
import Derived.SizedLaws
import Derived.Lib.SmallJoins
import Derived.WalkSpells
import Derived.WalkLawsBesides
namespace Go.Proofs.YtffgdchemjmbmaaGreat
open Go.ChangeShapes Go.WideShapes Go.ChangeAt Go.RowKit

theorem own : ownKnob Tryz.prog.godebug = none := by kernel_rfl
theorem laidOut : laidOutB Tryz.prog = true := by kernel_rfl

end Go.Proofs.YtffgdchemjmbmaaGreat
/- What both families of texts share: facts kept out of the walk's sight, worlds in which nothing below a bound has turned, a new block's cells. -/
namespace Go.Proofs.YtffgdchemjmbmaaGreat
open Go.RowKit

theorem hide {p : Prop} (h : p) : Hid p := h
theorem unhide {p : Prop} (h : Hid p) : p := h
theorem ret_int {k : IntKind} {a b : Int} (h : a = b) : Ending.returned (.int k a) = .returned (.int k b) := by rw [h]
theorem heap_new (w : World) (o : Obj) : (w.alloc o).heap[w.heap.size]? = some o := by show (w.heap.push _)[_]? = _; simp
theorem cell_of_heap {w : World} {b : Nat} {arr : Array Value} {e : TypeId} {fr : Nat × Nat} (h : w.heap[b]? = some (.cells arr e fr)) (o : Nat) : w.cell? ⟨b, o, none⟩ = arr[o]? := by simp [World.cell?, h]

/-- A world in which nothing below B has turned. -/
structure LaterW (B : Nat) (w : World) where
  wd : World
  be : Below B w wd

/-- A region that draws its order, whose operations only read and whose callees turn nothing below B: one walk, in the order of the text. -/
theorem wp_region_later {P : Program} {id : Nat} {Q : Exit → Act → World → Prop} {a : Act} {w : World} {l : List Oper} (B : Nat) (hm : P.follows .mixedOrders = true) (hB : Region.lexB .any l.toArray = true)
    (h : wpQuiet P l.toArray (fun w' => ∃ x : LaterW B w, w' = x.wd) (fun a' => ∀ w', (∃ x : LaterW B w, w' = x.wd) → Q .normal a' w') l a) : (Code.region id l.toArray true).wp P Q a w :=
  wp_region_quiet (C := fun w' => ∃ x : LaterW B w, w' = x.wd) hm hB ⟨⟨_, (Below.refl _ _).drew⟩, rfl⟩ (by simpa using h)

theorem Calls.later {P : Program} {f : FuncId} {args : Array Value} {B : Nat} {w : World} {x : LaterW B w} {v : Value} (hB : B ≤ w.heap.size)
    (h : Calls P f args x.wd fun e w' => e = .returned v ∧ Below x.wd.heap.size x.wd w') : Calls P f args x.wd fun e w'' => e = .returned v ∧ ∃ y : LaterW B w, w'' = y.wd :=
  h.mono fun _ w'' ⟨he, hb⟩ => ⟨he, ⟨w'', x.be.trans (hb.mono (Nat.le_trans hB x.be.size))⟩, rfl⟩

end Go.Proofs.YtffgdchemjmbmaaGreat
/- Plain definitions: trees of bounded depth, how they lie in memory, what becomes of that when the world grows. Nothing of the program is named here. -/
namespace Go.Proofs.YtffgdchemjmbmaaGreat
open Go.RowKit

/-- A term's tree, at most so deep: its kind, its number, its text, its kids. -/
def Tm : Nat → Type
  | 0 => Empty
  | n + 1 => Int × Int × ByteArray × List (Tm n)

/-- A number that an int can hold. -/
def In64 (n : Int) : Prop := -9223372036854775808 ≤ n ∧ n ≤ 9223372036854775807

/-- A slice whose elements are four cells each, all in blocks of which S holds; element i stands for ks[i]. -/
def SAt {α : Type} (S : Nat → Prop) (w : World) (R : α → Value → Value → Value → Value → Prop) (ks : List α) (v : Value) : Prop :=
  ∃ a cap, v = .slice a ks.length cap ∧ ks.length ≤ cap ∧ ks.length ≤ 2 ^ 47 ∧ ∀ i (h : i < ks.length), ∃ b off d0 d1 d2 d3, a = some ⟨b, off, none⟩ ∧ S b ∧
    w.cell? ⟨b, off + i * 4, none⟩ = some d0 ∧ w.cell? ⟨b, off + i * 4 + 1, none⟩ = some d1 ∧ w.cell? ⟨b, off + i * 4 + 2, none⟩ = some d2 ∧
    w.cell? ⟨b, off + i * 4 + 3, none⟩ = some d3 ∧ R ks[i] d0 d1 d2 d3

/-- The four cells of a term. -/
def TAt (S : Nat → Prop) (w : World) : (n : Nat) → Tm n → Value → Value → Value → Value → Prop
  | 0, t => t.elim
  | n + 1, (k, m, s, ks) => fun c0 c1 c2 c3 => c0 = .int .i64 k ∧ c1 = .int .i64 m ∧ c2 = .string s ∧ In64 k ∧ In64 m ∧ s.size ≤ 2 ^ 47 ∧ SAt S w (TAt S w n) ks c3

/-- Where the blocks of S are as they were, the terms there are too. -/
theorem SAt.keep {α : Type} {S : Nat → Prop} {w w' : World} {R R' : α → Value → Value → Value → Value → Prop} {ks : List α} {v : Value}
    (h : SAt S w R ks v) (hk : ∀ b, S b → w'.heap[b]? = w.heap[b]?) (hR : ∀ t ∈ ks, ∀ a b c d, R t a b c d → R' t a b c d) : SAt S w' R' ks v := by
  obtain ⟨a, cap, hv, h1, h2, h3⟩ := h
  refine ⟨a, cap, hv, h1, h2, fun i hi => ?_⟩
  obtain ⟨b, off, d0, d1, d2, d3, ha, hS, e0, e1, e2, e3, hr⟩ := h3 i hi
  have hc : ∀ o, w'.cell? ⟨b, o, none⟩ = w.cell? ⟨b, o, none⟩ := fun o => World.cell?_of_block (w := w) (hk b hS)
  exact ⟨b, off, d0, d1, d2, d3, ha, hS, by rw [hc, e0], by rw [hc, e1], by rw [hc, e2], by rw [hc, e3], hR _ (List.getElem_mem hi) _ _ _ _ hr⟩

theorem TAt.keep {S : Nat → Prop} {w w' : World} (hk : ∀ b, S b → w'.heap[b]? = w.heap[b]?) : ∀ {n : Nat} {t : Tm n} {a b c d : Value}, TAt S w n t a b c d → TAt S w' n t a b c d := by
  intro n
  induction n with
  | zero => intro t; exact t.elim
  | succ n ih =>
    rintro ⟨k, m, s, ks⟩ a b c d ⟨h0, h1, h2, hk1, hm, hs, h3⟩
    exact ⟨h0, h1, h2, hk1, hm, hs, h3.keep hk (fun t _ a b c d h => ih h)⟩

theorem SAt.mono {α : Type} {S S' : Nat → Prop} {w : World} {R R' : α → Value → Value → Value → Value → Prop} {ks : List α} {v : Value}
    (h : SAt S w R ks v) (hk : ∀ b, S b → S' b) (hR : ∀ t ∈ ks, ∀ a b c d, R t a b c d → R' t a b c d) : SAt S' w R' ks v := by
  obtain ⟨a, cap, hv, h1, h2, h3⟩ := h
  refine ⟨a, cap, hv, h1, h2, fun i hi => ?_⟩
  obtain ⟨b, off, d0, d1, d2, d3, ha, hS, e0, e1, e2, e3, hr⟩ := h3 i hi
  exact ⟨b, off, d0, d1, d2, d3, ha, hk b hS, e0, e1, e2, e3, hR _ (List.getElem_mem hi) _ _ _ _ hr⟩

theorem TAt.mono {S S' : Nat → Prop} {w : World} (hk : ∀ b, S b → S' b) : ∀ {n : Nat} {t : Tm n} {a b c d : Value}, TAt S w n t a b c d → TAt S' w n t a b c d := by
  intro n
  induction n with
  | zero => intro t; exact t.elim
  | succ n ih =>
    rintro ⟨k, m, s, ks⟩ a b c d ⟨h0, h1, h2, hk1, hm, hs, h3⟩
    exact ⟨h0, h1, h2, hk1, hm, hs, h3.mono hk (fun t _ a b c d h => ih h)⟩

/-- Behind a step that turns nothing below B. -/
theorem TAt.below {S : Nat → Prop} {B : Nat} {w w' : World} (hb : Below B w w') (hS : ∀ b, S b → b < B) {n : Nat} {t : Tm n} {a b c d : Value} (h : TAt S w n t a b c d) : TAt S w' n t a b c d :=
  h.keep fun b hs => hb.block b (hS b hs)
theorem SAt.below {S : Nat → Prop} {B : Nat} {w w' : World} (hb : Below B w w') (hS : ∀ b, S b → b < B) {n : Nat} {ks : List (Tm n)} {v : Value} (h : SAt S w (TAt S w n) ks v) : SAt S w' (TAt S w' n) ks v :=
  h.keep (fun b hs => hb.block b (hS b hs)) fun _ _ _ _ _ _ ht => ht.below hb hS

/-- All that lies below B. -/
abbrev Under (B : Nat) : Nat → Prop := fun b => b < B

/-- Into a later world, all that was there being below the first one's size. -/
theorem TAt.up {w w' : World} (hb : Below w.heap.size w w') {n : Nat} {t : Tm n} {a b c d : Value} (h : TAt (Under w.heap.size) w n t a b c d) : TAt (Under w'.heap.size) w' n t a b c d :=
  (h.below hb fun _ h => h).mono fun _ h => Nat.lt_of_lt_of_le h hb.size
theorem SAt.up {w w' : World} (hb : Below w.heap.size w w') {n : Nat} {ks : List (Tm n)} {v : Value} (h : SAt (Under w.heap.size) w (TAt (Under w.heap.size) w n) ks v) :
    SAt (Under w'.heap.size) w' (TAt (Under w'.heap.size) w' n) ks v :=
  (h.keep (fun b hs => hb.block b hs) fun _ _ _ _ _ _ ht => ht.below hb fun _ h => h).mono (fun _ h => Nat.lt_of_lt_of_le h hb.size) fun _ _ _ _ _ _ ht => ht.mono fun _ h => Nat.lt_of_lt_of_le h hb.size

/-- The shape of a term's four cells. -/
theorem TAt.shape {S : Nat → Prop} {w : World} : ∀ {n : Nat} {t : Tm n} {c0 c1 c2 c3 : Value}, TAt S w n t c0 c1 c2 c3 → ∃ k m s a l c, c0 = .int .i64 k ∧ c1 = .int .i64 m ∧ c2 = .string s ∧ c3 = .slice a l c
  | 0, t, _, _, _, _, _ => t.elim
  | _ + 1, (k, m, s, _), _, _, _, _, ⟨h0, h1, h2, _, _, _, a, cap, h3, _⟩ => ⟨k, m, s, a, _, cap, h0, h1, h2, h3⟩

/-- How many letters and kids a term has, with all within. -/
def tot : (n : Nat) → Tm n → Nat
  | 0, t => t.elim
  | n + 1, (_, _, s, ks) => s.size + (ks.length + (ks.map (tot n)).sum)

def totS {n : Nat} (ks : List (Tm n)) : Nat := (ks.map (tot n)).sum

theorem totS_take {n : Nat} (ks : List (Tm n)) (k : Nat) (h : k < ks.length) : totS (ks.take (k + 1)) = totS (ks.take k) + tot n ks[k] := by
  unfold totS; rw [List.take_succ_eq_append_getElem h, List.map_append, List.sum_append]; simp only [List.map_cons, List.map_nil, List.sum_cons, List.sum_nil, Nat.add_zero]
theorem totS_le {n : Nat} (ks : List (Tm n)) (k : Nat) : totS (ks.take k) ≤ totS ks := by
  have : totS ks = totS (ks.take k) + totS (ks.drop k) := by unfold totS; rw [← List.sum_append, ← List.map_append, List.take_append_drop]
  omega

end Go.Proofs.YtffgdchemjmbmaaGreat
/- What the frames of the laws on terms have in common: a term that came in is a tree that lies in memory. -/
namespace Go.Proofs.YtffgdchemjmbmaaGreat
open Go.ChangeShapes Go.WideShapes Go.ChangeAt Go.RowKit Go.Joins

theorem cellsTerm : Tryz.prog.cellsOf 24 = 4 := by kernel_rfl
theorem cellsInt : Tryz.prog.cellsOf 3 = 1 := by kernel_rfl
theorem cellsStr : Tryz.prog.cellsOf 9 = 1 := by kernel_rfl
theorem cellsTerms : Tryz.prog.cellsOf 22 = 1 := by kernel_rfl
theorem bytesTerm : Tryz.prog.bytesOf 24 = 56 := by kernel_rfl

theorem in64_of {n : Int} (h : (Lit.int .i64 n).wf = true) : In64 n := by
  have := bounds_i64 h
  exact this
theorem list4 {α : Type} {xs : List α} (h : xs.length = 4) : ∃ a b c d, xs = [a, b, c, d] := by
  match xs, h with
  | [a, b, c, d], _ => exact ⟨a, b, c, d, rfl⟩

theorem list_of {α : Type} {R : Nat → α → Prop} : ∀ (len : Nat), (∀ i, i < len → ∃ t, R i t) → ∃ ks : List α, ks.length = len ∧ ∀ i (h : i < ks.length), R i ks[i]
  | 0, _ => ⟨[], rfl, fun i h => by simp at h⟩
  | len + 1, H => by
    obtain ⟨ks, h1, h2⟩ := list_of len fun i h => H i (by omega)
    obtain ⟨t, ht⟩ := H len (by omega)
    refine ⟨ks ++ [t], by simp [h1], fun i h => ?_⟩
    by_cases hi : i < ks.length
    · rw [List.getElem_append_left hi]; exact h2 i hi
    · have : i = ks.length := by simp at h; omega
      subst this
      simp only [List.getElem_concat_length]
      rw [h1]; exact ht

theorem weights_mem_all {H : Type} {P : Program} {e : TypeId} : ∀ {ds : List (DataW H)} {d : DataW H}, d ∈ ds → ∀ y ∈ d.weights P e, y ∈ DataW.weightsAll P e ds
  | _ :: _, d, h, y, hy => by
    rw [DataW.weightsAll, List.mem_append]
    rcases List.mem_cons.1 h with rfl | h
    · exact Or.inl hy
    · exact Or.inr (weights_mem_all h y hy)

section
variable {H : Type} {enc : TypeId × Value → H}

set_option maxRecDepth 40000 in
theorem open_term (W : World) : ∀ (n fuel : Nat), fuel / 2 = n → ∀ (cs : List Value) (x : DataW H × List MemPlace), DataW.trod enc Tryz.prog W 0 (fun _ => true) true fuel 24 cs = some x →
    (∀ y ∈ x.1.weights Tryz.prog 24, y ≤ reachBytes) → ∃ (t : Tm n) (c0 c1 c2 c3 : Value), cs = [c0, c1, c2, c3] ∧ TAt (Under W.heap.size) W n t c0 c1 c2 c3 := by
  intro n
  induction n with
  | zero =>
    intro fuel hfu cs x h _
    obtain ⟨xs, m, hm, rfl, _, hxs, hf⟩ := DataW.trod_struct Tryz.underlying24 h
    have : m = 0 := by omega
    subst this
    have h0 := hf 0 _ rfl
    rw [List.getElem?_eq_getElem (by rw [hxs]; decide)] at h0
    simp [DataW.trod] at h0
  | succ n ih =>
    intro fuel hfu cs x h hw
    obtain ⟨xs, m, hm, rfl, hcs, hxs, hf⟩ := DataW.trod_struct Tryz.underlying24 h
    rw [cellsTerm] at hcs
    obtain ⟨y0, y1, y2, y3, rfl⟩ := list4 hxs
    obtain ⟨c0, c1, c2, c3, rfl⟩ := list4 hcs
    have h0 : DataW.trod enc Tryz.prog W 0 (fun _ => true) true m 3 [c0] = some y0 := by have := hf 0 _ rfl; simpa [cellsInt] using this
    have h1 : DataW.trod enc Tryz.prog W 0 (fun _ => true) true m 3 [c1] = some y1 := by have := hf 1 _ rfl; simpa [cellsInt] using this
    have h2 : DataW.trod enc Tryz.prog W 0 (fun _ => true) true m 9 [c2] = some y2 := by have := hf 2 _ rfl; simpa [cellsStr] using this
    have h3 : DataW.trod enc Tryz.prog W 0 (fun _ => true) true m 22 [c3] = some y3 := by have := hf 3 _ rfl; simpa [cellsTerms] using this
    obtain ⟨k, e0, rfl, wk⟩ := DataW.trod_int Tryz.underlying3 h0
    obtain ⟨q, e1, rfl, wq⟩ := DataW.trod_int Tryz.underlying3 h1
    obtain ⟨s, e2, rfl, hs⟩ := DataW.trod_string Tryz.underlying9 h2
    have hwt : ∀ y ∈ (DataW.weights Tryz.prog 9 (.lit (.string s.data.toList) : DataW H)) ++ y3.1.weights Tryz.prog 22, y ≤ reachBytes := fun y hy => hw y (by
      simp only [List.map_cons, List.map_nil, DataW.weights, Tryz.underlying24, DataW.weightsEach] at hy ⊢
      simpa using hy)
    have hsz : s.size ≤ reachBytes := by
      have := hwt s.data.toList.length (by simp [DataW.weights])
      simpa using this
    have hk : ∃ ks : List (Tm n), SAt (Under W.heap.size) W (TAt (Under W.heap.size) W n) ks c3 := by
      rcases DataW.trod_slice Tryz.underlying22 h3 with ⟨hc, _⟩ | ⟨a, len, cap, elems, rest, g, hg, hc, rfl, hb, hl, hcm, hlen, hel, hsp, _⟩
      · obtain rfl : c3 = .slice none 0 0 := by simpa using hc
        exact ⟨[], none, 0, rfl, by simp, by simp, fun i hi => by simp at hi⟩
      · obtain rfl : c3 = .slice (some a) len cap := by simpa using hc
        have hrl := (hsp rfl).1
        have hwc : (elems.length + rest.length) * 56 ≤ reachBytes := by
          have := hwt ((elems.length + rest.length) * 56) (by simp [DataW.weights, Tryz.underlying22, bytesTerm])
          exact this
        have hR := reachBytes_lt
        have hspot : 0 < len → a.spot = none := fun h => by
          have he := hel 0 h
          rw [List.getElem?_eq_getElem (by omega)] at he
          obtain ⟨cs', hcs', _⟩ := Option.bind_eq_some_iff.1 he
          rw [cellsTerm] at hcs'
          obtain ⟨_, hl4, hcell⟩ := World.cells?_some hcs'
          have hc0 := hcell 0 (by decide)
          rw [List.getElem?_eq_getElem (by omega)] at hc0
          simpa [Addr.add] using World.cell?_spot hc0
        have hkid : ∀ i, i < len → ∃ t : Tm n, ∃ b off d0 d1 d2 d3, (some a : Option Addr) = some ⟨b, off, none⟩ ∧ Under W.heap.size b ∧
            W.cell? ⟨b, off + i * 4, none⟩ = some d0 ∧ W.cell? ⟨b, off + i * 4 + 1, none⟩ = some d1 ∧ W.cell? ⟨b, off + i * 4 + 2, none⟩ = some d2 ∧
            W.cell? ⟨b, off + i * 4 + 3, none⟩ = some d3 ∧ TAt (Under W.heap.size) W n t d0 d1 d2 d3 := by
          intro i hi
          have he := hel i hi
          rw [List.getElem?_eq_getElem (by omega)] at he
          obtain ⟨cs', hcs', htr⟩ := Option.bind_eq_some_iff.1 he
          obtain ⟨t, d0, d1, d2, d3, rfl, hT⟩ := ih g (by omega) cs' _ htr (fun y hy => hwt y (by
            simp only [DataW.weights, Tryz.underlying22, List.mem_append, List.mem_cons]
            refine Or.inr (Or.inr (Or.inl ?_))
            exact weights_mem_all (by rw [List.mem_map]; exact ⟨_, List.getElem_mem (by omega), rfl⟩) y hy))
          rw [cellsTerm] at hcs'
          obtain ⟨_, _, hcell⟩ := World.cells?_some hcs'
          have hblk := World.cells?_block hcs' (by decide)
          have hsn := hspot (by omega)
          obtain ⟨b, off, sp⟩ := a
          obtain rfl : sp = none := hsn
          have hadd : ∀ j, ((⟨b, off, none⟩ : Addr).add (i * 4)).add j = ⟨b, off + i * 4 + j, none⟩ := fun j => by rw [add_plain, add_plain]
          have hc0 := hcell 0 (by decide)
          have hc1 := hcell 1 (by decide)
          have hc2 := hcell 2 (by decide)
          have hc3 := hcell 3 (by decide)
          rw [hadd] at hc0 hc1 hc2 hc3
          refine ⟨t, b, off, d0, d1, d2, d3, rfl, ?_, hc0, hc1, hc2, hc3, hT⟩
          rw [add_plain] at hblk
          exact hblk
        obtain ⟨ks, hkl, hks⟩ := list_of len hkid
        exact ⟨ks, some a, cap, by rw [hkl], by omega, by omega, fun i hi => hks i hi⟩
    obtain ⟨ks, hks⟩ := hk
    simp only [List.cons.injEq, and_true] at e0 e1 e2
    refine ⟨(k, q, s, ks), c0, c1, c2, c3, rfl, e0, e1, e2, in64_of wk, in64_of wq, ?_, hks⟩
    have := reachBytes_lt; omega
end
end Go.Proofs.YtffgdchemjmbmaaGreat
/- Plain facts: the number that is made of bytes; a number's bytes, the highest first. -/
namespace Go.Proofs.YtffgdchemjmbmaaGreat
open Go.RowKit

/-- A text's letters as numbers. -/
def txtL (s : ByteArray) : List Int := s.data.toList.map fun b => (b.toNat : Int)
end Go.Proofs.YtffgdchemjmbmaaGreat
/- The walks of szTerm and szTermS, by induction on the depth. -/
namespace Go.Proofs.YtffgdchemjmbmaaGreat
open Go.RowKit

/-- What szTerm hands back: what is left, or -1. -/
def left (t : Nat) (l : Int) : Int := if (t : Int) ≤ l then l - t else -1

def SzSaid (n : Nat) : Prop := ∀ (t : Tm n) (c0 c1 c2 c3 : Value) (l : Int) (w : World), TAt (Under w.heap.size) w n t c0 c1 c2 c3 → 0 ≤ l → l ≤ 1048576 →
  Calls Tryz.prog 4 #[.agg #[c0, c1, c2, c3], .int .i64 l] w fun e w' => e = .returned (.int .i64 (left (tot n t) l)) ∧ Below w.heap.size w w'

def SzSSaid (n : Nat) : Prop := ∀ (ks : List (Tm n)) (v : Value) (l : Int) (w : World), SAt (Under w.heap.size) w (TAt (Under w.heap.size) w n) ks v → 0 ≤ l → l ≤ 1048576 →
  Calls Tryz.prog 11 #[v, .int .i64 l] w fun e w' => e = .returned (.int .i64 (left (ks.length + totS ks) l)) ∧ Below w.heap.size w w'

theorem left_pos {t : Nat} {l : Int} (h : (t : Int) ≤ l) : left t l = l - t := if_pos h
theorem left_neg {t : Nat} {l : Int} (h : ¬ (t : Int) ≤ l) : left t l = -1 := if_neg h
theorem bcell {W w1 : World} (hb : Below W.heap.size W w1) : (∀ b o, b < W.heap.size → w1.cell? ⟨b, o, none⟩ = W.cell? ⟨b, o, none⟩) :=
  fun b o h => hb.cell (p := ⟨b, o, none⟩) h

set_option maxHeartbeats 400000 in
theorem szS_of {n : Nat} (h : SzSaid n) : SzSSaid n := by
  intro ks v l w hv hl0 hl1
  obtain ⟨a, cap, rfl, hlen, hcap, hel⟩ := hv
  by_cases hneg : l < ks.length
  · have hn : l - ks.length < 0 := by omega
    go_enter Tryz.func11, Tryz.ntmps11
    go_wp2_with fail
    go_ret
    exact ⟨ret_int (left_neg (by omega)).symm, Below.refl _ _⟩
  · have hn : ¬ l - ks.length < 0 := by omega
    have hlb : (ks.length : Int) ≤ l := by omega
    go_enter Tryz.func11, Tryz.ntmps11
    go_wp2_with fail
    go_loopw [1, 5] (fun lv iv wr => ∃ k : Nat, k ≤ ks.length ∧ iv = .int .i64 k ∧ (totS (ks.take k) : Int) + ks.length ≤ l ∧ lv = .int .i64 (l - ks.length - totS (ks.take k)) ∧ Below w.heap.size w wr) (fun _ iv _ => ks.length - (intOf iv).toNat)
    case atStart => exact ⟨0, by omega, rfl, by simp [totS]; omega, by simp [totS], Below.refl _ _⟩
    case round =>
      obtain ⟨k, hk, rfl, hle, rfl, hb⟩ := hrel
      by_cases hlt : k < ks.length
      · obtain ⟨b, off, d0, d1, d2, d3, rfl, hS, e0, e1, e2, e3, hr⟩ := hel k hlt
        have hbc := bcell hb
        have f0 := (hbc b _ hS).trans e0
        have f1 := (hbc b _ hS).trans e1
        have f2 := (hbc b _ hS).trans e2
        have f3 := (hbc b _ hS).trans e3
        clear hbc e0 e1 e2 e3
        have hts := totS_take ks k hlt
        have htl := totS_le ks (k + 1)
        by_cases hfit : (tot n ks[k] : Int) ≤ l - ks.length - totS (ks.take k)
        · have hnn : ¬ l - ks.length - totS (ks.take k) - tot n ks[k] < 0 := by omega
          have HT : Hid (totS (ks.take (k + 1)) = totS (ks.take k) + tot n ks[k]) := hts
          clear hts htl
          go_wp2_with (go_at_call 4; refine (h _ _ _ _ _ _ _ (hr.up hb) (by omega) (by omega)).mono ?_; rintro e w' ⟨rfl, hb2⟩; rw [left, if_pos hfit])
          go_roundw
          case rel => exact ⟨k + 1, hlt, by go_num, by rw [HT.out]; omega, by rw [HT.out]; congr 1; omega, hb.trans (hb2.mono hb.size)⟩
          case measure => simp [intOf]; omega
        · have hlast : ¬ ((ks.length + totS ks : Nat) : Int) ≤ l := by omega
          clear hts htl
          go_wp2_with (go_at_call 4; refine (h _ _ _ _ _ _ _ (hr.up hb) (by omega) (by omega)).mono ?_; rintro e w' ⟨rfl, hb2⟩; rw [left, if_neg hfit])
          go_ret
          exact ⟨ret_int (left_neg (by omega)).symm, hb.trans (hb2.mono hb.size)⟩
      · have hkk : k = ks.length := by omega
        subst hkk
        rw [List.take_length] at hle ⊢
        go_wp2_with fail
        go_ret
        exact ⟨ret_int (by rw [left_pos (by omega)]; omega), hb⟩

set_option maxHeartbeats 400000 in
theorem sz_of {n : Nat} (h : SzSSaid n) : SzSaid (n + 1) := by
  rintro ⟨kd, m, s, ks⟩ c0 c1 c2 c3 l w ⟨rfl, rfl, rfl, hk, hm, hs, hks⟩ hl0 hl1
  have hS := hks
  have hdef : tot (n + 1) (kd, m, s, ks) = s.size + (ks.length + totS ks) := rfl
  rw [hdef]
  by_cases h1 : (s.size : Int) ≤ l
  · have hn : ¬ l - s.size < 0 := by omega
    by_cases h2 : ((ks.length + totS ks : Nat) : Int) ≤ l - s.size
    · have hn2 : ¬ l - s.size - ((ks.length + totS ks : Nat) : Int) < 0 := by omega
      go_enter Tryz.func4, Tryz.ntmps4
      go_wp2_with (go_at_call 11; refine (h _ _ _ _ ((hks.up ((Below.refl _ _).alloc (Nat.le_refl _) _))) (by omega) (by omega)).mono ?_; rintro e w' ⟨rfl, hb2⟩; rw [left_pos h2])
      go_ret
      exact ⟨ret_int (by rw [left_pos (by omega)]; omega), ((Below.refl _ _).alloc (Nat.le_refl _) _).trans (hb2.mono (by simp))⟩
    · go_enter Tryz.func4, Tryz.ntmps4
      go_wp2_with (go_at_call 11; refine (h _ _ _ _ ((hks.up ((Below.refl _ _).alloc (Nat.le_refl _) _))) (by omega) (by omega)).mono ?_; rintro e w' ⟨rfl, hb2⟩; rw [left_neg h2])
      go_ret
      exact ⟨ret_int (by rw [left_neg (by omega)]), ((Below.refl _ _).alloc (Nat.le_refl _) _).trans (hb2.mono (by simp))⟩
  · have hn : l - s.size < 0 := by omega
    go_enter Tryz.func4, Tryz.ntmps4
    go_wp2_with fail
    go_ret
    exact ⟨ret_int (by rw [left_neg (by omega)]), (Below.refl _ _).alloc (Nat.le_refl _) _⟩

theorem sz_any : ∀ n, SzSaid n
  | 0 => fun t => t.elim
  | n + 1 => sz_of (szS_of (sz_any n))

end Go.Proofs.YtffgdchemjmbmaaGreat
/- The walks of eqTerm and eqTermS where both are the same term, by induction on the depth. -/
namespace Go.Proofs.YtffgdchemjmbmaaGreat
open Go.RowKit

def EqSaid (n : Nat) : Prop := ∀ (t : Tm n) (c0 c1 c2 c3 d0 d1 d2 d3 : Value) (w : World), TAt (Under w.heap.size) w n t c0 c1 c2 c3 → TAt (Under w.heap.size) w n t d0 d1 d2 d3 →
  Calls Tryz.prog 8 #[.agg #[c0, c1, c2, c3], .agg #[d0, d1, d2, d3]] w fun e w' => e = .returned (.bool true) ∧ Below w.heap.size w w'

def EqSSaid (n : Nat) : Prop := ∀ (ks : List (Tm n)) (u v : Value) (w : World), SAt (Under w.heap.size) w (TAt (Under w.heap.size) w n) ks u → SAt (Under w.heap.size) w (TAt (Under w.heap.size) w n) ks v →
  Calls Tryz.prog 22 #[u, v] w fun e w' => e = .returned (.bool true) ∧ Below w.heap.size w w'

set_option maxHeartbeats 1000000 in
theorem eqS_of {n : Nat} (h : EqSaid n) : EqSSaid n := by
  intro ks u v w hu hv
  have hu0 := hu
  have hv0 := hv
  obtain ⟨a, cap, rfl, hlen, hcap, hel⟩ := hu
  obtain ⟨a', cap', rfl, hlen', hcap', hel'⟩ := hv
  have hl1 : ((ks.length : Int) != (ks.length : Int)) = false := by simp
  go_enter Tryz.func22, Tryz.ntmps22
  go_wp2_with fail
  go_loopw [5] (fun iv wr => ∃ k : Nat, k ≤ ks.length ∧ iv = .int .i64 k ∧ Below w.heap.size w wr) (fun iv _ => ks.length - (intOf iv).toNat)
  case atStart => exact ⟨0, by omega, rfl, Below.refl _ _⟩
  case round =>
    obtain ⟨k, hk, rfl, hb⟩ := hrel
    by_cases hlt : k < ks.length
    · obtain ⟨b, off, d0, d1, d2, d3, rfl, hS, e0, e1, e2, e3, hr⟩ := hel k hlt
      obtain ⟨b', off', d0', d1', d2', d3', rfl, hS', e0', e1', e2', e3', hr'⟩ := hel' k hlt
      have F0 : ∀ x : LaterW w.heap.size wr, x.wd.cell? ⟨b, off + k * 4, none⟩ = some d0 := fun x => ((bcell (hb.trans x.be)) b _ hS).trans e0
      have F1 : ∀ x : LaterW w.heap.size wr, x.wd.cell? ⟨b, off + k * 4 + 1, none⟩ = some d1 := fun x => ((bcell (hb.trans x.be)) b _ hS).trans e1
      have F2 : ∀ x : LaterW w.heap.size wr, x.wd.cell? ⟨b, off + k * 4 + 2, none⟩ = some d2 := fun x => ((bcell (hb.trans x.be)) b _ hS).trans e2
      have F3 : ∀ x : LaterW w.heap.size wr, x.wd.cell? ⟨b, off + k * 4 + 3, none⟩ = some d3 := fun x => ((bcell (hb.trans x.be)) b _ hS).trans e3
      have G0 : ∀ x : LaterW w.heap.size wr, x.wd.cell? ⟨b', off' + k * 4, none⟩ = some d0' := fun x => ((bcell (hb.trans x.be)) b' _ hS').trans e0'
      have G1 : ∀ x : LaterW w.heap.size wr, x.wd.cell? ⟨b', off' + k * 4 + 1, none⟩ = some d1' := fun x => ((bcell (hb.trans x.be)) b' _ hS').trans e1'
      have G2 : ∀ x : LaterW w.heap.size wr, x.wd.cell? ⟨b', off' + k * 4 + 2, none⟩ = some d2' := fun x => ((bcell (hb.trans x.be)) b' _ hS').trans e2'
      have G3 : ∀ x : LaterW w.heap.size wr, x.wd.cell? ⟨b', off' + k * 4 + 3, none⟩ = some d3' := fun x => ((bcell (hb.trans x.be)) b' _ hS').trans e3'
      clear e0 e1 e2 e3 e0' e1' e2' e3' hu0 hv0
      go_wp2_with fail
      haveI hne : Nonempty (LaterW w.heap.size wr) := ⟨⟨wr, Below.refl _ _⟩⟩
      refine wp_region_later w.heap.size (by kernel_rfl) (by kernel_rfl) ?_
      repeat (go_big_quiet_step ((go_at_call 8; rename_i x; refine Calls.later (v := .bool true) hb.size (h _ _ _ _ _ _ _ _ _ _ (hr.up (hb.trans x.be)) (hr'.up (hb.trans x.be))))))
      refine wpQuiet_nil ?_
      rintro _ ⟨⟨wq, hq⟩, rfl⟩
      go_wp2_with fail
      go_roundw
      case rel => exact ⟨k + 1, hlt, by go_num, hb.trans hq⟩
      case measure => simp [intOf]; omega
    · go_wp2_with fail
      go_ret
      exact ⟨rfl, hb⟩

theorem below_two (w : World) (o o' : Obj) : Below w.heap.size w ((w.alloc o).alloc o') :=
  ((Below.refl _ _).alloc (Nat.le_refl _) _).alloc (by simp) _

set_option maxHeartbeats 1000000 in
theorem eq_of {n : Nat} (h : EqSSaid n) : EqSaid (n + 1) := by
  rintro ⟨kd, m, s, ks⟩ c0 c1 c2 c3 d0 d1 d2 d3 w ⟨rfl, rfl, rfl, hk, hm, hs, hks⟩ ⟨rfl, rfl, rfl, _, _, _, hks'⟩
  go_enter Tryz.func8, Tryz.ntmps8
  go_wp2_with (go_at_call 22; refine (h _ _ _ _ (hks.up (below_two _ _ _)) (hks'.up (below_two _ _ _))).mono ?_; rintro e w' ⟨rfl, hb2⟩)
  go_ret
  exact ⟨rfl, (below_two _ _ _).trans (hb2.mono (by simp; omega))⟩

theorem eq_any : ∀ n, EqSaid n
  | 0 => fun t => t.elim
  | n + 1 => eq_of (eqS_of (eq_any n))

end Go.Proofs.YtffgdchemjmbmaaGreat
/- The walks of toTerm and toTermS: a copy in new memory, by induction on the depth. -/
namespace Go.Proofs.YtffgdchemjmbmaaGreat
open Go.RowKit

/-- Blocks that are there in w' and weren't in w. -/
abbrev Fresh (w w' : World) : Nat → Prop := fun b => w.heap.size ≤ b ∧ b < w'.heap.size

def ToSaid (n : Nat) : Prop := ∀ (t : Tm n) (c0 c1 c2 c3 : Value) (w : World), TAt (Under w.heap.size) w n t c0 c1 c2 c3 → tot n t ≤ 1048576 →
  Calls Tryz.prog 6 #[.agg #[c0, c1, c2, c3]] w fun e w' => ∃ d0 d1 d2 d3, e = .returned (.agg #[d0, d1, d2, d3]) ∧ TAt (Fresh w w') w' n t d0 d1 d2 d3 ∧ Below w.heap.size w w'

def ToSSaid (n : Nat) : Prop := ∀ (ks : List (Tm n)) (v : Value) (w : World), SAt (Under w.heap.size) w (TAt (Under w.heap.size) w n) ks v → ks.length + totS ks ≤ 1048576 →
  Calls Tryz.prog 16 #[v] w fun e w' => ∃ u, e = .returned u ∧ SAt (Fresh w w') w' (TAt (Fresh w w') w' n) ks u ∧ Below w.heap.size w w'

/-- The cells of a new slice of terms. -/
def zeros (n : Nat) : Array Value := madeCells #[.int .i64 0, .int .i64 0, .string ⟨#[]⟩, .slice none 0 0] n
theorem zeros_size (n : Nat) : (zeros n).size = n := size_madeCells _ _

theorem run_mk (n : Nat) (hn : n ≤ 1048576) (w : World) : (Instr.makeSlice 26 (.int .i64 n) (.int .i64 n)).run Tryz.prog w =
    .ok (.slice (some ⟨w.heap.size, 0, none⟩) n n) (w.alloc (.cells (zeros (n * 4)) 28)) := by
  have := run_make (P := Tryz.prog) w 26 28 (Tryz.prog.types[28]!) (.agg #[.int .i64 0, .int .i64 0, .string ⟨#[]⟩, .slice none 0 0]) (by kernel_rfl) (by kernel_rfl) (by kernel_rfl) .i64 .i64 n n (by omega) (Int.le_refl _)
    (by rw [show (Tryz.prog.types[28]!).bytes = 56 from by kernel_rfl]; omega) (by omega)
  rw [this, show (Tryz.prog.types[28]!).size = 4 from by kernel_rfl]
  rfl

/-- A row of N cells, block B, none frozen. -/
def Row (B : Nat) (e : TypeId) (N : Nat) (w : World) : Prop := ∃ arr, w.heap[B]? = some (.cells arr e (0, 0)) ∧ arr.size = N

theorem Row.cell {B N : Nat} {e : TypeId} {w : World} (h : Row B e N w) {o : Nat} (ho : o < N) : (∃ v, w.cell? ⟨B, o, none⟩ = some v) := by
  obtain ⟨arr, h1, h2⟩ := h
  exact ⟨arr[o]'(by omega), by simp [World.cell?, h1, h2, ho]⟩
theorem Row.lt {B N : Nat} {e : TypeId} {w : World} (h : Row B e N w) : B < w.heap.size := by
  obtain ⟨arr, h1, h2⟩ := h
  rcases Nat.lt_or_ge B w.heap.size with h | h
  · exact h
  · rw [Array.getElem?_eq_none h] at h1; cases h1
theorem Row.frozen {B N : Nat} {e : TypeId} {w : World} (h : Row B e N w) (o : Nat) : w.frozen? ⟨B, o, none⟩ = false := by
  obtain ⟨arr, h1, h2⟩ := h
  simp [World.frozen?, h1]
theorem Row.keep {B N : Nat} {e : TypeId} {w w' : World} (h : Row B e N w) (hb : w'.heap[B]? = w.heap[B]?) : Row B e N w' := by
  obtain ⟨arr, h1, h2⟩ := h
  exact ⟨arr, by rw [hb, h1], h2⟩
theorem Row.setHeap {B : Nat} {e : TypeId} {w : World} {arr : Array Value} (h1 : w.heap[B]? = some (.cells arr e (0, 0))) (o : Nat) (v : Value) :
    (w.setCell ⟨B, o, none⟩ v).heap[B]? = some (.cells (arr.setIfInBounds o v) e (0, 0)) := by
  simp only [World.setCell, Array.getElem?_modify, if_true, h1, Option.map_some, Option.isSome_none, Bool.false_eq_true, if_false]
theorem Row.set {B N : Nat} {e : TypeId} {w : World} (h : Row B e N w) (o : Nat) (v : Value) : Row B e N (w.setCell ⟨B, o, none⟩ v) := by
  obtain ⟨arr, h1, h2⟩ := h
  exact ⟨arr.setIfInBounds o v, Row.setHeap h1 o v, by simp [h2]⟩
theorem Row.set_get {B N : Nat} {e : TypeId} {w : World} (h : Row B e N w) {o : Nat} (ho : o < N) (v : Value) : (w.setCell ⟨B, o, none⟩ v).cell? ⟨B, o, none⟩ = some v := by
  obtain ⟨arr, h1, h2⟩ := h
  simp [World.cell?, Row.setHeap h1 o v, h2, ho]
theorem Row.set_ne {B N : Nat} {e : TypeId} {w : World} (h : Row B e N w) {o o' : Nat} (hne : o ≠ o') (v : Value) : (w.setCell ⟨B, o, none⟩ v).cell? ⟨B, o', none⟩ = w.cell? ⟨B, o', none⟩ := by
  obtain ⟨arr, h1, h2⟩ := h
  simp [World.cell?, Row.setHeap h1 o v, h1, hne]
theorem Row.new {e : TypeId} (w : World) (arr : Array Value) : Row w.heap.size e arr.size (w.alloc (.cells arr e)) := ⟨arr, by show (w.heap.push _)[_]? = _; simp, rfl⟩

theorem frozen_of_heap {w : World} {b : Nat} {arr : Array Value} {e : TypeId} (h : w.heap[b]? = some (.cells arr e (0, 0))) (o : Nat) : w.frozen? ⟨b, o, none⟩ = false := by simp [World.frozen?, h]

/-- Four cells stored, one behind the other. -/
def set4 (w : World) (B o : Nat) (d0 d1 d2 d3 : Value) : World :=
  (((w.setCell ⟨B, o, none⟩ d0).setCell ⟨B, o + 1, none⟩ d1).setCell ⟨B, o + 2, none⟩ d2).setCell ⟨B, o + 3, none⟩ d3

theorem set4_facts {B N : Nat} {e : TypeId} {w : World} (h : Row B e N w) {o : Nat} (ho : o + 3 < N) (d0 d1 d2 d3 : Value) :
    Row B e N (set4 w B o d0 d1 d2 d3) ∧ (set4 w B o d0 d1 d2 d3).cell? ⟨B, o, none⟩ = some d0 ∧ (set4 w B o d0 d1 d2 d3).cell? ⟨B, o + 1, none⟩ = some d1 ∧
    (set4 w B o d0 d1 d2 d3).cell? ⟨B, o + 2, none⟩ = some d2 ∧ (set4 w B o d0 d1 d2 d3).cell? ⟨B, o + 3, none⟩ = some d3 ∧
    (∀ o', o' < o → (set4 w B o d0 d1 d2 d3).cell? ⟨B, o', none⟩ = w.cell? ⟨B, o', none⟩) ∧ Below B w (set4 w B o d0 d1 d2 d3) ∧
    (∀ b, b ≠ B → (set4 w B o d0 d1 d2 d3).heap[b]? = w.heap[b]?) := by
  have r1 := h.set o d0
  have r2 := r1.set (o + 1) d1
  have r3 := r2.set (o + 2) d2
  have r4 := r3.set (o + 3) d3
  refine ⟨r4, ?_, ?_, ?_, ?_, fun o' ho' => ?_, ?_, fun b hb => ?_⟩ <;> unfold set4
  · rw [r3.set_ne (by omega), r2.set_ne (by omega), r1.set_ne (by omega), h.set_get (by omega)]
  · rw [r3.set_ne (by omega), r2.set_ne (by omega), r1.set_get (by omega)]
  · rw [r3.set_ne (by omega), r2.set_get (by omega)]
  · rw [r3.set_get (by omega)]
  · rw [r3.set_ne (by omega), r2.set_ne (by omega), r1.set_ne (by omega), h.set_ne (by omega)]
  · exact ((((Below.refl B w).setCell (p := ⟨B, _, none⟩) (Nat.le_refl B) _).setCell (p := ⟨B, _, none⟩) (Nat.le_refl B) _).setCell (p := ⟨B, _, none⟩) (Nat.le_refl B) _).setCell (p := ⟨B, _, none⟩) (Nat.le_refl B) _
  · rw [Below.heap_setCell _ _ _ _ hb, Below.heap_setCell _ _ _ _ hb, Below.heap_setCell _ _ _ _ hb, Below.heap_setCell _ _ _ _ hb]

set_option maxHeartbeats 1000000 in
theorem toS_of {n : Nat} (h : ToSaid n) : ToSSaid n := by
  intro ks v w hv htot
  obtain ⟨a, cap, rfl, hlen, hcap, hel⟩ := hv
  have hmk := run_mk ks.length (by omega)
  go_enter Tryz.func16, Tryz.ntmps16
  go_wp2_with fail
  clear hmk
  go_loopw [4] (fun iv wr => ∃ k : Nat, k ≤ ks.length ∧ iv = .int .i64 k ∧ Below w.heap.size w wr ∧ Row w.heap.size 28 (ks.length * 4) wr ∧
      ∀ j (hj : j < ks.length), j < k → ∃ d0 d1 d2 d3, wr.cell? ⟨w.heap.size, j * 4, none⟩ = some d0 ∧ wr.cell? ⟨w.heap.size, j * 4 + 1, none⟩ = some d1 ∧
        wr.cell? ⟨w.heap.size, j * 4 + 2, none⟩ = some d2 ∧ wr.cell? ⟨w.heap.size, j * 4 + 3, none⟩ = some d3 ∧ TAt (fun b => w.heap.size < b ∧ b < wr.heap.size) wr n ks[j] d0 d1 d2 d3) (fun iv _ => ks.length - (intOf iv).toNat)
  case atStart =>
    refine ⟨0, by omega, rfl, (Below.refl _ _).alloc (Nat.le_refl _) _, ?_, fun j _ hj => absurd hj (by omega)⟩
    have := Row.new (e := 28) w (zeros (ks.length * 4))
    rwa [zeros_size] at this
  case round =>
    obtain ⟨k, hk, rfl, hb, hrow, hall⟩ := hrel
    by_cases hlt : k < ks.length
    · obtain ⟨b, off, d0, d1, d2, d3, rfl, hS, e0, e1, e2, e3, hr⟩ := hel k hlt
      have hbc := bcell hb
      have f0 := (hbc b _ hS).trans e0
      have f1 := (hbc b _ hS).trans e1
      have f2 := (hbc b _ hS).trans e2
      have f3 := (hbc b _ hS).trans e3
      have ht : tot n ks[k] ≤ 1048576 := by
        have := totS_take ks k hlt
        have := totS_le ks (k + 1)
        omega
      clear hbc e0 e1 e2 e3
      go_wp2_with fail
      refine (h _ _ _ _ _ _ (hr.up hb) ht).mono ?_
      rintro e w1 ⟨g0, g1, g2, g3, rfl, hg, hb1⟩
      have hrow1 := hrow.keep (hb1.block _ hrow.lt)
      obtain ⟨v0, x0⟩ := hrow1.cell (o := k * 4) (by omega)
      obtain ⟨v1, x1⟩ := hrow1.cell (o := k * 4 + 1) (by omega)
      obtain ⟨v2, x2⟩ := hrow1.cell (o := k * 4 + 2) (by omega)
      obtain ⟨v3, x3⟩ := hrow1.cell (o := k * 4 + 3) (by omega)
      have z0 := hrow1.frozen (k * 4)
      have z1 := hrow1.frozen (k * 4 + 1)
      have z2 := hrow1.frozen (k * 4 + 2)
      have z3 := hrow1.frozen (k * 4 + 3)
      obtain ⟨gk, gm, gs, ga, gl, gc, rfl, rfl, rfl, rfl⟩ := hg.shape
      have HF : Hid _ := set4_facts hrow1 (o := k * 4) (by omega) (.int .i64 gk) (.int .i64 gm) (.string gs) (.slice ga gl gc)
      clear f0 f1 f2 f3
      go_wp2_with fail
      clear x0 x1 x2 x3 z0 z1 z2 z3
      obtain ⟨s1, s2, s3, s4, s5, s6, s7, s8⟩ := HF.out
      go_roundw
      case rel =>
        refine ⟨k + 1, hlt, by go_num, (hb.trans (hb1.mono hb.size)).trans s7, s1, fun j hj hjk => ?_⟩
        by_cases hjk2 : j = k
        · subst hjk2
          refine ⟨_, _, _, _, s2, s3, s4, s5, ?_⟩
          have hlt2 := hrow.lt
          exact (hg.keep fun b hb => s8 b (by omega)).mono fun b hb => ⟨by omega, Nat.lt_of_lt_of_le hb.2 s7.size⟩
        · obtain ⟨q0, q1, q2, q3, y0, y1, y2, y3, hq⟩ := hall j hj (by omega)
          have hkeep : ∀ b, (w.heap.size < b ∧ b < wr.heap.size) → (set4 w1 w.heap.size (k * 4) (.int .i64 gk) (.int .i64 gm) (.string gs) (.slice ga gl gc)).heap[b]? = wr.heap[b]? :=
            fun b hb => (s8 b (by omega)).trans (hb1.block b hb.2)
          have hc1 : ∀ o, w1.cell? ⟨w.heap.size, o, none⟩ = wr.cell? ⟨w.heap.size, o, none⟩ := fun o => World.cell?_of_block (w := wr) (hb1.block _ hrow.lt)
          refine ⟨q0, q1, q2, q3, ?_, ?_, ?_, ?_, (hq.keep hkeep).mono fun b hb => ⟨hb.1, Nat.lt_of_lt_of_le hb.2 (Nat.le_trans hb1.size s7.size)⟩⟩
          · exact ((s6 _ (by omega)).trans (hc1 _)).trans y0
          · exact ((s6 _ (by omega)).trans (hc1 _)).trans y1
          · exact ((s6 _ (by omega)).trans (hc1 _)).trans y2
          · exact ((s6 _ (by omega)).trans (hc1 _)).trans y3
      case measure => simp [intOf]; omega
    · have hkk : k = ks.length := by omega
      subst hkk
      have hlt2 := hrow.lt
      go_wp2_with fail
      go_ret
      refine ⟨_, rfl, ⟨_, _, rfl, Nat.le_refl _, by omega, fun i hi => ?_⟩, hb⟩
      obtain ⟨q0, q1, q2, q3, y0, y1, y2, y3, hq⟩ := hall i hi hi
      exact ⟨_, 0, q0, q1, q2, q3, rfl, ⟨Nat.le_refl _, hlt2⟩, by simpa using y0, by simpa using y1, by simpa using y2, by simpa using y3, hq.mono fun b hb => ⟨by omega, hb.2⟩⟩

set_option maxHeartbeats 1000000 in
theorem to_of {n : Nat} (h : ToSSaid n) : ToSaid (n + 1) := by
  rintro ⟨kd, m, s, ks⟩ c0 c1 c2 c3 w ⟨rfl, rfl, rfl, hk, hm, hs, hks⟩ ht
  have hdef : tot (n + 1) (kd, m, s, ks) = s.size + (ks.length + totS ks) := rfl
  rw [hdef] at ht
  clear hdef
  go_enter Tryz.func6, Tryz.ntmps6
  go_wp2_with fail
  have hb3 : Below w.heap.size w (((w.alloc (.cells #[.int .i64 kd, .int .i64 m, .string s, c3] 24)).alloc (.cells #[.int .i64 0, .int .i64 0, .string ⟨#[]⟩, .slice none 0 0] 28)).alloc (.cells #[.int .i64 kd, .int .i64 m, .string s, .slice none 0 0] 28)) :=
    (below_two _ _ _).alloc (by simp; omega) _
  refine (h _ _ _ (hks.up hb3) (by omega)).mono ?_
  rintro e w1 ⟨u, rfl, hu, hb1⟩
  have HU := hide hu
  obtain ⟨ua, uc, rfl, -, -, -⟩ := hu
  have hblk := hb1.block
  have hh1 : w1.heap[w.heap.size + 1]? = some (.cells #[.int .i64 0, .int .i64 0, .string ⟨#[]⟩, .slice none 0 0] 28) := by
    rw [hblk _ (by simp), Below.heap_alloc _ _ _ (by simp)]
    have := heap_new (w.alloc (.cells #[.int .i64 kd, .int .i64 m, .string s, c3] 24)) (.cells #[.int .i64 0, .int .i64 0, .string ⟨#[]⟩, .slice none 0 0] 28)
    rwa [World.size_alloc] at this
  have hh2 : w1.heap[w.heap.size + 1 + 1]? = some (.cells #[.int .i64 kd, .int .i64 m, .string s, .slice none 0 0] 28) := by
    rw [hblk _ (by simp)]
    have := heap_new ((w.alloc (.cells #[.int .i64 kd, .int .i64 m, .string s, c3] 24)).alloc (.cells #[.int .i64 0, .int .i64 0, .string ⟨#[]⟩, .slice none 0 0] 28)) (.cells #[.int .i64 kd, .int .i64 m, .string s, .slice none 0 0] 28)
    rwa [World.size_alloc, World.size_alloc] at this
  have h1 := cell_of_heap hh1
  have h2 := cell_of_heap hh2
  have f1 := frozen_of_heap hh1
  have f2 := frozen_of_heap hh2
  have hsz : w.heap.size + 1 + 1 + 1 ≤ w1.heap.size := by simpa using hb1.size
  have HB : Hid (Below w.heap.size w w1) := hb3.trans (hb1.mono (by simp; omega))
  clear hblk hh1 hh2
  go_wp2_with fail
  refine bodyPost_ret (v := .agg #[.int .i64 kd, .int .i64 m, .string s, .slice ua ks.length uc]) (by simp [results, Tryz.results6, go_sem, h1]) rfl ⟨_, _, _, _, rfl, ⟨rfl, rfl, rfl, hk, hm, hs, ?_⟩, ?_⟩
  · have hkeep : ∀ b, w.heap.size + 1 + 1 + 1 ≤ b → (((((w1.setCell ⟨w.heap.size + 1 + 1, 3, none⟩ (.slice ua ks.length uc)).setCell ⟨w.heap.size + 1, 0, none⟩ (.int .i64 kd)).setCell ⟨w.heap.size + 1, 1, none⟩ (.int .i64 m)).setCell
        ⟨w.heap.size + 1, 2, none⟩ (.string s)).setCell ⟨w.heap.size + 1, 3, none⟩ (.slice ua ks.length uc)).heap[b]? = w1.heap[b]? := fun b hb => by
      rw [Below.heap_setCell _ _ _ _ (by simp; omega), Below.heap_setCell _ _ _ _ (by simp; omega), Below.heap_setCell _ _ _ _ (by simp; omega), Below.heap_setCell _ _ _ _ (by simp; omega), Below.heap_setCell _ _ _ _ (by simp; omega)]
    have hf : ∀ b, Fresh (((w.alloc (.cells #[.int .i64 kd, .int .i64 m, .string s, c3] 24)).alloc (.cells #[.int .i64 0, .int .i64 0, .string ⟨#[]⟩, .slice none 0 0] 28)).alloc (.cells #[.int .i64 kd, .int .i64 m, .string s, .slice none 0 0] 28)) w1 b →
        w.heap.size + 1 + 1 + 1 ≤ b ∧ b < w1.heap.size := fun b hb => by simpa [Fresh] using hb
    have hk2 := fun b hb => hkeep b (hf b hb).1
    exact ((unhide HU).keep hk2 fun _ _ _ _ _ _ ht => ht.keep hk2).mono (fun b hb => ⟨by have := hf b hb; omega, by have := hf b hb; simpa using this.2⟩) fun _ _ _ _ _ _ ht => ht.mono fun b hb => ⟨by have := hf b hb; omega, by have := hf b hb; simpa using this.2⟩
  · exact (((((HB.out.setCell (p := ⟨_, _, none⟩) (by simp; omega) _).setCell (p := ⟨_, _, none⟩) (by simp) _).setCell (p := ⟨_, _, none⟩) (by simp) _).setCell (p := ⟨_, _, none⟩) (by simp) _).setCell (p := ⟨_, _, none⟩) (by simp) _)

theorem to_any : ∀ n, ToSaid n
  | 0 => fun t => t.elim
  | n + 1 => to_of (toS_of (to_any n))

end Go.Proofs.YtffgdchemjmbmaaGreat
/- Letters, digits, names: the bytes' tests and the names' of both packages. -/
namespace Go.Proofs.YtffgdchemjmbmaaGreat
open Go.RowKit

def lowB (b : Int) : Bool := decide (97 ≤ b) && decide (b ≤ 122)
def digB (b : Int) : Bool := decide (48 ≤ b) && decide (b ≤ 57)
def letB (b : Int) : Bool := lowB b || (decide (65 ≤ b) && decide (b ≤ 90)) || decide (b = 95)

theorem lowB_true {b : Int} : lowB b = true ↔ 97 ≤ b ∧ b ≤ 122 := by simp [lowB]
theorem digB_true {b : Int} : digB b = true ↔ 48 ≤ b ∧ b ≤ 57 := by simp [digB]
theorem letB_true {b : Int} : letB b = true ↔ (97 ≤ b ∧ b ≤ 122) ∨ (65 ≤ b ∧ b ≤ 90) ∨ b = 95 := by simp [letB, lowB, or_assoc]
theorem ret_bool {a b : Bool} (h : a = b) : Ending.returned (.bool a) = .returned (.bool b) := by rw [h]

set_option maxHeartbeats 400000 in
theorem lower_any (b : Int) (w : World) : Calls Tryz.prog 46 #[.int .u8 b] w fun e w' => e = .returned (.bool (lowB b)) ∧ w' = w := by
  by_cases h1 : 97 ≤ b
  · by_cases h2 : b ≤ 122
    all_goals
      go_enter Tryz.func46, Tryz.ntmps46
      go_wp2
      go_ret
      exact ⟨ret_bool (by simp only [lowB]; simp; omega), rfl⟩
  · go_enter Tryz.func46, Tryz.ntmps46
    go_wp2
    go_ret
    exact ⟨ret_bool (by simp only [lowB]; simp; omega), rfl⟩

set_option maxHeartbeats 400000 in
theorem digit_any (b : Int) (w : World) : Calls Tryz.prog 45 #[.int .u8 b] w fun e w' => e = .returned (.bool (digB b)) ∧ w' = w := by
  by_cases h1 : 48 ≤ b
  · by_cases h2 : b ≤ 57
    all_goals
      go_enter Tryz.func45, Tryz.ntmps45
      go_wp2
      go_ret
      exact ⟨ret_bool (by simp only [digB]; simp; omega), rfl⟩
  · go_enter Tryz.func45, Tryz.ntmps45
    go_wp2
    go_ret
    exact ⟨ret_bool (by simp only [digB]; simp; omega), rfl⟩

set_option maxHeartbeats 400000 in
theorem letter_any (b : Int) (w : World) : Calls Tryz.prog 44 #[.int .u8 b] w fun e w' => e = .returned (.bool (letB b)) ∧ w' = w := by
  by_cases h1 : lowB b = true
  · have h2 := lowB_true.1 h1
    go_enter Tryz.func44, Tryz.ntmps44
    go_wp2_with (go_at_call 46; refine (lower_any _ _).mono ?_; rintro e w' ⟨rfl, rfl⟩; rw [h1])
    go_ret
    exact ⟨ret_bool (letB_true.2 (by omega)).symm, rfl⟩
  · have h2 : lowB b = false := by simpa using h1
    by_cases h3 : 65 ≤ b
    · by_cases h4 : b ≤ 90
      · go_enter Tryz.func44, Tryz.ntmps44
        go_wp2_with (go_at_call 46; refine (lower_any _ _).mono ?_; rintro e w' ⟨rfl, rfl⟩; rw [h2])
        go_ret
        exact ⟨ret_bool (letB_true.2 (by omega)).symm, rfl⟩
      · go_enter Tryz.func44, Tryz.ntmps44
        go_wp2_with (go_at_call 46; refine (lower_any _ _).mono ?_; rintro e w' ⟨rfl, rfl⟩; rw [h2])
        go_ret
        exact ⟨ret_bool (by rw [Bool.eq_iff_iff]; simp [letB, h2]; omega), rfl⟩
    · go_enter Tryz.func44, Tryz.ntmps44
      go_wp2_with (go_at_call 46; refine (lower_any _ _).mono ?_; rintro e w' ⟨rfl, rfl⟩; rw [h2])
      go_ret
      exact ⟨ret_bool (by rw [Bool.eq_iff_iff]; simp [letB, h2]; omega), rfl⟩

/-- A byte that may stand in a name. -/
def nbB (b : UInt8) : Bool := letB b.toNat || digB b.toNat
/-- A name of chapter 1. -/
def nameB (s : ByteArray) : Bool := decide (0 < s.size) && decide (s.size ≤ 30) && s.data.toList.all nbB && lowB (s.data.toList.getD 0 0).toNat

theorem all_of {s : ByteArray} {p : UInt8 → Bool} : s.data.toList.all p = true ↔ ∀ k (h : k < s.size), p s[k] = true := by
  rw [List.all_eq_true]
  constructor
  · intro h k hk
    exact h _ (by have : s[k] = s.data.toList[k]'(by simpa using hk) := rfl; rw [this]; exact List.getElem_mem _)
  · intro h x hx
    obtain ⟨k, hk, rfl⟩ := List.getElem_of_mem hx
    exact h k (by simpa using hk)
theorem first_of {s : ByteArray} (h : 0 < s.size) : s.data.toList.getD 0 0 = s[0] := by
  have : 0 < s.data.toList.length := by simpa using h
  rw [List.getD_eq_getElem?_getD, List.getElem?_eq_getElem this]; rfl

set_option maxHeartbeats 1000000 in
theorem name_any (s : ByteArray) (w : World) (hs : s.size ≤ 2 ^ 47) : Calls Tryz.prog 36 #[.string s] w fun e w' => e = .returned (.bool (nameB s)) ∧ w' = w := by
  go_enter Tryz.func36, Tryz.ntmps36
  go_wp2_with fail
  go_loop [3] (fun i => ∃ k : Nat, k ≤ s.size ∧ i = .int .i64 k ∧ ∀ j (h : j < s.size), j < k → nbB s[j] = true) (fun i => s.size - (intOf i).toNat)
  case atStart => exact ⟨0, Nat.zero_le _, rfl, fun j _ h => absurd h (by omega)⟩
  case round =>
    obtain ⟨k, hk, rfl, hall⟩ := hrel
    by_cases hlt : k < s.size
    · have hnb : nbB s[k] = (letB s[k].toNat || digB s[k].toNat) := rfl
      by_cases h1 : letB s[k].toNat = true
      · rw [h1, Bool.true_or] at hnb
        have hnot : (!true) = false := rfl
        have HN := hide hnb
        clear hnb
        go_wp2_with (first | (go_at_call 44; refine (letter_any _ _).mono ?_; rintro e w' ⟨rfl, rfl⟩; rw [h1]) | (go_at_call 45; refine (digit_any _ _).mono ?_; rintro e w' ⟨rfl, rfl⟩))
        go_round
        case rel => exact ⟨k + 1, hlt, by go_num, fun j hj hjk => if h : j = k then by subst h; exact unhide HN else hall j hj (by omega)⟩
        case measure => simp [intOf]; omega
      · have h1' : letB s[k].toNat = false := by simpa using h1
        rw [h1', Bool.false_or] at hnb
        by_cases h2 : digB s[k].toNat = true
        · rw [h2] at hnb
          have HN := hide hnb
          clear hnb h1
          go_wp2_with (first | (go_at_call 44; refine (letter_any _ _).mono ?_; rintro e w' ⟨rfl, rfl⟩; rw [h1']) | (go_at_call 45; refine (digit_any _ _).mono ?_; rintro e w' ⟨rfl, rfl⟩; rw [h2]))
          go_round
          case rel => exact ⟨k + 1, hlt, by go_num, fun j hj hjk => if h : j = k then by subst h; exact unhide HN else hall j hj (by omega)⟩
          case measure => simp [intOf]; omega
        · have h2' : digB s[k].toNat = false := by simpa using h2
          rw [h2'] at hnb
          have HN := hide hnb
          clear hnb h1 h2
          go_wp2_with (first | (go_at_call 44; refine (letter_any _ _).mono ?_; rintro e w' ⟨rfl, rfl⟩; rw [h1']) | (go_at_call 45; refine (digit_any _ _).mono ?_; rintro e w' ⟨rfl, rfl⟩; rw [h2']))
          go_ret
          refine ⟨ret_bool ?_, rfl⟩
          have : s.data.toList.all nbB = false := by
            rw [← Bool.not_eq_true, all_of]; intro h; have := h k hlt; rw [unhide HN] at this; cases this
          rw [nameB, this]; simp
    · have hks : k = s.size := by omega
      subst hks
      have hall' : Hid (s.data.toList.all nbB = true) := all_of.2 fun j h => hall j h h
      by_cases h1 : 0 < s.size
      · by_cases h2 : s.size ≤ 30
        · go_wp2_with (go_at_call 46; refine (lower_any _ _).mono ?_; rintro e w' ⟨rfl, rfl⟩)
          go_ret
          refine ⟨ret_bool ?_, rfl⟩
          rw [nameB, unhide hall', first_of h1]; simp [h1, h2]
        · go_wp2_with fail
          go_ret
          refine ⟨ret_bool ?_, rfl⟩
          simp [nameB]; omega
      · go_wp2_with fail
        go_ret
        refine ⟨ret_bool ?_, rfl⟩
        simp [nameB]; omega

end Go.Proofs.YtffgdchemjmbmaaGreat
/- How many terms a term is, and how deep: l01Measure, l01Fits. -/
namespace Go.Proofs.YtffgdchemjmbmaaGreat
open Go.RowKit

def siz : (n : Nat) → Tm n → Nat
  | 0, t => t.elim
  | n + 1, (_, _, _, ks) => 1 + (ks.map (siz n)).sum
def sizS {n : Nat} (ks : List (Tm n)) : Nat := (ks.map (siz n)).sum
def dep : (n : Nat) → Tm n → Nat
  | 0, t => t.elim
  | n + 1, (_, _, _, ks) => 1 + (ks.map (dep n)).foldl max 0
def depS {n : Nat} (ks : List (Tm n)) : Nat := (ks.map (dep n)).foldl max 0

theorem sizS_take {n : Nat} (ks : List (Tm n)) (k : Nat) (h : k < ks.length) : sizS (ks.take (k + 1)) = sizS (ks.take k) + siz n ks[k] := by
  unfold sizS; rw [List.take_succ_eq_append_getElem h, List.map_append, List.sum_append]; simp only [List.map_cons, List.map_nil, List.sum_cons, List.sum_nil, Nat.add_zero]
theorem depS_take {n : Nat} (ks : List (Tm n)) (k : Nat) (h : k < ks.length) : depS (ks.take (k + 1)) = max (depS (ks.take k)) (dep n ks[k]) := by
  unfold depS; rw [List.take_succ_eq_append_getElem h, List.map_append, List.foldl_append]; rfl
theorem sizS_le {n : Nat} (ks : List (Tm n)) (k : Nat) : sizS (ks.take k) ≤ sizS ks := by
  have : sizS ks = sizS (ks.take k) + sizS (ks.drop k) := by unfold sizS; rw [← List.sum_append, ← List.map_append, List.take_append_drop]
  omega
theorem foldl_max_le (l : List Nat) : ∀ a, a ≤ l.foldl max a := by
  induction l with
  | nil => intro a; exact Nat.le_refl _
  | cons x l ih => intro a; exact Nat.le_trans (Nat.le_max_left a x) (ih _)
theorem depS_le {n : Nat} (ks : List (Tm n)) (k : Nat) : depS (ks.take k) ≤ depS ks := by
  have : depS ks = ((ks.drop k).map (dep n)).foldl max (depS (ks.take k)) := by
    unfold depS; rw [← List.foldl_append, ← List.map_append, List.take_append_drop]
  rw [this]; exact foldl_max_le _ _
theorem siz_pos : ∀ {n : Nat} (t : Tm n), 1 ≤ siz n t
  | 0, t => t.elim
  | _ + 1, (_, _, _, _) => Nat.le_add_right _ _
def MeaSaid (n : Nat) : Prop := ∀ (t : Tm n) (c0 c1 c2 c3 : Value) (r d : Int) (w : World), TAt (Under w.heap.size) w n t c0 c1 c2 c3 → -10 ≤ r → r ≤ 2000 → -10 ≤ d → d ≤ 100 →
  ((siz n t : Int) ≤ r ∧ (dep n t : Int) ≤ d → Calls Tryz.prog 35 #[.agg #[c0, c1, c2, c3], .int .i64 r, .int .i64 d] w fun e w' => e = .returned (.tuple #[.int .i64 (siz n t), .int .i64 (dep n t)]) ∧ Below w.heap.size w w') ∧
  (¬ ((siz n t : Int) ≤ r ∧ (dep n t : Int) ≤ d) → Calls Tryz.prog 35 #[.agg #[c0, c1, c2, c3], .int .i64 r, .int .i64 d] w fun e w' => e = .returned (.tuple #[.int .i64 2001, .int .i64 101]) ∧ Below w.heap.size w w')

theorem ret_int2 {k : IntKind} {a b c d : Int} (h : a = c) (h' : b = d) : Ending.returned (.tuple #[.int k a, .int k b]) = .returned (.tuple #[.int k c, .int k d]) := by rw [h, h']

def MeaEnd (a b : Nat) (r d : Int) (e : Ending) : Prop :=
  ((a : Int) ≤ r ∧ (b : Int) ≤ d → e = .returned (.tuple #[.int .i64 a, .int .i64 b])) ∧ (¬ ((a : Int) ≤ r ∧ (b : Int) ≤ d) → e = .returned (.tuple #[.int .i64 2001, .int .i64 101]))

set_option maxRecDepth 100000 in
set_option maxHeartbeats 2000000 in
theorem mea_of {n : Nat} (h : MeaSaid n) : MeaSaid (n + 1) := by
  rintro ⟨kd, m, s, ks⟩ c0 c1 c2 c3 r d w ⟨rfl, rfl, rfl, hk, hm, hs, hks⟩ hr0 hr1 hd0 hd1
  have hsz : siz (n + 1) (kd, m, s, ks) = 1 + sizS ks := rfl
  have hdp : dep (n + 1) (kd, m, s, ks) = 1 + depS ks := rfl
  rw [hsz, hdp]
  have hb1 : Below w.heap.size w (w.alloc (.cells #[.int .i64 kd, .int .i64 m, .string s, c3] 28)) := (Below.refl _ _).alloc (Nat.le_refl _) _
  obtain ⟨a, cap, rfl, hlen, hcap, hel⟩ := hks
  clear hsz hdp
  -- one walk for both outcomes, the loop's way out told by what holds of all kids
  suffices key : Calls Tryz.prog 35 #[.agg #[.int .i64 kd, .int .i64 m, .string s, .slice a ks.length cap], .int .i64 r, .int .i64 d] w fun e w' =>
      MeaEnd (1 + sizS ks) (1 + depS ks) r d e ∧ Below w.heap.size w w' from
    ⟨fun hf => key.mono fun e w' he => ⟨he.1.1 hf, he.2⟩, fun hf => key.mono fun e w' he => ⟨he.1.2 hf, he.2⟩⟩
  by_cases hr : r ≤ 0
  · go_enter Tryz.func35, Tryz.ntmps35
    go_wp2_with fail
    go_ret2
    exact ⟨⟨fun hf => by omega, fun _ => rfl⟩, hb1⟩
  · by_cases hd : d ≤ 0
    · go_enter Tryz.func35, Tryz.ntmps35
      go_wp2_with fail
      go_ret2
      exact ⟨⟨fun hf => by omega, fun _ => rfl⟩, hb1⟩
    · go_enter Tryz.func35, Tryz.ntmps35
      go_wp2_with fail
      go_loopw [8, 9, 10] (fun nv mv iv wr => ∃ k : Nat, k ≤ ks.length ∧ iv = .int .i64 k ∧ nv = .int .i64 (1 + sizS (ks.take k) : Nat) ∧ mv = .int .i64 (depS (ks.take k)) ∧
        ((1 + sizS (ks.take k) : Nat) : Int) ≤ r ∧ ((1 + depS (ks.take k) : Nat) : Int) ≤ d ∧ Below (w.heap.size + 1) (w.alloc (.cells #[.int .i64 kd, .int .i64 m, .string s, .slice a ks.length cap] 28)) wr) (fun _ _ iv _ => ks.length - (intOf iv).toNat)
      case atStart => exact ⟨0, Nat.zero_le _, rfl, by simp [sizS], by simp [depS], by simp [sizS]; omega, by simp [depS]; omega, Below.refl _ _⟩
      case round =>
        obtain ⟨k, hk, rfl, rfl, rfl, hn, hmo, hb⟩ := hrel
        have hbx : wr.cell? ⟨w.heap.size, 3, none⟩ = some (.slice a ks.length cap) := by
          rw [hb.cell (p := ⟨w.heap.size, 3, none⟩) (by simp)]; exact cell_of_heap (heap_new w _) 3
        have hbw : Below w.heap.size w wr := hb1.trans (hb.mono (by omega))
        by_cases hlt : k < ks.length
        · obtain ⟨b, off, d0, d1, d2, d3, rfl, hS, e0, e1, e2, e3, ht⟩ := hel k hlt
          have hbc := bcell hbw
          have f0 := (hbc b _ hS).trans e0
          have f1 := (hbc b _ hS).trans e1
          have f2 := (hbc b _ hS).trans e2
          have f3 := (hbc b _ hS).trans e3
          have hst := hide (sizS_take ks k hlt)
          have hdt := hide (depS_take ks k hlt)
          have hsl := sizS_le ks (k + 1)
          have hdl := depS_le ks (k + 1)
          clear hbc e0 e1 e2 e3 hel
          have hc := h ks[k] d0 d1 d2 d3 (r - (1 + sizS (ks.take k) : Nat)) (d - 1) wr (ht.up hbw) (by omega) (by omega) (by omega) (by omega)
          by_cases hf : (siz n ks[k] : Int) ≤ r - (1 + sizS (ks.take k) : Nat) ∧ (dep n ks[k] : Int) ≤ d - 1
          · have hc2 := hide (hc.1 hf)
            clear hc
            obtain ⟨hf1, hf2⟩ := hf
            go_wp2_with (go_at_call 35; refine (unhide hc2).mono ?_; rintro e w' ⟨rfl, hb2⟩)
            all_goals
              go_roundw
              case rel =>
                have est := unhide hst
                have edt := unhide hdt
                exact ⟨k + 1, hlt, by go_num, by rw [est]; congr 1; omega, by rw [edt]; congr 1; omega, by rw [est]; omega, by rw [edt]; omega, hb.trans (hb2.mono (by have := hb.size; simpa using this))⟩
              case measure => simp [intOf]; omega
          · have hc2 := hide (hc.2 hf)
            clear hc
            have hno : ¬ (((1 + sizS ks : Nat) : Int) ≤ r ∧ ((1 + depS ks : Nat) : Int) ≤ d) := by
              have est := unhide hst
              have edt := unhide hdt
              omega
            have hno2 := hide hno
            clear hno hf hsl hdl
            go_wp2_with (go_at_call 35; refine (unhide hc2).mono ?_; rintro e w' ⟨rfl, hb2⟩)
            go_ret2
            exact ⟨⟨fun hf => absurd hf (unhide hno2), fun _ => rfl⟩, hbw.trans (hb2.mono hbw.size)⟩
        · have hkk : k = ks.length := by omega
          subst hkk
          rw [List.take_length] at hn hmo ⊢
          go_wp2_with fail
          go_ret2
          exact ⟨⟨fun _ => ret_int2 rfl (by omega), fun hf => absurd ⟨hn, hmo⟩ hf⟩, hbw⟩

theorem mea_any : ∀ n, MeaSaid n
  | 0 => fun t => t.elim
  | n + 1 => mea_of (mea_any n)

/-- It fits: at most 2000 terms, at most 100 deep. -/
def fitsB (n : Nat) (t : Tm n) : Bool := decide (siz n t ≤ 2000) && decide (dep n t ≤ 100)

set_option maxHeartbeats 1000000 in
theorem fits_any {n : Nat} (t : Tm n) (c0 c1 c2 c3 : Value) (w : World) (ht : TAt (Under w.heap.size) w n t c0 c1 c2 c3) :
    Calls Tryz.prog 25 #[.agg #[c0, c1, c2, c3]] w fun e w' => e = .returned (.bool (fitsB n t)) ∧ Below w.heap.size w w' := by
  obtain ⟨_, _, _, _, _, _, rfl, rfl, rfl, rfl⟩ := ht.shape
  have hbx := fun x : Obj => (Below.refl w.heap.size w).alloc (Nat.le_refl _) x
  by_cases hf : siz n t ≤ 2000 ∧ dep n t ≤ 100
  · obtain ⟨h1, h2⟩ := hf
    go_enter Tryz.func25, Tryz.ntmps25
    go_wp2_with (go_at_call 35; refine ((mea_any n t _ _ _ _ _ _ _ (ht.up (hbx _)) (by omega) (by omega) (by omega) (by omega)).1 (by omega)).mono ?_; rintro e w' ⟨rfl, hb2⟩)
    go_ret
    exact ⟨ret_bool (by rw [Bool.eq_iff_iff]; simp [fitsB]; omega), (hbx _).trans (hb2.mono (by simp))⟩
  · have h3 : fitsB n t = false := by simp only [fitsB, Bool.and_eq_false_iff, decide_eq_false_iff_not]; omega
    go_enter Tryz.func25, Tryz.ntmps25
    go_wp2_with (go_at_call 35; refine ((mea_any n t _ _ _ _ _ _ _ (ht.up (hbx _)) (by omega) (by omega) (by omega) (by omega)).2 (by omega)).mono ?_; rintro e w' ⟨rfl, hb2⟩)
    go_ret
    exact ⟨ret_bool h3.symm, (hbx _).trans (hb2.mono (by simp))⟩

end Go.Proofs.YtffgdchemjmbmaaGreat
