/- What both families of texts share: facts kept out of the walk's sight, worlds in which nothing below a bound has turned, a new block's cells. -/
import Derived.Below
import Derived.ProofKit
import Derived.WalkKit
import Derived.BigQuiet
import Derived.Test.YthfjgffhncogaaaGreatRows
import Derived.OpenShut
import Derived.SizedLaws
import Derived.Lib.SmallJoins
import Derived.WalkSpells
import Derived.WalkLawsBesides
namespace Go.Proofs.YthfjgffhncogaaaGreat
open Go.RowKit

theorem hide {p : Prop} (h : p) : Hid p := h
theorem unhide {p : Prop} (h : Hid p) : p := h
theorem ret_int {k : IntKind} {a b : Int} (h : a = b) : Ending.returned (.int k a) = .returned (.int k b) := by rw [h]
theorem ret_back {k : IntKind} {a b : Int} (h : a = b) : Ending.returned (.int k b) = .returned (.int k a) := by rw [h]
theorem heap_new (w : World) (o : Obj) : (w.alloc o).heap[w.heap.size]? = some o := by show (w.heap.push _)[_]? = _; simp
theorem cell_of_heap {w : World} {b : Nat} {arr : Array Value} {e : TypeId} {fr : Nat × Nat} (h : w.heap[b]? = some (.cells arr e fr)) (o : Nat) : w.cell? ⟨b, o, none⟩ = arr[o]? := by simp [World.cell?, h]

/-- A world in which nothing below B has turned. -/
structure LaterW (B : Nat) (w : World) where
  wd : World
  be : Below B w wd

/-- A region that draws its order, whose operations only read and whose callees turn nothing below B: one walk, in the order of the text. -/
theorem wp_region_later {P : Program} {id : Nat} {Q : Exit → Act → World → Prop} {a : Act} {w : World} {l : List Oper} (B : Nat) (hm : P.follows .mixedOrders = true) (hB : Region.lexB .any l.toArray = true)
    (h : wpQuiet P l.toArray (fun w' => ∃ x : LaterW B w, w' = x.wd) (fun a' => ∀ w', (∃ x : LaterW B w, w' = x.wd) → Q .normal a' w') l a) : (Code.region id l.toArray true).wp P Q a w :=
  wp_region_quiet (C := fun w' => ∃ x : LaterW B w, w' = x.wd) hm hB ⟨⟨_, (Below.refl _ _).drew⟩, rfl⟩ (by simpa using h)

theorem Calls.later {P : Program} {f : FuncId} {args : Array Value} {B : Nat} {w : World} {x : LaterW B w} {v : Value} (hB : B ≤ w.heap.size)
    (h : Calls P f args x.wd fun e w' => e = .returned v ∧ Below x.wd.heap.size x.wd w') : Calls P f args x.wd fun e w'' => e = .returned v ∧ ∃ y : LaterW B w, w'' = y.wd :=
  h.mono fun _ w'' ⟨he, hb⟩ => ⟨he, ⟨w'', x.be.trans (hb.mono (Nat.le_trans hB x.be.size))⟩, rfl⟩

end Go.Proofs.YthfjgffhncogaaaGreat
/- Plain definitions: trees of bounded depth, how they lie in memory, what becomes of that when the world grows. Nothing of the program is named here. -/
namespace Go.Proofs.YthfjgffhncogaaaGreat
open Go.RowKit

/-- A term's tree, at most so deep: its kind, its number, its text, its kids. -/
def Tm : Nat → Type
  | 0 => Empty
  | n + 1 => Int × Int × ByteArray × List (Tm n)

/-- A number that an int can hold. -/
def In64 (n : Int) : Prop := -9223372036854775808 ≤ n ∧ n ≤ 9223372036854775807

/-- A slice whose elements are four cells each, all in blocks of which S holds; element i stands for ks[i]. -/
def SAt {α : Type} (S : Nat → Prop) (w : World) (R : α → Value → Value → Value → Value → Prop) (ks : List α) (v : Value) : Prop :=
  ∃ a cap, v = .slice a ks.length cap ∧ ks.length ≤ cap ∧ ks.length ≤ 2 ^ 47 ∧ ∀ i (h : i < ks.length), ∃ b off d0 d1 d2 d3, a = some ⟨b, off, none⟩ ∧ S b ∧
    w.cell? ⟨b, off + i * 4, none⟩ = some d0 ∧ w.cell? ⟨b, off + i * 4 + 1, none⟩ = some d1 ∧ w.cell? ⟨b, off + i * 4 + 2, none⟩ = some d2 ∧
    w.cell? ⟨b, off + i * 4 + 3, none⟩ = some d3 ∧ R ks[i] d0 d1 d2 d3

/-- The four cells of a term. -/
def TAt (S : Nat → Prop) (w : World) : (n : Nat) → Tm n → Value → Value → Value → Value → Prop
  | 0, t => t.elim
  | n + 1, (k, m, s, ks) => fun c0 c1 c2 c3 => c0 = .int .i64 k ∧ c1 = .int .i64 m ∧ c2 = .string s ∧ In64 k ∧ In64 m ∧ s.size ≤ 2 ^ 47 ∧ SAt S w (TAt S w n) ks c3

/-- Where the blocks of S are as they were, the terms there are too. -/
theorem SAt.keep {α : Type} {S : Nat → Prop} {w w' : World} {R R' : α → Value → Value → Value → Value → Prop} {ks : List α} {v : Value}
    (h : SAt S w R ks v) (hk : ∀ b, S b → w'.heap[b]? = w.heap[b]?) (hR : ∀ t ∈ ks, ∀ a b c d, R t a b c d → R' t a b c d) : SAt S w' R' ks v := by
  obtain ⟨a, cap, hv, h1, h2, h3⟩ := h
  refine ⟨a, cap, hv, h1, h2, fun i hi => ?_⟩
  obtain ⟨b, off, d0, d1, d2, d3, ha, hS, e0, e1, e2, e3, hr⟩ := h3 i hi
  have hc : ∀ o, w'.cell? ⟨b, o, none⟩ = w.cell? ⟨b, o, none⟩ := fun o => World.cell?_of_block (w := w) (hk b hS)
  exact ⟨b, off, d0, d1, d2, d3, ha, hS, by rw [hc, e0], by rw [hc, e1], by rw [hc, e2], by rw [hc, e3], hR _ (List.getElem_mem hi) _ _ _ _ hr⟩

theorem TAt.keep {S : Nat → Prop} {w w' : World} (hk : ∀ b, S b → w'.heap[b]? = w.heap[b]?) : ∀ {n : Nat} {t : Tm n} {a b c d : Value}, TAt S w n t a b c d → TAt S w' n t a b c d := by
  intro n
  induction n with
  | zero => intro t; exact t.elim
  | succ n ih =>
    rintro ⟨k, m, s, ks⟩ a b c d ⟨h0, h1, h2, hk1, hm, hs, h3⟩
    exact ⟨h0, h1, h2, hk1, hm, hs, h3.keep hk (fun t _ a b c d h => ih h)⟩

theorem SAt.mono {α : Type} {S S' : Nat → Prop} {w : World} {R R' : α → Value → Value → Value → Value → Prop} {ks : List α} {v : Value}
    (h : SAt S w R ks v) (hk : ∀ b, S b → S' b) (hR : ∀ t ∈ ks, ∀ a b c d, R t a b c d → R' t a b c d) : SAt S' w R' ks v := by
  obtain ⟨a, cap, hv, h1, h2, h3⟩ := h
  refine ⟨a, cap, hv, h1, h2, fun i hi => ?_⟩
  obtain ⟨b, off, d0, d1, d2, d3, ha, hS, e0, e1, e2, e3, hr⟩ := h3 i hi
  exact ⟨b, off, d0, d1, d2, d3, ha, hk b hS, e0, e1, e2, e3, hR _ (List.getElem_mem hi) _ _ _ _ hr⟩

theorem TAt.mono {S S' : Nat → Prop} {w : World} (hk : ∀ b, S b → S' b) : ∀ {n : Nat} {t : Tm n} {a b c d : Value}, TAt S w n t a b c d → TAt S' w n t a b c d := by
  intro n
  induction n with
  | zero => intro t; exact t.elim
  | succ n ih =>
    rintro ⟨k, m, s, ks⟩ a b c d ⟨h0, h1, h2, hk1, hm, hs, h3⟩
    exact ⟨h0, h1, h2, hk1, hm, hs, h3.mono hk (fun t _ a b c d h => ih h)⟩

/-- Behind a step that turns nothing below B. -/
theorem TAt.below {S : Nat → Prop} {B : Nat} {w w' : World} (hb : Below B w w') (hS : ∀ b, S b → b < B) {n : Nat} {t : Tm n} {a b c d : Value} (h : TAt S w n t a b c d) : TAt S w' n t a b c d :=
  h.keep fun b hs => hb.block b (hS b hs)
theorem SAt.below {S : Nat → Prop} {B : Nat} {w w' : World} (hb : Below B w w') (hS : ∀ b, S b → b < B) {n : Nat} {ks : List (Tm n)} {v : Value} (h : SAt S w (TAt S w n) ks v) : SAt S w' (TAt S w' n) ks v :=
  h.keep (fun b hs => hb.block b (hS b hs)) fun _ _ _ _ _ _ ht => ht.below hb hS

/-- All that lies below B. -/
abbrev Under (B : Nat) : Nat → Prop := fun b => b < B

/-- Into a later world, all that was there being below the first one's size. -/
theorem TAt.up {w w' : World} (hb : Below w.heap.size w w') {n : Nat} {t : Tm n} {a b c d : Value} (h : TAt (Under w.heap.size) w n t a b c d) : TAt (Under w'.heap.size) w' n t a b c d :=
  (h.below hb fun _ h => h).mono fun _ h => Nat.lt_of_lt_of_le h hb.size
theorem SAt.up {w w' : World} (hb : Below w.heap.size w w') {n : Nat} {ks : List (Tm n)} {v : Value} (h : SAt (Under w.heap.size) w (TAt (Under w.heap.size) w n) ks v) :
    SAt (Under w'.heap.size) w' (TAt (Under w'.heap.size) w' n) ks v :=
  (h.keep (fun b hs => hb.block b hs) fun _ _ _ _ _ _ ht => ht.below hb fun _ h => h).mono (fun _ h => Nat.lt_of_lt_of_le h hb.size) fun _ _ _ _ _ _ ht => ht.mono fun _ h => Nat.lt_of_lt_of_le h hb.size

/-- The shape of a term's four cells. -/
theorem TAt.shape {S : Nat → Prop} {w : World} : ∀ {n : Nat} {t : Tm n} {c0 c1 c2 c3 : Value}, TAt S w n t c0 c1 c2 c3 → ∃ k m s a l c, c0 = .int .i64 k ∧ c1 = .int .i64 m ∧ c2 = .string s ∧ c3 = .slice a l c
  | 0, t, _, _, _, _, _ => t.elim
  | _ + 1, (k, m, s, _), _, _, _, _, ⟨h0, h1, h2, _, _, _, a, cap, h3, _⟩ => ⟨k, m, s, a, _, cap, h0, h1, h2, h3⟩

/-- How many letters and kids a term has, with all within. -/
def tot : (n : Nat) → Tm n → Nat
  | 0, t => t.elim
  | n + 1, (_, _, s, ks) => s.size + (ks.length + (ks.map (tot n)).sum)

def totS {n : Nat} (ks : List (Tm n)) : Nat := (ks.map (tot n)).sum

theorem totS_take {n : Nat} (ks : List (Tm n)) (k : Nat) (h : k < ks.length) : totS (ks.take (k + 1)) = totS (ks.take k) + tot n ks[k] := by
  unfold totS; rw [List.take_succ_eq_append_getElem h, List.map_append, List.sum_append]; simp only [List.map_cons, List.map_nil, List.sum_cons, List.sum_nil, Nat.add_zero]
theorem totS_le {n : Nat} (ks : List (Tm n)) (k : Nat) : totS (ks.take k) ≤ totS ks := by
  have : totS ks = totS (ks.take k) + totS (ks.drop k) := by unfold totS; rw [← List.sum_append, ← List.map_append, List.take_append_drop]
  omega

end Go.Proofs.YthfjgffhncogaaaGreat
/- What the frames of the laws on terms have in common: a term that came in is a tree that lies in memory. -/
namespace Go.Proofs.YthfjgffhncogaaaGreat
open Go.ChangeShapes Go.WideShapes Go.ChangeAt Go.RowKit Go.Joins

theorem own : ownKnob Tryz.prog.godebug = none := by kernel_rfl
theorem laidOut : laidOutB Tryz.prog = true := by kernel_rfl
theorem cellsTerm : Tryz.prog.cellsOf 38 = 4 := by kernel_rfl
theorem cellsInt : Tryz.prog.cellsOf 3 = 1 := by kernel_rfl
theorem cellsStr : Tryz.prog.cellsOf 9 = 1 := by kernel_rfl
theorem cellsTerms : Tryz.prog.cellsOf 36 = 1 := by kernel_rfl
theorem bytesTerm : Tryz.prog.bytesOf 38 = 56 := by kernel_rfl

theorem in64_of {n : Int} (h : (Lit.int .i64 n).wf = true) : In64 n := by
  have := bounds_i64 h
  exact this
theorem list4 {α : Type} {xs : List α} (h : xs.length = 4) : ∃ a b c d, xs = [a, b, c, d] := by
  match xs, h with
  | [a, b, c, d], _ => exact ⟨a, b, c, d, rfl⟩

theorem list_of {α : Type} {R : Nat → α → Prop} : ∀ (len : Nat), (∀ i, i < len → ∃ t, R i t) → ∃ ks : List α, ks.length = len ∧ ∀ i (h : i < ks.length), R i ks[i]
  | 0, _ => ⟨[], rfl, fun i h => by simp at h⟩
  | len + 1, H => by
    obtain ⟨ks, h1, h2⟩ := list_of len fun i h => H i (by omega)
    obtain ⟨t, ht⟩ := H len (by omega)
    refine ⟨ks ++ [t], by simp [h1], fun i h => ?_⟩
    by_cases hi : i < ks.length
    · rw [List.getElem_append_left hi]; exact h2 i hi
    · have : i = ks.length := by simp at h; omega
      subst this
      simp only [List.getElem_concat_length]
      rw [h1]; exact ht

theorem weights_mem_all {H : Type} {P : Program} {e : TypeId} : ∀ {ds : List (DataW H)} {d : DataW H}, d ∈ ds → ∀ y ∈ d.weights P e, y ∈ DataW.weightsAll P e ds
  | _ :: _, d, h, y, hy => by
    rw [DataW.weightsAll, List.mem_append]
    rcases List.mem_cons.1 h with rfl | h
    · exact Or.inl hy
    · exact Or.inr (weights_mem_all h y hy)

section
variable {H : Type} {enc : TypeId × Value → H}

set_option maxRecDepth 40000 in
theorem open_term (W : World) : ∀ (n fuel : Nat), fuel / 2 = n → ∀ (cs : List Value) (x : DataW H × List MemPlace), DataW.trod enc Tryz.prog W 0 (fun _ => true) true fuel 38 cs = some x →
    (∀ y ∈ x.1.weights Tryz.prog 38, y ≤ reachBytes) → ∃ (t : Tm n) (c0 c1 c2 c3 : Value), cs = [c0, c1, c2, c3] ∧ TAt (Under W.heap.size) W n t c0 c1 c2 c3 := by
  intro n
  induction n with
  | zero =>
    intro fuel hfu cs x h _
    obtain ⟨xs, m, hm, rfl, _, hxs, hf⟩ := DataW.trod_struct Tryz.underlying38 h
    have : m = 0 := by omega
    subst this
    have h0 := hf 0 _ rfl
    rw [List.getElem?_eq_getElem (by rw [hxs]; decide)] at h0
    simp [DataW.trod] at h0
  | succ n ih =>
    intro fuel hfu cs x h hw
    obtain ⟨xs, m, hm, rfl, hcs, hxs, hf⟩ := DataW.trod_struct Tryz.underlying38 h
    rw [cellsTerm] at hcs
    obtain ⟨y0, y1, y2, y3, rfl⟩ := list4 hxs
    obtain ⟨c0, c1, c2, c3, rfl⟩ := list4 hcs
    have h0 : DataW.trod enc Tryz.prog W 0 (fun _ => true) true m 3 [c0] = some y0 := by have := hf 0 _ rfl; simpa [cellsInt] using this
    have h1 : DataW.trod enc Tryz.prog W 0 (fun _ => true) true m 3 [c1] = some y1 := by have := hf 1 _ rfl; simpa [cellsInt] using this
    have h2 : DataW.trod enc Tryz.prog W 0 (fun _ => true) true m 9 [c2] = some y2 := by have := hf 2 _ rfl; simpa [cellsStr] using this
    have h3 : DataW.trod enc Tryz.prog W 0 (fun _ => true) true m 36 [c3] = some y3 := by have := hf 3 _ rfl; simpa [cellsTerms] using this
    obtain ⟨k, e0, rfl, wk⟩ := DataW.trod_int Tryz.underlying3 h0
    obtain ⟨q, e1, rfl, wq⟩ := DataW.trod_int Tryz.underlying3 h1
    obtain ⟨s, e2, rfl, hs⟩ := DataW.trod_string Tryz.underlying9 h2
    have hwt : ∀ y ∈ (DataW.weights Tryz.prog 9 (.lit (.string s.data.toList) : DataW H)) ++ y3.1.weights Tryz.prog 36, y ≤ reachBytes := fun y hy => hw y (by
      simp only [List.map_cons, List.map_nil, DataW.weights, Tryz.underlying38, DataW.weightsEach] at hy ⊢
      simpa using hy)
    have hsz : s.size ≤ reachBytes := by
      have := hwt s.data.toList.length (by simp [DataW.weights])
      simpa using this
    have hk : ∃ ks : List (Tm n), SAt (Under W.heap.size) W (TAt (Under W.heap.size) W n) ks c3 := by
      rcases DataW.trod_slice Tryz.underlying36 h3 with ⟨hc, _⟩ | ⟨a, len, cap, elems, rest, g, hg, hc, rfl, hb, hl, hcm, hlen, hel, hsp, _⟩
      · obtain rfl : c3 = .slice none 0 0 := by simpa using hc
        exact ⟨[], none, 0, rfl, by simp, by simp, fun i hi => by simp at hi⟩
      · obtain rfl : c3 = .slice (some a) len cap := by simpa using hc
        have hrl := (hsp rfl).1
        have hwc : (elems.length + rest.length) * 56 ≤ reachBytes := by
          have := hwt ((elems.length + rest.length) * 56) (by simp [DataW.weights, Tryz.underlying36, bytesTerm])
          exact this
        have hR := reachBytes_lt
        have hspot : 0 < len → a.spot = none := fun h => by
          have he := hel 0 h
          rw [List.getElem?_eq_getElem (by omega)] at he
          obtain ⟨cs', hcs', _⟩ := Option.bind_eq_some_iff.1 he
          rw [cellsTerm] at hcs'
          obtain ⟨_, hl4, hcell⟩ := World.cells?_some hcs'
          have hc0 := hcell 0 (by decide)
          rw [List.getElem?_eq_getElem (by omega)] at hc0
          simpa [Addr.add] using World.cell?_spot hc0
        have hkid : ∀ i, i < len → ∃ t : Tm n, ∃ b off d0 d1 d2 d3, (some a : Option Addr) = some ⟨b, off, none⟩ ∧ Under W.heap.size b ∧
            W.cell? ⟨b, off + i * 4, none⟩ = some d0 ∧ W.cell? ⟨b, off + i * 4 + 1, none⟩ = some d1 ∧ W.cell? ⟨b, off + i * 4 + 2, none⟩ = some d2 ∧
            W.cell? ⟨b, off + i * 4 + 3, none⟩ = some d3 ∧ TAt (Under W.heap.size) W n t d0 d1 d2 d3 := by
          intro i hi
          have he := hel i hi
          rw [List.getElem?_eq_getElem (by omega)] at he
          obtain ⟨cs', hcs', htr⟩ := Option.bind_eq_some_iff.1 he
          obtain ⟨t, d0, d1, d2, d3, rfl, hT⟩ := ih g (by omega) cs' _ htr (fun y hy => hwt y (by
            simp only [DataW.weights, Tryz.underlying36, List.mem_append, List.mem_cons]
            refine Or.inr (Or.inr (Or.inl ?_))
            exact weights_mem_all (by rw [List.mem_map]; exact ⟨_, List.getElem_mem (by omega), rfl⟩) y hy))
          rw [cellsTerm] at hcs'
          obtain ⟨_, _, hcell⟩ := World.cells?_some hcs'
          have hblk := World.cells?_block hcs' (by decide)
          have hsn := hspot (by omega)
          obtain ⟨b, off, sp⟩ := a
          obtain rfl : sp = none := hsn
          have hadd : ∀ j, ((⟨b, off, none⟩ : Addr).add (i * 4)).add j = ⟨b, off + i * 4 + j, none⟩ := fun j => by rw [add_plain, add_plain]
          have hc0 := hcell 0 (by decide)
          have hc1 := hcell 1 (by decide)
          have hc2 := hcell 2 (by decide)
          have hc3 := hcell 3 (by decide)
          rw [hadd] at hc0 hc1 hc2 hc3
          refine ⟨t, b, off, d0, d1, d2, d3, rfl, ?_, hc0, hc1, hc2, hc3, hT⟩
          rw [add_plain] at hblk
          exact hblk
        obtain ⟨ks, hkl, hks⟩ := list_of len hkid
        exact ⟨ks, some a, cap, by rw [hkl], by omega, by omega, fun i hi => hks i hi⟩
    obtain ⟨ks, hks⟩ := hk
    simp only [List.cons.injEq, and_true] at e0 e1 e2
    refine ⟨(k, q, s, ks), c0, c1, c2, c3, rfl, e0, e1, e2, in64_of wk, in64_of wq, ?_, hks⟩
    have := reachBytes_lt; omega
end
end Go.Proofs.YthfjgffhncogaaaGreat
/- The walks of szTerm and szTermS, by induction on the depth. -/
namespace Go.Proofs.YthfjgffhncogaaaGreat
open Go.RowKit

/-- What szTerm hands back: what is left, or -1. -/
def left (t : Nat) (l : Int) : Int := if (t : Int) ≤ l then l - t else -1

def SzSaid (n : Nat) : Prop := ∀ (t : Tm n) (c0 c1 c2 c3 : Value) (l : Int) (w : World), TAt (Under w.heap.size) w n t c0 c1 c2 c3 → 0 ≤ l → l ≤ 1048576 →
  Calls Tryz.prog 20 #[.agg #[c0, c1, c2, c3], .int .i64 l] w fun e w' => e = .returned (.int .i64 (left (tot n t) l)) ∧ Below w.heap.size w w'

def SzSSaid (n : Nat) : Prop := ∀ (ks : List (Tm n)) (v : Value) (l : Int) (w : World), SAt (Under w.heap.size) w (TAt (Under w.heap.size) w n) ks v → 0 ≤ l → l ≤ 1048576 →
  Calls Tryz.prog 46 #[v, .int .i64 l] w fun e w' => e = .returned (.int .i64 (left (ks.length + totS ks) l)) ∧ Below w.heap.size w w'

theorem left_pos {t : Nat} {l : Int} (h : (t : Int) ≤ l) : left t l = l - t := if_pos h
theorem left_neg {t : Nat} {l : Int} (h : ¬ (t : Int) ≤ l) : left t l = -1 := if_neg h
theorem bcell {W w1 : World} (hb : Below W.heap.size W w1) : (∀ b o, b < W.heap.size → w1.cell? ⟨b, o, none⟩ = W.cell? ⟨b, o, none⟩) :=
  fun b o h => hb.cell (p := ⟨b, o, none⟩) h

set_option maxHeartbeats 400000 in
theorem szS_of {n : Nat} (h : SzSaid n) : SzSSaid n := by
  intro ks v l w hv hl0 hl1
  obtain ⟨a, cap, rfl, hlen, hcap, hel⟩ := hv
  by_cases hneg : l < ks.length
  · have hn : l - ks.length < 0 := by omega
    go_enter Tryz.func46, Tryz.ntmps46
    go_wp2_with fail
    go_ret
    exact ⟨ret_int (left_neg (by omega)).symm, Below.refl _ _⟩
  · have hn : ¬ l - ks.length < 0 := by omega
    have hlb : (ks.length : Int) ≤ l := by omega
    go_enter Tryz.func46, Tryz.ntmps46
    go_wp2_with fail
    go_loopw [1, 5] (fun lv iv wr => ∃ k : Nat, k ≤ ks.length ∧ iv = .int .i64 k ∧ (totS (ks.take k) : Int) + ks.length ≤ l ∧ lv = .int .i64 (l - ks.length - totS (ks.take k)) ∧ Below w.heap.size w wr) (fun _ iv _ => ks.length - (intOf iv).toNat)
    case atStart => exact ⟨0, by omega, rfl, by simp [totS]; omega, by simp [totS], Below.refl _ _⟩
    case round =>
      obtain ⟨k, hk, rfl, hle, rfl, hb⟩ := hrel
      by_cases hlt : k < ks.length
      · obtain ⟨b, off, d0, d1, d2, d3, rfl, hS, e0, e1, e2, e3, hr⟩ := hel k hlt
        have hbc := bcell hb
        have f0 := (hbc b _ hS).trans e0
        have f1 := (hbc b _ hS).trans e1
        have f2 := (hbc b _ hS).trans e2
        have f3 := (hbc b _ hS).trans e3
        clear hbc e0 e1 e2 e3
        have hts := totS_take ks k hlt
        have htl := totS_le ks (k + 1)
        by_cases hfit : (tot n ks[k] : Int) ≤ l - ks.length - totS (ks.take k)
        · have hnn : ¬ l - ks.length - totS (ks.take k) - tot n ks[k] < 0 := by omega
          have HT : Hid (totS (ks.take (k + 1)) = totS (ks.take k) + tot n ks[k]) := hts
          clear hts htl
          go_wp2_with (go_at_call 20; refine (h _ _ _ _ _ _ _ (hr.up hb) (by omega) (by omega)).mono ?_; rintro e w' ⟨rfl, hb2⟩; rw [left, if_pos hfit])
          go_roundw
          case rel => exact ⟨k + 1, hlt, by go_num, by rw [HT.out]; omega, by rw [HT.out]; congr 1; omega, hb.trans (hb2.mono hb.size)⟩
          case measure => simp [intOf]; omega
        · have hlast : ¬ ((ks.length + totS ks : Nat) : Int) ≤ l := by omega
          clear hts htl
          go_wp2_with (go_at_call 20; refine (h _ _ _ _ _ _ _ (hr.up hb) (by omega) (by omega)).mono ?_; rintro e w' ⟨rfl, hb2⟩; rw [left, if_neg hfit])
          go_ret
          exact ⟨ret_int (left_neg (by omega)).symm, hb.trans (hb2.mono hb.size)⟩
      · have hkk : k = ks.length := by omega
        subst hkk
        rw [List.take_length] at hle ⊢
        go_wp2_with fail
        go_ret
        exact ⟨ret_int (by rw [left_pos (by omega)]; omega), hb⟩

set_option maxHeartbeats 400000 in
theorem sz_of {n : Nat} (h : SzSSaid n) : SzSaid (n + 1) := by
  rintro ⟨kd, m, s, ks⟩ c0 c1 c2 c3 l w ⟨rfl, rfl, rfl, hk, hm, hs, hks⟩ hl0 hl1
  have hS := hks
  have hdef : tot (n + 1) (kd, m, s, ks) = s.size + (ks.length + totS ks) := rfl
  rw [hdef]
  by_cases h1 : (s.size : Int) ≤ l
  · have hn : ¬ l - s.size < 0 := by omega
    by_cases h2 : ((ks.length + totS ks : Nat) : Int) ≤ l - s.size
    · have hn2 : ¬ l - s.size - ((ks.length + totS ks : Nat) : Int) < 0 := by omega
      go_enter Tryz.func20, Tryz.ntmps20
      go_wp2_with (go_at_call 46; refine (h _ _ _ _ ((hks.up ((Below.refl _ _).alloc (Nat.le_refl _) _))) (by omega) (by omega)).mono ?_; rintro e w' ⟨rfl, hb2⟩; rw [left_pos h2])
      go_ret
      exact ⟨ret_int (by rw [left_pos (by omega)]; omega), ((Below.refl _ _).alloc (Nat.le_refl _) _).trans (hb2.mono (by simp))⟩
    · go_enter Tryz.func20, Tryz.ntmps20
      go_wp2_with (go_at_call 46; refine (h _ _ _ _ ((hks.up ((Below.refl _ _).alloc (Nat.le_refl _) _))) (by omega) (by omega)).mono ?_; rintro e w' ⟨rfl, hb2⟩; rw [left_neg h2])
      go_ret
      exact ⟨ret_int (by rw [left_neg (by omega)]), ((Below.refl _ _).alloc (Nat.le_refl _) _).trans (hb2.mono (by simp))⟩
  · have hn : l - s.size < 0 := by omega
    go_enter Tryz.func20, Tryz.ntmps20
    go_wp2_with fail
    go_ret
    exact ⟨ret_int (by rw [left_neg (by omega)]), (Below.refl _ _).alloc (Nat.le_refl _) _⟩

theorem sz_any : ∀ n, SzSaid n
  | 0 => fun t => t.elim
  | n + 1 => sz_of (szS_of (sz_any n))

end Go.Proofs.YthfjgffhncogaaaGreat
/- The walks of eqTerm and eqTermS where both are the same term, by induction on the depth. -/
namespace Go.Proofs.YthfjgffhncogaaaGreat
open Go.RowKit

def EqSaid (n : Nat) : Prop := ∀ (t : Tm n) (c0 c1 c2 c3 d0 d1 d2 d3 : Value) (w : World), TAt (Under w.heap.size) w n t c0 c1 c2 c3 → TAt (Under w.heap.size) w n t d0 d1 d2 d3 →
  Calls Tryz.prog 22 #[.agg #[c0, c1, c2, c3], .agg #[d0, d1, d2, d3]] w fun e w' => e = .returned (.bool true) ∧ Below w.heap.size w w'

def EqSSaid (n : Nat) : Prop := ∀ (ks : List (Tm n)) (u v : Value) (w : World), SAt (Under w.heap.size) w (TAt (Under w.heap.size) w n) ks u → SAt (Under w.heap.size) w (TAt (Under w.heap.size) w n) ks v →
  Calls Tryz.prog 48 #[u, v] w fun e w' => e = .returned (.bool true) ∧ Below w.heap.size w w'

set_option maxHeartbeats 1000000 in
theorem eqS_of {n : Nat} (h : EqSaid n) : EqSSaid n := by
  intro ks u v w hu hv
  have hu0 := hu
  have hv0 := hv
  obtain ⟨a, cap, rfl, hlen, hcap, hel⟩ := hu
  obtain ⟨a', cap', rfl, hlen', hcap', hel'⟩ := hv
  have hl1 : ((ks.length : Int) != (ks.length : Int)) = false := by simp
  go_enter Tryz.func48, Tryz.ntmps48
  go_wp2_with fail
  go_loopw [5] (fun iv wr => ∃ k : Nat, k ≤ ks.length ∧ iv = .int .i64 k ∧ Below w.heap.size w wr) (fun iv _ => ks.length - (intOf iv).toNat)
  case atStart => exact ⟨0, by omega, rfl, Below.refl _ _⟩
  case round =>
    obtain ⟨k, hk, rfl, hb⟩ := hrel
    by_cases hlt : k < ks.length
    · obtain ⟨b, off, d0, d1, d2, d3, rfl, hS, e0, e1, e2, e3, hr⟩ := hel k hlt
      obtain ⟨b', off', d0', d1', d2', d3', rfl, hS', e0', e1', e2', e3', hr'⟩ := hel' k hlt
      have F0 : ∀ x : LaterW w.heap.size wr, x.wd.cell? ⟨b, off + k * 4, none⟩ = some d0 := fun x => ((bcell (hb.trans x.be)) b _ hS).trans e0
      have F1 : ∀ x : LaterW w.heap.size wr, x.wd.cell? ⟨b, off + k * 4 + 1, none⟩ = some d1 := fun x => ((bcell (hb.trans x.be)) b _ hS).trans e1
      have F2 : ∀ x : LaterW w.heap.size wr, x.wd.cell? ⟨b, off + k * 4 + 2, none⟩ = some d2 := fun x => ((bcell (hb.trans x.be)) b _ hS).trans e2
      have F3 : ∀ x : LaterW w.heap.size wr, x.wd.cell? ⟨b, off + k * 4 + 3, none⟩ = some d3 := fun x => ((bcell (hb.trans x.be)) b _ hS).trans e3
      have G0 : ∀ x : LaterW w.heap.size wr, x.wd.cell? ⟨b', off' + k * 4, none⟩ = some d0' := fun x => ((bcell (hb.trans x.be)) b' _ hS').trans e0'
      have G1 : ∀ x : LaterW w.heap.size wr, x.wd.cell? ⟨b', off' + k * 4 + 1, none⟩ = some d1' := fun x => ((bcell (hb.trans x.be)) b' _ hS').trans e1'
      have G2 : ∀ x : LaterW w.heap.size wr, x.wd.cell? ⟨b', off' + k * 4 + 2, none⟩ = some d2' := fun x => ((bcell (hb.trans x.be)) b' _ hS').trans e2'
      have G3 : ∀ x : LaterW w.heap.size wr, x.wd.cell? ⟨b', off' + k * 4 + 3, none⟩ = some d3' := fun x => ((bcell (hb.trans x.be)) b' _ hS').trans e3'
      clear e0 e1 e2 e3 e0' e1' e2' e3' hu0 hv0
      go_wp2_with fail
      haveI hne : Nonempty (LaterW w.heap.size wr) := ⟨⟨wr, Below.refl _ _⟩⟩
      refine wp_region_later w.heap.size (by kernel_rfl) (by kernel_rfl) ?_
      repeat (go_big_quiet_step ((go_at_call 22; rename_i x; refine Calls.later (v := .bool true) hb.size (h _ _ _ _ _ _ _ _ _ _ (hr.up (hb.trans x.be)) (hr'.up (hb.trans x.be))))))
      refine wpQuiet_nil ?_
      rintro _ ⟨⟨wq, hq⟩, rfl⟩
      go_wp2_with fail
      go_roundw
      case rel => exact ⟨k + 1, hlt, by go_num, hb.trans hq⟩
      case measure => simp [intOf]; omega
    · go_wp2_with fail
      go_ret
      exact ⟨rfl, hb⟩

theorem below_two (w : World) (o o' : Obj) : Below w.heap.size w ((w.alloc o).alloc o') :=
  ((Below.refl _ _).alloc (Nat.le_refl _) _).alloc (by simp) _

set_option maxHeartbeats 1000000 in
theorem eq_of {n : Nat} (h : EqSSaid n) : EqSaid (n + 1) := by
  rintro ⟨kd, m, s, ks⟩ c0 c1 c2 c3 d0 d1 d2 d3 w ⟨rfl, rfl, rfl, hk, hm, hs, hks⟩ ⟨rfl, rfl, rfl, _, _, _, hks'⟩
  go_enter Tryz.func22, Tryz.ntmps22
  go_wp2_with (go_at_call 48; refine (h _ _ _ _ (hks.up (below_two _ _ _)) (hks'.up (below_two _ _ _))).mono ?_; rintro e w' ⟨rfl, hb2⟩)
  go_ret
  exact ⟨rfl, (below_two _ _ _).trans (hb2.mono (by simp; omega))⟩

theorem eq_any : ∀ n, EqSaid n
  | 0 => fun t => t.elim
  | n + 1 => eq_of (eqS_of (eq_any n))

end Go.Proofs.YthfjgffhncogaaaGreat
