/- Rows of elements of K cells: what lies in memory, for any kind of element. -/
import Derived.Test.YtcgbonlffcpofaaGreatDoorQ2
namespace Go.Proofs.YtcgbonlffcpofaaGreatDoor
open Go.RowKit

/-- A slice whose elements take K cells each; each stands for a member of ks, as R says. -/
def RAt {α : Type} (K : Nat) (S : Nat → Prop) (w : World) (R : α → List Value → Prop) (ks : List α) (v : Value) : Prop :=
  ∃ a cap, v = .slice a ks.length cap ∧ ks.length ≤ cap ∧ ks.length ≤ 2 ^ 47 ∧ ∀ i (h : i < ks.length), ∃ b off ds, a = some ⟨b, off, none⟩ ∧ S b ∧ ds.length = K ∧
    (∀ j, j < K → w.cell? ⟨b, off + i * K + j, none⟩ = ds[j]?) ∧ R ks[i] ds
theorem RAt.keep {α : Type} {K : Nat} {S : Nat → Prop} {w w' : World} {R R' : α → List Value → Prop} {ks : List α} {v : Value} (h : RAt K S w R ks v) (hk : ∀ b, S b → w'.heap[b]? = w.heap[b]?) (hR : ∀ t ∈ ks, ∀ ds, R t ds → R' t ds) : RAt K S w' R' ks v := by
  obtain ⟨a, cap, hv, h1, h2, h3⟩ := h
  refine ⟨a, cap, hv, h1, h2, fun i hi => ?_⟩
  obtain ⟨b, off, ds, e0, e1, e2, e3, hr⟩ := h3 i hi
  exact ⟨b, off, ds, e0, e1, e2, fun j hj => (World.cell?_of_block (w := w) (hk b e1)).trans (e3 j hj), hR _ (List.getElem_mem hi) _ hr⟩
theorem RAt.mono {α : Type} {K : Nat} {S S' : Nat → Prop} {w : World} {R R' : α → List Value → Prop} {ks : List α} {v : Value} (h : RAt K S w R ks v) (hk : ∀ b, S b → S' b) (hR : ∀ t ∈ ks, ∀ ds, R t ds → R' t ds) : RAt K S' w R' ks v := by
  obtain ⟨a, cap, hv, h1, h2, h3⟩ := h
  refine ⟨a, cap, hv, h1, h2, fun i hi => ?_⟩
  obtain ⟨b, off, ds, e0, e1, e2, e3, hr⟩ := h3 i hi
  exact ⟨b, off, ds, e0, hk b e1, e2, e3, hR _ (List.getElem_mem hi) _ hr⟩
theorem RAt.nil {α : Type} {K : Nat} {S : Nat → Prop} {w : World} {R : α → List Value → Prop} : RAt K S w R [] (.slice none 0 0) := ⟨none, 0, rfl, Nat.le_refl _, by simp, fun i hi => by cases hi⟩

/-- Cells stored, one behind the other. -/
def setL (w : World) (B o : Nat) : List Value → World
  | [] => w
  | d :: ds => setL (w.setCell ⟨B, o, none⟩ d) B (o + 1) ds
theorem setL_low {B o' : Nat} : ∀ (ds : List Value) {w : World} {o : Nat}, o' < o → (setL w B o ds).cell? ⟨B, o', none⟩ = w.cell? ⟨B, o', none⟩
  | [], _, _, _ => rfl
  | d :: ds, w, o, h => (setL_low ds (w := w.setCell ⟨B, o, none⟩ d) (by omega)).trans (World.cell?_setCell_other _ _ _ _ (by intro e; cases e; omega))
theorem setL_facts {B N : Nat} {e : TypeId} : ∀ (ds : List Value) {w : World} {o : Nat}, Row B e N w → o + ds.length ≤ N →
    Row B e N (setL w B o ds) ∧ (∀ j, j < ds.length → (setL w B o ds).cell? ⟨B, o + j, none⟩ = ds[j]?) ∧ Below B w (setL w B o ds) ∧ (∀ b, b ≠ B → (setL w B o ds).heap[b]? = w.heap[b]?) ∧ (setL w B o ds).heap.size = w.heap.size
  | [], w, o, h, _ => ⟨h, fun j hj => absurd hj (Nat.not_lt_zero j), Below.refl _ _, fun _ _ => rfl, rfl⟩
  | d :: ds, w, o, h, hl => by
    rw [List.length_cons] at hl
    obtain ⟨r1, r2, r3, r4, r5⟩ := setL_facts ds (w := w.setCell ⟨B, o, none⟩ d) (o := o + 1) (h.set o d) (by omega)
    refine ⟨r1, fun j hj => ?_, (((Below.refl B w).setCell (p := ⟨B, o, none⟩) (Nat.le_refl B) d)).trans r3, fun b hb => (r4 b hb).trans (Below.heap_setCell _ _ _ _ hb), r5.trans (by simp)⟩
    cases j with
    | zero => exact (setL_low ds (by omega)).trans (h.set_get (by omega) d)
    | succ j =>
      have := r2 j (by simpa using hj)
      rw [show o + (j + 1) = o + 1 + j by omega]
      exact this

theorem two_news (w : World) (x y : Obj) : ((w.alloc x).alloc y).heap[w.heap.size]? = some x ∧ ((w.alloc x).alloc y).heap[w.heap.size + 1]? = some y ∧ w.heap.size < ((w.alloc x).alloc y).heap.size ∧ w.heap.size + 1 < ((w.alloc x).alloc y).heap.size := by
  refine ⟨?_, ?_, by simp; omega, by simp⟩
  · rw [Below.heap_alloc _ _ _ (by simp)]; exact heap_new w x
  · have := heap_new (w.alloc x) y
    rwa [World.size_alloc] at this
theorem three_news (w : World) (x y z : Obj) : (((w.alloc x).alloc y).alloc z).heap[w.heap.size]? = some x ∧ (((w.alloc x).alloc y).alloc z).heap[w.heap.size + 1]? = some y ∧
    (((w.alloc x).alloc y).alloc z).heap[w.heap.size + 1 + 1]? = some z := by
  refine ⟨?_, ?_, ?_⟩
  · rw [Below.heap_alloc _ _ _ (by simp; omega), Below.heap_alloc _ _ _ (by simp)]; exact heap_new w x
  · rw [Below.heap_alloc _ _ _ (by simp)]
    have := heap_new (w.alloc x) y
    rwa [World.size_alloc] at this
  · have := heap_new ((w.alloc x).alloc y) z
    rwa [World.size_alloc, World.size_alloc] at this

end Go.Proofs.YtcgbonlffcpofaaGreatDoor
/- Segments: what they are, how they lie in memory; szSeg, szSegS. -/
namespace Go.Proofs.YtcgbonlffcpofaaGreatDoor
open Go.RowKit

/-- A segment: Type, Size, Unit, Signed, Little, V. -/
abbrev SgT (n : Nat) := Int × Int × Int × Bool × Bool × Tm n
def SgAt (S : Nat → Prop) (w : World) (n : Nat) (g : SgT n) (ds : List Value) : Prop := ∃ c0 c1 c2 c3, ds = [.int .i64 g.1, .int .i64 g.2.1, .int .i64 g.2.2.1, .bool g.2.2.2.1, .bool g.2.2.2.2.1, c0, c1, c2, c3] ∧
  In64 g.1 ∧ In64 g.2.1 ∧ In64 g.2.2.1 ∧ TAt S w n g.2.2.2.2.2 c0 c1 c2 c3
theorem SgAt.keep {S : Nat → Prop} {w w' : World} (hk : ∀ b, S b → w'.heap[b]? = w.heap[b]?) {n : Nat} {g : SgT n} {ds : List Value} (h : SgAt S w n g ds) : SgAt S w' n g ds := by
  obtain ⟨c0, c1, c2, c3, e, h1, h2, h3, ht⟩ := h
  exact ⟨c0, c1, c2, c3, e, h1, h2, h3, ht.keep hk⟩
theorem SgAt.mono {S S' : Nat → Prop} {w : World} (hk : ∀ b, S b → S' b) {n : Nat} {g : SgT n} {ds : List Value} (h : SgAt S w n g ds) : SgAt S' w n g ds := by
  obtain ⟨c0, c1, c2, c3, e, h1, h2, h3, ht⟩ := h
  exact ⟨c0, c1, c2, c3, e, h1, h2, h3, ht.mono hk⟩
def SgsAt (S : Nat → Prop) (w : World) (n : Nat) (gs : List (SgT n)) (v : Value) : Prop := RAt 9 S w (SgAt S w n) gs v
theorem SgsAt.keep {S : Nat → Prop} {w w' : World} (hk : ∀ b, S b → w'.heap[b]? = w.heap[b]?) {n : Nat} {gs : List (SgT n)} {v : Value} (h : SgsAt S w n gs v) : SgsAt S w' n gs v := RAt.keep h hk fun _ _ _ hr => hr.keep hk
theorem SgsAt.mono {S S' : Nat → Prop} {w : World} (hk : ∀ b, S b → S' b) {n : Nat} {gs : List (SgT n)} {v : Value} (h : SgsAt S w n gs v) : SgsAt S' w n gs v := RAt.mono h hk fun _ _ _ hr => hr.mono hk
theorem SgsAt.up {w w' : World} (hb : Below w.heap.size w w') {n : Nat} {gs : List (SgT n)} {v : Value} (h : SgsAt (Under w.heap.size) w n gs v) : SgsAt (Under w'.heap.size) w' n gs v :=
  (h.keep fun b hb' => hb.block b hb').mono fun _ hb' => Nat.lt_of_lt_of_le hb' hb.size
theorem SgAt.up {w w' : World} (hb : Below w.heap.size w w') {n : Nat} {g : SgT n} {ds : List Value} (h : SgAt (Under w.heap.size) w n g ds) : SgAt (Under w'.heap.size) w' n g ds :=
  (h.keep fun b hb' => hb.block b hb').mono fun _ hb' => Nat.lt_of_lt_of_le hb' hb.size

/-- The cells of a place's element. -/
theorem SgsAt.at {S : Nat → Prop} {w : World} {n : Nat} {gs : List (SgT n)} {a : Option Addr} {l cap : Nat} (h : SgsAt S w n gs (.slice a l cap)) (i : Nat) (hi : i < gs.length) : ∃ b off k m s u, a = some ⟨b, off, none⟩ ∧ S b ∧
    w.cell? ⟨b, off + i * 9, none⟩ = some (.int .i64 gs[i].1) ∧ w.cell? ⟨b, off + i * 9 + 1, none⟩ = some (.int .i64 gs[i].2.1) ∧ w.cell? ⟨b, off + i * 9 + 2, none⟩ = some (.int .i64 gs[i].2.2.1) ∧
    w.cell? ⟨b, off + i * 9 + 3, none⟩ = some (.bool gs[i].2.2.2.1) ∧ w.cell? ⟨b, off + i * 9 + 4, none⟩ = some (.bool gs[i].2.2.2.2.1) ∧ w.cell? ⟨b, off + i * 9 + 5, none⟩ = some (.int .i64 k) ∧
    w.cell? ⟨b, off + i * 9 + 6, none⟩ = some (.int .i64 m) ∧ w.cell? ⟨b, off + i * 9 + 7, none⟩ = some (.string s) ∧ w.cell? ⟨b, off + i * 9 + 8, none⟩ = some u ∧
    In64 gs[i].1 ∧ In64 gs[i].2.1 ∧ In64 gs[i].2.2.1 ∧ TAt S w n gs[i].2.2.2.2.2 (.int .i64 k) (.int .i64 m) (.string s) u := by
  obtain ⟨a', cap', hv, h1, h2, h3⟩ := h
  cases hv
  obtain ⟨b, off, ds, e0, e1, e2, e3, c0, c1, c2, c3, rfl, i1, i2, i3, ht⟩ := h3 i hi
  obtain ⟨k, m, s, ua, ul, uc, rfl, rfl, rfl, rfl⟩ := ht.shape
  exact ⟨b, off, k, m, s, _, e0, e1, e3 0 (by omega), e3 1 (by omega), e3 2 (by omega), e3 3 (by omega), e3 4 (by omega), e3 5 (by omega), e3 6 (by omega), e3 7 (by omega), e3 8 (by omega), i1, i2, i3, ht⟩

end Go.Proofs.YtcgbonlffcpofaaGreatDoor
/- toSeg, toSegS: segments over to the program's own. -/
namespace Go.Proofs.YtcgbonlffcpofaaGreatDoor
open Go.RowKit

def zero9 : Array Value := #[.int .i64 0, .int .i64 0, .int .i64 0, .bool false, .bool false, .int .i64 0, .int .i64 0, .string ⟨#[]⟩, .slice none 0 0]
/-- The first k segments over, in block B. -/
def SegsTo {n : Nat} (B : Nat) (gs : List (SgT n)) (k : Nat) (w wr : World) : Prop := Below B w wr ∧ Row B 34 (gs.length * 9) wr ∧
  ∀ j (hj : j < gs.length), j < k → ∃ ds, ds.length = 9 ∧ (∀ i, i < 9 → wr.cell? ⟨B, j * 9 + i, none⟩ = ds[i]?) ∧ SgAt (fun b => B < b ∧ b < wr.heap.size) wr n gs[j] ds
theorem SegsTo.next {n B k : Nat} {gs : List (SgT n)} {w wr w1 : World} (h : SegsTo B gs k w wr) (hk : k < gs.length) (hb1 : Below wr.heap.size wr w1) {ds : List Value} (hl : ds.length = 9) (hg : SgAt (Fresh wr w1) w1 n gs[k] ds) :
    SegsTo B gs (k + 1) w (setL w1 B (k * 9) ds) := by
  obtain ⟨hb, hrow, hall⟩ := h
  have hrow1 := hrow.keep (hb1.block _ hrow.lt)
  have hm : (k + 1) * 9 ≤ gs.length * 9 := Nat.mul_le_mul_right 9 hk
  obtain ⟨s1, s2, s3, s4, s5⟩ := setL_facts ds hrow1 (o := k * 9) (by omega)
  have hlt := hrow.lt
  refine ⟨(hb.trans (hb1.mono (by omega))).trans s3, s1, fun j hj hjk => ?_⟩
  by_cases hjk2 : j = k
  · subst hjk2
    exact ⟨ds, hl, fun i hi => s2 i (by omega), (hg.keep fun b hb => s4 b (by have := hb.1; omega)).mono fun b hb => ⟨by have := hb.1; omega, by rw [s5]; exact hb.2⟩⟩
  · obtain ⟨es, e1, e2, e3⟩ := hall j hj (by omega)
    have hm2 : (j + 1) * 9 ≤ k * 9 := Nat.mul_le_mul_right 9 (by omega)
    refine ⟨es, e1, fun i hi => ?_, (e3.keep fun b hb => (s4 b (by have := hb.1; omega)).trans (hb1.block b hb.2)).mono fun b hb => ⟨hb.1, by rw [s5]; exact Nat.lt_of_lt_of_le hb.2 hb1.size⟩⟩
    exact (setL_low ds (by omega)).trans ((World.cell?_of_block (w := wr) (hb1.block B hrow.lt)).trans (e2 i hi))

end Go.Proofs.YtcgbonlffcpofaaGreatDoor
