/- Segments: what they are, how they lie in memory; szSeg, szSegS. -/
import Derived.Test.YthikciimaegphaaGreatDoorQ23
namespace Go.Proofs.YthikciimaegphaaGreatDoor
open Go.RowKit

/-- A segment: Type, Size, Unit, Signed, Little, V. -/
abbrev SgT (n : Nat) := Int × Int × Int × Bool × Bool × Tm n
def SgAt (S : Nat → Prop) (w : World) (n : Nat) (g : SgT n) (ds : List Value) : Prop := ∃ c0 c1 c2 c3, ds = [.int .i64 g.1, .int .i64 g.2.1, .int .i64 g.2.2.1, .bool g.2.2.2.1, .bool g.2.2.2.2.1, c0, c1, c2, c3] ∧
  In64 g.1 ∧ In64 g.2.1 ∧ In64 g.2.2.1 ∧ TAt S w n g.2.2.2.2.2 c0 c1 c2 c3
theorem SgAt.keep {S : Nat → Prop} {w w' : World} (hk : ∀ b, S b → w'.heap[b]? = w.heap[b]?) {n : Nat} {g : SgT n} {ds : List Value} (h : SgAt S w n g ds) : SgAt S w' n g ds := by
  obtain ⟨c0, c1, c2, c3, e, h1, h2, h3, ht⟩ := h
  exact ⟨c0, c1, c2, c3, e, h1, h2, h3, ht.keep hk⟩
theorem SgAt.mono {S S' : Nat → Prop} {w : World} (hk : ∀ b, S b → S' b) {n : Nat} {g : SgT n} {ds : List Value} (h : SgAt S w n g ds) : SgAt S' w n g ds := by
  obtain ⟨c0, c1, c2, c3, e, h1, h2, h3, ht⟩ := h
  exact ⟨c0, c1, c2, c3, e, h1, h2, h3, ht.mono hk⟩
def SgsAt (S : Nat → Prop) (w : World) (n : Nat) (gs : List (SgT n)) (v : Value) : Prop := RAt 9 S w (SgAt S w n) gs v
theorem SgsAt.keep {S : Nat → Prop} {w w' : World} (hk : ∀ b, S b → w'.heap[b]? = w.heap[b]?) {n : Nat} {gs : List (SgT n)} {v : Value} (h : SgsAt S w n gs v) : SgsAt S w' n gs v := RAt.keep h hk fun _ _ _ hr => hr.keep hk
theorem SgsAt.mono {S S' : Nat → Prop} {w : World} (hk : ∀ b, S b → S' b) {n : Nat} {gs : List (SgT n)} {v : Value} (h : SgsAt S w n gs v) : SgsAt S' w n gs v := RAt.mono h hk fun _ _ _ hr => hr.mono hk
theorem SgsAt.up {w w' : World} (hb : Below w.heap.size w w') {n : Nat} {gs : List (SgT n)} {v : Value} (h : SgsAt (Under w.heap.size) w n gs v) : SgsAt (Under w'.heap.size) w' n gs v :=
  (h.keep fun b hb' => hb.block b hb').mono fun _ hb' => Nat.lt_of_lt_of_le hb' hb.size
theorem SgAt.up {w w' : World} (hb : Below w.heap.size w w') {n : Nat} {g : SgT n} {ds : List Value} (h : SgAt (Under w.heap.size) w n g ds) : SgAt (Under w'.heap.size) w' n g ds :=
  (h.keep fun b hb' => hb.block b hb').mono fun _ hb' => Nat.lt_of_lt_of_le hb' hb.size

/-- The cells of a place's element. -/
theorem SgsAt.at {S : Nat → Prop} {w : World} {n : Nat} {gs : List (SgT n)} {a : Option Addr} {l cap : Nat} (h : SgsAt S w n gs (.slice a l cap)) (i : Nat) (hi : i < gs.length) : ∃ b off k m s u, a = some ⟨b, off, none⟩ ∧ S b ∧
    w.cell? ⟨b, off + i * 9, none⟩ = some (.int .i64 gs[i].1) ∧ w.cell? ⟨b, off + i * 9 + 1, none⟩ = some (.int .i64 gs[i].2.1) ∧ w.cell? ⟨b, off + i * 9 + 2, none⟩ = some (.int .i64 gs[i].2.2.1) ∧
    w.cell? ⟨b, off + i * 9 + 3, none⟩ = some (.bool gs[i].2.2.2.1) ∧ w.cell? ⟨b, off + i * 9 + 4, none⟩ = some (.bool gs[i].2.2.2.2.1) ∧ w.cell? ⟨b, off + i * 9 + 5, none⟩ = some (.int .i64 k) ∧
    w.cell? ⟨b, off + i * 9 + 6, none⟩ = some (.int .i64 m) ∧ w.cell? ⟨b, off + i * 9 + 7, none⟩ = some (.string s) ∧ w.cell? ⟨b, off + i * 9 + 8, none⟩ = some u ∧
    In64 gs[i].1 ∧ In64 gs[i].2.1 ∧ In64 gs[i].2.2.1 ∧ TAt S w n gs[i].2.2.2.2.2 (.int .i64 k) (.int .i64 m) (.string s) u := by
  obtain ⟨a', cap', hv, h1, h2, h3⟩ := h
  cases hv
  obtain ⟨b, off, ds, e0, e1, e2, e3, c0, c1, c2, c3, rfl, i1, i2, i3, ht⟩ := h3 i hi
  obtain ⟨k, m, s, ua, ul, uc, rfl, rfl, rfl, rfl⟩ := ht.shape
  exact ⟨b, off, k, m, s, _, e0, e1, e3 0 (by omega), e3 1 (by omega), e3 2 (by omega), e3 3 (by omega), e3 4 (by omega), e3 5 (by omega), e3 6 (by omega), e3 7 (by omega), e3 8 (by omega), i1, i2, i3, ht⟩

def totG {n : Nat} (gs : List (SgT n)) : Nat := (gs.map fun g => tot n g.2.2.2.2.2).sum
theorem totG_take {n : Nat} (gs : List (SgT n)) (k : Nat) (h : k < gs.length) : totG (gs.take (k + 1)) = totG (gs.take k) + tot n gs[k].2.2.2.2.2 := by
  unfold totG; rw [List.take_succ_eq_append_getElem h, List.map_append, List.sum_append]; simp only [List.map_cons, List.map_nil, List.sum_cons, List.sum_nil, Nat.add_zero]
theorem totG_le {n : Nat} (gs : List (SgT n)) (k : Nat) : totG (gs.take k) ≤ totG gs := by
  have : totG gs = totG (gs.take k) + totG (gs.drop k) := by unfold totG; rw [← List.sum_append, ← List.map_append, List.take_append_drop]
  omega

set_option maxHeartbeats 1000000 in
theorem szSeg_any {n : Nat} (t : Tm n) (x0 x1 x2 x3 x4 c0 c1 c2 c3 : Value) (l : Int) (w : World) (ht : TAt (Under w.heap.size) w n t c0 c1 c2 c3) (hl0 : 0 ≤ l) (hl1 : l ≤ 1048576) :
    Calls Tryz.prog 14 #[.agg #[x0, x1, x2, x3, x4, c0, c1, c2, c3], .int .i64 l] w fun e w' => e = .returned (.int .i64 (left (tot n t) l)) ∧ Below w.heap.size w w' := by
  obtain ⟨k, m, s, ua, ul, uc, rfl, rfl, rfl, rfl⟩ := ht.shape
  by_cases h : ((tot n t : Nat) : Int) ≤ l
  · have hn : ¬ l - (tot n t : Int) < 0 := by omega
    have hs := fun w' (hb : Below w.heap.size w w') => sz_any n t _ _ _ _ l w' (ht.up hb) hl0 hl1
    have HS := hide hs
    clear ht hs
    go_enter Tryz.func14, Tryz.ntmps14
    go_wp2_with fail
    refine ((unhide HS) _ ((Below.refl _ _).alloc (Nat.le_refl _) _)).mono ?_
    rintro e w' ⟨rfl, hb2⟩
    rw [left_pos h]
    go_wp2_with fail
    go_ret
    exact ⟨ret_int (left_pos h).symm, ((Below.refl _ _).alloc (Nat.le_refl _) _).trans (hb2.mono (by simp))⟩
  · have hs := fun w' (hb : Below w.heap.size w w') => sz_any n t _ _ _ _ l w' (ht.up hb) hl0 hl1
    have HS := hide hs
    clear ht hs
    go_enter Tryz.func14, Tryz.ntmps14
    go_wp2_with fail
    refine ((unhide HS) _ ((Below.refl _ _).alloc (Nat.le_refl _) _)).mono ?_
    rintro e w' ⟨rfl, hb2⟩
    rw [left_neg (by omega)]
    go_wp2_with fail
    go_ret
    exact ⟨ret_int (left_neg (by omega)).symm, ((Below.refl _ _).alloc (Nat.le_refl _) _).trans (hb2.mono (by simp))⟩

set_option maxHeartbeats 1000000 in
theorem szSegS_any {n : Nat} (gs : List (SgT n)) (v : Value) (l : Int) (w : World) (hv : SgsAt (Under w.heap.size) w n gs v) (hl0 : 0 ≤ l) (hl1 : l ≤ 1048576) :
    Calls Tryz.prog 5 #[v, .int .i64 l] w fun e w' => e = .returned (.int .i64 (left (gs.length + totG gs) l)) ∧ Below w.heap.size w w' := by
  obtain ⟨a, cap, rfl, hcap⟩ : ∃ a cap, v = .slice a gs.length cap ∧ gs.length ≤ 2 ^ 47 := by obtain ⟨a, cap, h, _, h2, _⟩ := hv; exact ⟨a, cap, h, h2⟩
  by_cases hneg : l < gs.length
  · have hn : l - gs.length < 0 := by omega
    go_enter Tryz.func5, Tryz.ntmps5
    go_wp2_with fail
    go_ret
    exact ⟨ret_int (left_neg (by omega)).symm, Below.refl _ _⟩
  · have hn : ¬ l - gs.length < 0 := by omega
    have hlb : (gs.length : Int) ≤ l := by omega
    go_enter Tryz.func5, Tryz.ntmps5
    go_wp2_with fail
    go_loopw [1, 5] (fun lv iv wr => ∃ k : Nat, k ≤ gs.length ∧ iv = .int .i64 k ∧ (totG (gs.take k) : Int) + gs.length ≤ l ∧ lv = .int .i64 (l - gs.length - totG (gs.take k)) ∧ Below w.heap.size w wr) (fun _ iv _ => gs.length - (intOf iv).toNat)
    case atStart => exact ⟨0, by omega, rfl, by simp [totG]; omega, by simp [totG], Below.refl _ _⟩
    case round =>
      obtain ⟨k, hk, rfl, hle, rfl, hb⟩ := hrel
      by_cases hlt : k < gs.length
      · obtain ⟨b, off, kk, km, ks, ku, rfl, hS, e0, e1, e2, e3, e4, e5, e6, e7, e8, i1, i2, i3, hr⟩ := (hv.up hb).at k hlt
        have hts := totG_take gs k hlt
        have htl := totG_le gs (k + 1)
        generalize gs[k] = g at e0 e1 e2 e3 e4 hr hts i1 i2 i3
        obtain ⟨g1, g2, g3, g4, g5, t⟩ := g
        dsimp only at e0 e1 e2 e3 e4 hr hts i1 i2 i3
        by_cases hfit : (tot n t : Int) ≤ l - gs.length - totG (gs.take k)
        · have hnn : ¬ l - gs.length - totG (gs.take k) - tot n t < 0 := by omega
          have HT := hide hts
          have HB := hide hb
          have HZ := hide (szSeg_any t (.int .i64 g1) (.int .i64 g2) (.int .i64 g3) (.bool g4) (.bool g5) _ _ _ _ (l - gs.length - totG (gs.take k)) wr hr (by omega) (by omega))
          clear hts htl hb hr
          go_wp2_with (go_at_call 14; refine (unhide HZ).mono ?_; rintro e w' ⟨rfl, hb2⟩; rw [left, if_pos hfit])
          go_roundw
          case rel => exact ⟨k + 1, hlt, by go_num, by rw [unhide HT]; omega, by rw [unhide HT]; congr 1; omega, (unhide HB).trans (hb2.mono (unhide HB).size)⟩
          case measure => simp [intOf]; omega
        · have hlast : ¬ ((gs.length + totG gs : Nat) : Int) ≤ l := by omega
          have HB := hide hb
          have HZ := hide (szSeg_any t (.int .i64 g1) (.int .i64 g2) (.int .i64 g3) (.bool g4) (.bool g5) _ _ _ _ (l - gs.length - totG (gs.take k)) wr hr (by omega) (by omega))
          clear hts htl hb hr
          go_wp2_with (go_at_call 14; refine (unhide HZ).mono ?_; rintro e w' ⟨rfl, hb2⟩; rw [left, if_neg hfit])
          go_ret
          exact ⟨ret_int (left_neg (by omega)).symm, (unhide HB).trans (hb2.mono (unhide HB).size)⟩
      · have hkk : k = gs.length := by omega
        subst hkk
        rw [List.take_length] at hle ⊢
        go_wp2_with fail
        go_ret
        exact ⟨ret_int (by rw [left_pos (by omega)]; omega), hb⟩

end Go.Proofs.YthikciimaegphaaGreatDoor
/- Segments that came in: a slice of them lies in memory as SgsAt says. -/
namespace Go.Proofs.YthikciimaegphaaGreatDoor
open Go.ChangeShapes Go.WideShapes Go.ChangeAt Go.RowKit Go.Joins

theorem cellsSeg : Tryz.prog.cellsOf 49 = 9 := by kernel_rfl
theorem cellsBool : Tryz.prog.cellsOf 4 = 1 := by kernel_rfl
theorem bytesSeg : Tryz.prog.bytesOf 49 = 88 := by kernel_rfl
theorem list6 {α : Type} {xs : List α} (h : xs.length = 6) : ∃ a b c d e f, xs = [a, b, c, d, e, f] := by
  match xs, h with
  | [a, b, c, d, e, f], _ => exact ⟨a, b, c, d, e, f, rfl⟩
theorem list9 {α : Type} {xs : List α} (h : xs.length = 9) : ∃ a b c d e f g i j, xs = [a, b, c, d, e, f, g, i, j] := by
  match xs, h with
  | [a, b, c, d, e, f, g, i, j], _ => exact ⟨a, b, c, d, e, f, g, i, j, rfl⟩

section
variable {H : Type} {enc : TypeId × Value → H}

set_option maxRecDepth 40000 in
theorem open_seg (W : World) (fuel : Nat) (cs : List Value) (x : DataW H × List MemPlace) (h : DataW.trod enc Tryz.prog W 0 (fun _ => true) true fuel 49 cs = some x)
    (hw : ∀ y ∈ x.1.weights Tryz.prog 49, y ≤ reachBytes) : ∃ g : SgT ((fuel - 1) / 2), SgAt (Under W.heap.size) W ((fuel - 1) / 2) g cs := by
  obtain ⟨xs, m, hm, rfl, hcs, hxs, hf⟩ := DataW.trod_struct Tryz.underlying49 h
  rw [cellsSeg] at hcs
  obtain ⟨y0, y1, y2, y3, y4, y5, rfl⟩ := list6 hxs
  obtain ⟨c0, c1, c2, c3, c4, c5, c6, c7, c8, rfl⟩ := list9 hcs
  have h0 : DataW.trod enc Tryz.prog W 0 (fun _ => true) true m 3 [c0] = some y0 := by have := hf 0 _ rfl; simpa [cellsInt] using this
  have h1 : DataW.trod enc Tryz.prog W 0 (fun _ => true) true m 3 [c1] = some y1 := by have := hf 1 _ rfl; simpa [cellsInt] using this
  have h2 : DataW.trod enc Tryz.prog W 0 (fun _ => true) true m 3 [c2] = some y2 := by have := hf 2 _ rfl; simpa [cellsInt] using this
  have h3 : DataW.trod enc Tryz.prog W 0 (fun _ => true) true m 4 [c3] = some y3 := by have := hf 3 _ rfl; simpa [cellsBool] using this
  have h4 : DataW.trod enc Tryz.prog W 0 (fun _ => true) true m 4 [c4] = some y4 := by have := hf 4 _ rfl; simpa [cellsBool] using this
  have h5 : DataW.trod enc Tryz.prog W 0 (fun _ => true) true m 47 [c5, c6, c7, c8] = some y5 := by have := hf 5 _ rfl; simpa [cellsTerm] using this
  obtain ⟨k0, e0, rfl, w0⟩ := DataW.trod_int Tryz.underlying3 h0
  obtain ⟨k1, e1, rfl, w1⟩ := DataW.trod_int Tryz.underlying3 h1
  obtain ⟨k2, e2, rfl, w2⟩ := DataW.trod_int Tryz.underlying3 h2
  obtain ⟨b3, e3, rfl⟩ := DataW.trod_bool Tryz.underlying4 h3
  obtain ⟨b4, e4, rfl⟩ := DataW.trod_bool Tryz.underlying4 h4
  have hwt : ∀ y ∈ y5.1.weights Tryz.prog 47, y ≤ reachBytes := fun y hy => hw y (by
    simp only [List.map_cons, List.map_nil, DataW.weights, Tryz.underlying49, DataW.weightsEach] at hy ⊢
    simp [hy])
  obtain ⟨t, d0, d1, d2, d3, hd, hT⟩ := open_term W (m / 2) m rfl _ _ h5 hwt
  simp only [List.cons.injEq, and_true] at e0 e1 e2 e3 e4 hd
  obtain ⟨rfl, rfl, rfl, rfl⟩ := hd
  obtain rfl : m = fuel - 1 := by omega
  subst e0 e1 e2 e3 e4
  exact ⟨(k0, k1, k2, b3, b4, t), c5, c6, c7, c8, rfl, in64_of w0, in64_of w1, in64_of w2, hT⟩

set_option maxRecDepth 40000 in
theorem open_segs (W : World) (fuel : Nat) (v : Value) (x : DataW H × List MemPlace) (h : DataW.trod enc Tryz.prog W 0 (fun _ => true) true fuel 22 [v] = some x)
    (hw : ∀ y ∈ x.1.weights Tryz.prog 22, y ≤ reachBytes) : ∃ (n : Nat) (gs : List (SgT n)), SgsAt (Under W.heap.size) W n gs v := by
  rcases DataW.trod_slice Tryz.underlying22 h with ⟨hc, _⟩ | ⟨a, len, cap, elems, rest, g, hg, hc, rfl, hb, hl, hcm, hlen, hel, hsp, _⟩
  · obtain rfl : v = .slice none 0 0 := by simpa using hc
    exact ⟨0, [], RAt.nil⟩
  · obtain rfl : v = .slice (some a) len cap := by simpa using hc
    have hrl := (hsp rfl).1
    have hwc : (elems.length + rest.length) * 88 ≤ reachBytes := by
      have := hw ((elems.length + rest.length) * 88) (by simp [DataW.weights, Tryz.underlying22, bytesSeg])
      exact this
    have hR := reachBytes_lt
    have hspot : 0 < len → a.spot = none := fun h => by
      have he := hel 0 h
      rw [List.getElem?_eq_getElem (by omega)] at he
      obtain ⟨cs', hcs', _⟩ := Option.bind_eq_some_iff.1 he
      rw [cellsSeg] at hcs'
      obtain ⟨_, hl4, hcell⟩ := World.cells?_some hcs'
      have hc0 := hcell 0 (by decide)
      rw [List.getElem?_eq_getElem (by omega)] at hc0
      simpa [Addr.add] using World.cell?_spot hc0
    have hkid : ∀ i, i < len → ∃ t : SgT ((g - 1) / 2), ∃ b off ds, (some a : Option Addr) = some ⟨b, off, none⟩ ∧ Under W.heap.size b ∧ ds.length = 9 ∧
        (∀ j, j < 9 → W.cell? ⟨b, off + i * 9 + j, none⟩ = ds[j]?) ∧ SgAt (Under W.heap.size) W ((g - 1) / 2) t ds := by
      intro i hi
      have he := hel i hi
      rw [List.getElem?_eq_getElem (by omega)] at he
      obtain ⟨cs', hcs', htr⟩ := Option.bind_eq_some_iff.1 he
      obtain ⟨t, hT⟩ := open_seg W g cs' _ htr (fun y hy => hw y (by
        simp only [DataW.weights, Tryz.underlying22, List.mem_append, List.mem_cons]
        refine Or.inr (Or.inl ?_)
        exact weights_mem_all (by rw [List.mem_map]; exact ⟨_, List.getElem_mem (by omega), rfl⟩) y hy))
      rw [cellsSeg] at hcs'
      obtain ⟨_, hl9, hcell⟩ := World.cells?_some hcs'
      have hblk := World.cells?_block hcs' (by decide)
      have hsn := hspot (by omega)
      obtain ⟨b, off, sp⟩ := a
      obtain rfl : sp = none := hsn
      have hadd : ∀ j, ((⟨b, off, none⟩ : Addr).add (i * 9)).add j = ⟨b, off + i * 9 + j, none⟩ := fun j => by rw [add_plain, add_plain]
      refine ⟨t, b, off, cs', rfl, ?_, hl9, fun j hj => by rw [← hadd]; exact hcell j hj, hT⟩
      rw [add_plain] at hblk
      exact hblk
    obtain ⟨ks, hkl, hks⟩ := list_of len hkid
    exact ⟨_, ks, some a, cap, by rw [hkl], by omega, by omega, fun i hi => hks i hi⟩
end
end Go.Proofs.YthikciimaegphaaGreatDoor
