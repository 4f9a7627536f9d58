/- spec's draws, what they are: a cursor's byte, its pick, as functions of the code. -/
import Derived.Test.YtcgbonlffcpofaaGreatDoorQ5
import Derived.Deep.RegionWith
namespace Go.Proofs.YtcgbonlffcpofaaGreatDoor
open Go.RowKit Go.Deep

/-- A code: how long it is, its bytes. A cursor's state: where it is, its seed. -/
abbrev Src := Nat × (Nat → Int)
abbrev Sig := Int × Int

def CodeD (g : Nat) (q : Src) (v : Value) (w : World) : Prop :=
  ∃ a cap, v = .slice a q.1 cap ∧ q.1 ≤ cap ∧ cap ≤ 2 ^ 47 ∧ q.1 ≤ 1048576 ∧ ∀ i, i < q.1 → ∃ b off, a = some ⟨b, off, none⟩ ∧ b < g ∧ w.cell? ⟨b, off + i, none⟩ = some (.int .u8 (q.2 i)) ∧ 0 ≤ q.2 i ∧ q.2 i < 256
theorem CodeD.low {g : Nat} {q : Src} {v : Value} {w w' : World} (h : CodeD g q v w) (hk : ∀ b, b < g → w'.heap[b]? = w.heap[b]?) : CodeD g q v w' := by
  obtain ⟨a, cap, h1, h2, h3, h4, h5⟩ := h
  refine ⟨a, cap, h1, h2, h3, h4, fun i hi => ?_⟩
  obtain ⟨b, off, g1, g2, g4, g5⟩ := h5 i hi
  exact ⟨b, off, g1, g2, (World.cell?_of_block (w := w) (hk b g2)).trans g4, g5⟩

/-- Block g is a cursor in this state, N bytes gone at most. -/
def CurD (g : Nat) (q : Src) (v : Value) (N : Nat) (σ : Sig) (w : World) : Prop :=
  CodeD g q v w ∧ w.heap[g]? = some (.cells #[v, .int .i64 σ.1, .int .i64 σ.2] 61 (0, 0)) ∧ 0 ≤ σ.1 ∧ σ.1 ≤ N ∧ 0 ≤ σ.2 ∧ σ.2 < 2147483648
theorem CurD.lt {g N : Nat} {q : Src} {v : Value} {σ : Sig} {w : World} (h : CurD g q v N σ w) : g < w.heap.size := (Array.getElem?_eq_some_iff.1 h.2.1).1
theorem CurD.mono {g N M : Nat} {q : Src} {v : Value} {σ : Sig} {w : World} (h : CurD g q v N σ w) (hN : N ≤ M) : CurD g q v M σ w := by
  obtain ⟨h1, h2, h3, h4, h5⟩ := h
  exact ⟨h1, h2, h3, by omega, h5⟩
theorem CurD.low {g N : Nat} {q : Src} {v : Value} {σ : Sig} {w w' : World} (h : CurD g q v N σ w) (hb : ∀ b, b ≤ g → w'.heap[b]? = w.heap[b]?) : CurD g q v N σ w' := by
  obtain ⟨h1, h2, h3⟩ := h
  exact ⟨h1.low fun b hb' => hb b (by omega), (hb g (Nat.le_refl _)).trans h2, h3⟩
theorem CurD.below {g N : Nat} {q : Src} {v : Value} {σ : Sig} {w w' : World} (h : CurD g q v N σ w) (hb : Below w.heap.size w w') : CurD g q v N σ w' := h.low fun b hb' => hb.block b (by have := h.lt; omega)
theorem CurD.alloc {g N : Nat} {q : Src} {v : Value} {σ : Sig} {w : World} (h : CurD g q v N σ w) (o : Obj) : CurD g q v N σ (w.alloc o) := h.below ((Below.refl _ _).alloc (Nat.le_refl _) _)

def byteF (q : Src) (σ : Sig) : Int × Sig :=
  if 4000 + 4 * (q.1 : Int) < σ.1 + 1 then (0, (σ.1 + 1, σ.2))
  else if (q.1 : Int) < σ.1 + 1 then ((σ.2 * 1103515245 + 12345) % 2147483648 / 65536 % 256, (σ.1 + 1, (σ.2 * 1103515245 + 12345) % 2147483648))
  else (q.2 σ.1.toNat, (σ.1 + 1, (σ.2 * 31 + q.2 σ.1.toNat + 7) % 2147483648))
def pickF (q : Src) (n : Int) (σ : Sig) : Nat × Sig :=
  if n ≤ 1 then (0, σ)
  else if n ≤ 256 then (((byteF q σ).1 % n).toNat, (byteF q σ).2)
  else ((((byteF q σ).1 * 256 + (byteF q (byteF q σ).2).1) % n).toNat, (byteF q (byteF q σ).2).2)
set_option maxRecDepth 40000 in
set_option maxHeartbeats 1000000 in
theorem dbyteD_any (g N : Nat) (q : Src) (v : Value) (σ : Sig) (w : World) (hc : CurD g q v N σ w) (hN : N ≤ 1099511627776) :
    Calls Tryz.prog 44 #[.pointer (some ⟨g, 0, none⟩)] w fun e w' => e = .returned (.int .i64 (byteF q σ).1) ∧ 0 ≤ (byteF q σ).1 ∧ (byteF q σ).1 < 256 ∧ CurD g q v (N + 1) (byteF q σ).2 w' ∧ Kept g w w' := by
  have hgl := hc.lt
  obtain ⟨L, cb⟩ := q
  obtain ⟨p, sd⟩ := σ
  obtain ⟨hcode, hh, hp0, hp1, hs0, hs1⟩ := hc
  dsimp only at hh hp0 hp1 hs0 hs1
  obtain ⟨f0, f1, f2, z1, z2⟩ := cur_cells hh
  have Hcode := hide hcode
  obtain ⟨a, cap, rfl, hLc, hcap, hL, hel⟩ := hcode
  dsimp only at hLc hL hel hh f0 ⊢
  -- the world behind the count
  obtain ⟨w1, hw1⟩ : ∃ w1, w1 = w.setCell ⟨g, 1, none⟩ (.int .i64 (p + 1)) := ⟨_, rfl⟩
  have hh1 : w1.heap[g]? = some (.cells #[.slice a L cap, .int .i64 (p + 1), .int .i64 sd] 61 (0, 0)) := by
    rw [hw1]; exact Row.setHeap hh 1 _
  have hk1 : Kept g w w1 := by rw [hw1]; exact (Kept.refl g w).set _ _
  have hend : ∀ (w' : World) (x sd' : Int), byteF (L, cb) (p, sd) = (x, (p + 1, sd')) → w'.heap[g]? = some (.cells #[.slice a L cap, .int .i64 (p + 1), .int .i64 sd'] 61 (0, 0)) → Kept g w w' → 0 ≤ sd' → sd' < 2147483648 → 0 ≤ x → x < 256 →
      (Ending.returned (.int .i64 x) = .returned (.int .i64 (byteF (L, cb) (p, sd)).1) ∧ 0 ≤ (byteF (L, cb) (p, sd)).1 ∧ (byteF (L, cb) (p, sd)).1 < 256 ∧ CurD g (L, cb) (.slice a L cap) (N + 1) (byteF (L, cb) (p, sd)).2 w' ∧ Kept g w w') :=
    fun w' x sd' h0 h1 h2 h3 h4 h5 h6 => by
      rw [h0]
      exact ⟨rfl, h5, h6, ⟨(unhide Hcode).low fun b hb => h2.block b (by omega) (by omega), h1, by dsimp only; omega, by dsimp only; omega, h3, h4⟩, h2⟩
  have HEND := hide hend
  have HK1 := hide hk1
  have HH1 := hide hh1
  have HEL := hide hel
  have HW1 := hide hw1
  clear hh hend hk1 hh1 hel hw1
  by_cases hA : 4000 + 4 * (L : Int) < p + 1
  · have hF := hide (show byteF (L, cb) (p, sd) = (0, (p + 1, sd)) from if_pos hA)
    go_enter Tryz.func44, Tryz.ntmps44
    go_wp2_with fail
    rw [← unhide HW1]
    obtain ⟨q0, q1, q2, y1, y2⟩ := cur_cells (unhide HH1)
    clear f0 f1 f2 z1 z2
    go_region
    go_wp2_with fail
    go_ret
    exact unhide HEND _ 0 sd (unhide hF) (unhide HH1) (unhide HK1).drew hs0 hs1 (by omega) (by omega)
  by_cases hB : (L : Int) < p + 1
  · have hF := hide (show byteF (L, cb) (p, sd) = ((sd * 1103515245 + 12345) % 2147483648 / 65536 % 256, (p + 1, (sd * 1103515245 + 12345) % 2147483648)) from (if_neg hA).trans (if_pos hB))
    go_enter Tryz.func44, Tryz.ntmps44
    go_wp2_with fail
    rw [← unhide HW1]
    obtain ⟨q0, q1, q2, y1, y2⟩ := cur_cells (unhide HH1)
    clear f0 f1 f2 z1 z2
    go_region
    go_wp2_with fail
    go_region
    go_wp2_with fail
    go_ret
    exact unhide HEND _ _ _ (unhide hF) (Row.setHeap (unhide HH1) 2 _) (((unhide HK1).set _ _).drew.drew) (by omega) (by omega) (by omega) (by omega)
  · obtain ⟨k, rfl⟩ : ∃ k : Nat, p = k := ⟨p.toNat, by omega⟩
    obtain ⟨b, off, rfl, hb1, hb3, hx0, hx1⟩ := unhide HEL k (by omega)
    have hF := hide (show byteF (L, cb) ((k : Int), sd) = (cb k, ((k : Int) + 1, (sd * 31 + cb k + 7) % 2147483648)) from (if_neg hA).trans (if_neg hB))
    generalize cb k = x at hb3 hx0 hx1 hF
    have q3 : w1.cell? ⟨b, off + k, none⟩ = some (.int .u8 x) := ((unhide HK1).cell (by omega) (by omega)).trans hb3
    go_enter Tryz.func44, Tryz.ntmps44
    go_wp2_with fail
    rw [← unhide HW1]
    obtain ⟨q0, q1, q2, y1, y2⟩ := cur_cells (unhide HH1)
    clear f0 f1 f2 z1 z2 hb3
    go_region
    go_wp2_with fail
    go_region
    go_wp2_with fail
    have w0 : IntKind.i64.wrap ((k : Int) + 1 - 1) = (k : Int) := by rw [show (k : Int) + 1 - 1 = k from by omega, IntKind.wrap_i64]; omega
    have w2 : (0 : Int) ≤ (k : Int) := by omega
    have w3 : (k : Int) < (L : Int) := by omega
    have w4 : ((k : Int)).toNat = k := by omega
    have w5 : IntKind.i64.wrap (sd * 31) = sd * 31 := by rw [IntKind.wrap_i64]; omega
    have w6 : IntKind.i64.wrap (sd * 31 + x) = sd * 31 + x := by rw [IntKind.wrap_i64]; omega
    have w7 : IntKind.i64.wrap (sd * 31 + x + 7) = sd * 31 + x + 7 := by rw [IntKind.wrap_i64]; omega
    go_region
    go_wp2_with fail
    go_region
    go_wp2_with fail
    go_ret
    exact unhide HEND _ x ((sd * 31 + x + 7) % 2147483648) (unhide hF) (Row.setHeap (unhide HH1) 2 _) (((unhide HK1).set _ _).drew.drew.drew.drew) (by omega) (by omega) hx0 hx1

theorem pickF_one {q : Src} {n : Int} {σ : Sig} (h : n ≤ 1) : pickF q n σ = (0, σ) := if_pos h
theorem pickF_few {q : Src} {n : Int} {σ : Sig} (h : ¬ n ≤ 1) (h' : n ≤ 256) : pickF q n σ = (((byteF q σ).1 % n).toNat, (byteF q σ).2) := (if_neg h).trans (if_pos h')

set_option maxRecDepth 40000 in
set_option maxHeartbeats 1000000 in
theorem dpickD_any (g N : Nat) (q : Src) (v : Value) (σ : Sig) (n : Int) (w : World) (hc : CurD g q v N σ w) (hN : N ≤ 1000000000000) (hn0 : -1000000 ≤ n) (hn : n ≤ 256) :
    Calls Tryz.prog 27 #[.pointer (some ⟨g, 0, none⟩), .int .i64 n] w fun e w' => ∃ r σ', pickF q n σ = (r, σ') ∧ e = .returned (.int .i64 r) ∧ ((r : Int) < n ∨ (r = 0 ∧ n ≤ 1)) ∧ CurD g q v (N + 2) σ' w' ∧ Kept g w w' := by
  by_cases h1 : n ≤ 1
  · have HC := hide hc
    clear hc
    go_enter Tryz.func27, Tryz.ntmps27
    go_wp2_with fail
    go_ret
    exact ⟨0, σ, pickF_one h1, rfl, .inr ⟨rfl, h1⟩, (unhide HC).mono (by omega), Kept.refl _ _⟩
  · have hb := hide (dbyteD_any g N q v σ w hc (by omega))
    have hp := hide (pickF_few (q := q) (σ := σ) h1 hn)
    generalize byteF q σ = x at hb hp
    obtain ⟨x, σ'⟩ := x
    clear hc
    go_enter Tryz.func27, Tryz.ntmps27
    go_wp2_with fail
    refine (unhide hb).mono ?_
    rintro e w1 ⟨rfl, hx0, hx1, hc1, hk1⟩
    try dsimp only at hx0 hx1 hc1
    have HC := hide hc1
    have HK := hide hk1
    clear hc1 hk1
    go_wp2_with fail
    go_ret
    have hm := Int.emod_nonneg x (by omega : n ≠ 0)
    have hm2 := Int.emod_lt_of_pos x (by omega : 0 < n)
    exact ⟨(x % n).toNat, σ', unhide hp, ret_int (by omega), .inl (by omega), (unhide HC).mono (by omega), unhide HK⟩

end Go.Proofs.YtcgbonlffcpofaaGreatDoor
/- An atom's name drawn, a cursor made, as functions of the code. -/
namespace Go.Proofs.YtcgbonlffcpofaaGreatDoor
open Go.RowKit Go.Deep

def strV : Option Value → ByteArray
  | some (.string s) => s
  | _ => ⟨#[]⟩
def intV : Option Value → Int
  | some (.int .i64 n) => n
  | _ => 0
theorem lit_strD {g : Nat} {w w1 : World} {arr : Array Value} {e : TypeId} (hg : g < w.heap.size) (hk : Kept g (w.alloc (.cells arr e)) w1) (h : arr.toList.all isStr = true) {r : Nat} (hr : r < arr.size) :
    ∃ s : ByteArray, strV arr[r]? = s ∧ w1.cell? ⟨w.heap.size, r, none⟩ = some (.string s) ∧ s.size ≤ 100 := by
  obtain ⟨s, h1, h2⟩ := lit_str hg hk h hr
  exact ⟨s, by rw [← lit_block hg hk r, h1]; rfl, h1, h2⟩
theorem lit_intD {g : Nat} {w w1 : World} {arr : Array Value} {e : TypeId} (hg : g < w.heap.size) (hk : Kept g (w.alloc (.cells arr e)) w1) (h : arr.toList.all isI64 = true) {r : Nat} (hr : r < arr.size) :
    ∃ n : Int, intV arr[r]? = n ∧ w1.cell? ⟨w.heap.size, r, none⟩ = some (.int .i64 n) ∧ In64 n := by
  obtain ⟨s, h1, h2⟩ := lit_int hg hk h hr
  exact ⟨s, by rw [← lit_block hg hk r, h1]; rfl, h1, h2⟩

def atomsL : Array Value := #[.string ⟨#[97]⟩, .string ⟨#[98]⟩, .string ⟨#[111, 107]⟩, .string ⟨#[101, 114, 114, 111, 114]⟩, .string ⟨#[116, 114, 117, 101]⟩, .string ⟨#[102, 97, 108, 115, 101]⟩, .string ⟨#[120, 49]⟩, .string ⟨#[97, 66, 95]⟩,
  .string ⟨#[117, 110, 100, 101, 102, 105, 110, 101, 100]⟩, .string ⟨#[97, 98, 99, 100, 101, 102, 103, 104, 105, 106, 107, 108, 109, 110, 111, 112, 113, 114, 115, 116, 117, 118, 119, 120, 121, 122, 97, 98, 99, 100]⟩]
def atomF (q : Src) (σ : Sig) : ByteArray × Sig := (strV atomsL[(pickF q 10 σ).1]?, (pickF q 10 σ).2)

set_option maxRecDepth 40000 in
theorem datomD_any (g N : Nat) (q : Src) (v : Value) (σ : Sig) (w : World) (hc : CurD g q v N σ w) (hN : N ≤ 1000000000000) :
    Calls Tryz.prog 56 #[.pointer (some ⟨g, 0, none⟩)] w fun e w' => ∃ s σ', atomF q σ = (s, σ') ∧ e = .returned (.string s) ∧ s.size ≤ 100 ∧ CurD g q v (N + 2) σ' w' ∧ Kept g w w' := by
  have hp := hide (fun o => dpickD_any g N q v σ 10 (w.alloc o) (hc.alloc o) hN (by omega) (by omega))
  have hg := hc.lt
  clear hc
  go_enter Tryz.func56, Tryz.ntmps56
  go_wp2_with fail
  refine ((unhide hp) _).mono ?_
  rintro e w1 ⟨r, σ', hpk, rfl, hr, hc1, hk1⟩
  have hr' : (r : Int) < 10 := by omega
  obtain ⟨s, h1, hs, hs2⟩ := lit_strD (r := r) hg hk1 rfl (by show r < 10; omega)
  have h1' : strV atomsL[r]? = s := h1
  have hF : atomF q σ = (s, σ') := by unfold atomF; rw [hpk]; dsimp only; rw [h1']
  have HC := hide hc1
  have HK := hide (((Kept.refl g w).alloc _).trans hk1)
  have HF := hide hF
  clear hc1 hk1 hr hpk h1 h1' hF
  go_wp2_with fail
  go_ret
  exact ⟨s, σ', unhide HF, rfl, hs2, unhide HC, unhide HK⟩

set_option maxRecDepth 40000 in
theorem dcurD_any (q : Src) (v : Value) (w : World) (hc : CodeD w.heap.size q v w) :
    Calls Tryz.prog 10 #[v] w fun e w' => e = .returned (.pointer (some ⟨w.heap.size, 0, none⟩)) ∧ CurD w.heap.size q v 0 (0, 17 + (q.1 : Int)) w' ∧ Kept w.heap.size w w' := by
  have HC := hide hc
  obtain ⟨a, cap, rfl, hLc, hcap, hL, hel⟩ := hc
  obtain ⟨L, cb⟩ := q
  dsimp only at hLc hL
  clear hel
  go_enter Tryz.func10, Tryz.ntmps10
  go_wp2_with fail
  go_ret
  have hk : Kept w.heap.size w (w.alloc (.cells #[.slice a L cap, .int .i64 0, .int .i64 (17 + L)] 61)) := (Kept.refl _ w).alloc _
  exact ⟨rfl, ⟨(unhide HC).low fun b hb => hk.block b hb (by omega), heap_new w _, by dsimp only; omega, by dsimp only; omega, by dsimp only; omega, by dsimp only; omega⟩, hk⟩

end Go.Proofs.YtcgbonlffcpofaaGreatDoor
