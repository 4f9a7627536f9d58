/- toTerm, toTermS: the copy's rows are its own, each in blocks of its own. -/
import Derived.Test.YtcgbonlffcpofaaGreatDoorQ2
import Derived.Test.YtcgbonlffcpofaaGreatDoorQ20
namespace Go.Proofs.YtcgbonlffcpofaaGreatDoor
open Go.RowKit

theorem OwnS.wide {w : World} : ∀ {n lo hi lo' hi' : Nat} {ks : List (Tm n)} {v : Value}, OwnS w n lo hi ks v → lo' ≤ lo → hi ≤ hi' → OwnS w n lo' hi' ks v
  | 0, _, _, _, _, _, _, h, _, _ => h
  | n + 1, lo, hi, lo', hi', ks, v, ⟨a, cap, hv, h⟩, hl, hh => by
    refine ⟨a, cap, hv, ?_⟩
    rcases h with h | ⟨R, cs, bs, h1, h2, h3, h4, h5, h6, h7, h8⟩
    · exact .inl h
    · exact .inr ⟨R, cs, bs, h1, h2, by omega, h4, h5, by omega, h7, h8⟩

theorem bs_next (bs : Nat → Nat) (k N : Nat) (hm : ∀ i j, i ≤ j → bs i ≤ bs j) (hk : bs k ≤ N) : ∃ bs' : Nat → Nat, (∀ j, j ≤ k → bs' j = bs j) ∧ bs' (k + 1) = N ∧ ∀ i j, i ≤ j → bs' i ≤ bs' j := by
  refine ⟨fun j => if j ≤ k then bs j else N, fun j hj => if_pos hj, if_neg (by omega), fun i j hij => ?_⟩
  show (if i ≤ k then bs i else N) ≤ (if j ≤ k then bs j else N)
  by_cases h1 : j ≤ k
  · rw [if_pos h1, if_pos (by omega)]; exact hm i j hij
  · rw [if_neg h1]
    by_cases h2 : i ≤ k
    · rw [if_pos h2]; have := hm i k h2; omega
    · rw [if_neg h2]; exact Nat.le_refl _

/-- The first k kids are over, each in blocks of its own. -/
def KidsO (n B : Nat) (ks : List (Tm (n + 1))) (k : Nat) (wr : World) : Prop :=
  ∃ bs : Nat → Nat, B < bs 0 ∧ (∀ i j, i ≤ j → bs i ≤ bs j) ∧ bs k ≤ wr.heap.size ∧ ∀ j (hj : j < ks.length), j < k → ∃ v3, wr.cell? ⟨B, j * 4 + 3, none⟩ = some v3 ∧ OwnS wr n (bs j) (bs (j + 1)) (kidsOf ks[j]) v3
theorem KidsO.next {n B k : Nat} {ks : List (Tm (n + 1))} {wr w1 w2 : World} (h : KidsO n B ks k wr) (hB : B < wr.heap.size) (hk : k < ks.length) (hb : Below wr.heap.size wr w1) (h2 : ∀ b, b ≠ B → w2.heap[b]? = w1.heap[b]?) (hs : w1.heap.size ≤ w2.heap.size)
    (hlow : ∀ o, o < k * 4 → w2.cell? ⟨B, o, none⟩ = w1.cell? ⟨B, o, none⟩) {v3 : Value} (h3 : w2.cell? ⟨B, k * 4 + 3, none⟩ = some v3) (ho : OwnS w1 n wr.heap.size w1.heap.size (kidsOf ks[k]) v3) : KidsO n B ks (k + 1) w2 := by
  obtain ⟨bs, b0, hm, hbk, hall⟩ := h
  have hw := hb.size
  obtain ⟨bs', hs1, hs2, hs3⟩ := bs_next bs k w1.heap.size hm (by omega)
  have hb00 := hs1 0 (Nat.zero_le _)
  refine ⟨bs', by omega, hs3, by omega, fun j hj hjk => ?_⟩
  by_cases hjj : j = k
  · subst hjj
    have hb0 := hm 0 j (Nat.zero_le _)
    rw [hs1 j (Nat.le_refl _), hs2]
    exact ⟨v3, h3, (ho.keep fun b h1 _ => h2 b (by omega)).wide hbk (Nat.le_refl _)⟩
  · obtain ⟨u3, e3, hoj⟩ := hall j hj (by omega)
    have hb0 := hm 0 j (Nat.zero_le _)
    have hbj := hm (j + 1) k (by omega)
    rw [hs1 j (by omega), hs1 (j + 1) (by omega)]
    exact ⟨u3, (hlow _ (by omega)).trans ((World.cell?_of_block (w := wr) (hb.block B hB)).trans e3), hoj.keep fun b h1 h4 => (h2 b (by omega)).trans (hb.block b (by omega))⟩

end Go.Proofs.YtcgbonlffcpofaaGreatDoor
