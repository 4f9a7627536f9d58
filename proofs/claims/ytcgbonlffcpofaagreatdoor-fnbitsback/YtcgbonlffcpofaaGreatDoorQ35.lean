/- spec.l02Put: a number's bits. -/
import Derived.Test.YtcgbonlffcpofaaGreatDoorQ9
import Derived.Test.YtcgbonlffcpofaaGreatDoorQ8
import Derived.Test.YtcgbonlffcpofaaGreatDoorQ18
import Derived.Test.YtcgbonlffcpofaaGreatDoorBj0
import Derived.Deep.RegionWith
import Derived.Deep.RegionLaw
import Derived.Deep.Upon
namespace Go.Proofs.YtcgbonlffcpofaaGreatDoor
open Go.RowKit Go.Deep

set_option maxRecDepth 100000 in
set_option maxHeartbeats 1000000 in
theorem put_any (v : Int) (size : Nat) (little : Bool) (w : World) (hs : size ≤ 49) :
    Calls Tryz.prog 13 #[.int .i64 v, .int .i64 size, .bool little] w fun e w' => ∃ u, e = .returned u ∧ w'.ownsRow w.heap.size 5 1 u size (u8s (putBits v size little)) ∧ Below w.heap.size w w' := by
  obtain ⟨i0, hi, hz0, hz1, hz2⟩ := info_parts info_u8
  have hbx := (Below.refl w.heap.size w).alloc (Nat.le_refl _) (.cells #[] 5)
  go_enter Tryz.func13, Tryz.ntmps13
  go_wp2_with fail
  go_loopw [0, 7, 8] (fun xv lv iv wr => ∃ k : Nat, k ≤ size ∧ iv = .int .i64 k ∧ xv = .int .i64 (v / 2 ^ k) ∧ wr.ownsRow w.heap.size 5 1 lv k (u8s (lowBits v k)) ∧ Below w.heap.size w wr) (fun _ _ iv _ => size - (intOf iv).toNat)
  case atStart =>
    refine ⟨0, Nat.zero_le _, rfl, by simp, ?_, hbx⟩
    have h := World.ownsRow_lit (base := w.heap.size) (e := 5) (size := 1) w #[] 0 (Nat.le_refl _) (by decide) rfl
    simpa [u8s, lowBits] using h
  case round =>
    obtain ⟨k, hk, rfl, rfl, hown, hb⟩ := hrel
    have hsz := hb.size
    clear hbx
    by_cases hlt : k < size
    · have HE := hide (low_elem (v / 2 ^ k))
      go_wp2_with (at_builtin; refine wpList_append_own _ rfl (.tmp 19) (.tmp 23) 22 rfl w.heap.size 5 i0 (.int .u8 0) 1 1 Tryz.underlying22 hi hz0 hz1 hz2 rfl (by decide) _ _ _ rfl (hown.alloc _) ⟨wr.heap.size, 0, none⟩ 1 1 [.int .u8 (v / 2 ^ k % 2)] rfl rfl ?c1 ?c2 ?c3 ?c4 ?c5 ?_)
      case c1 => rw [unhide HE]; exact cell_one_new _ _ _
      case c2 => intro u hu; simp at hu; subst hu; rfl
      case c3 => unfold maxLen; omega
      case c4 => omega
      case c5 => simp; omega
      intro v' w1 hown' hgrow _
      have hB1 : Below w.heap.size w w1 := (hb.alloc hsz _).grown hgrow (by simp; omega) (fun j hj => (hown.lt j hj).1)
      have hown2 : w1.ownsRow w.heap.size 5 1 v' (k + 1) (u8s (lowBits v (k + 1))) := by rw [lowBits_succ]; simpa [u8s] using hown'
      have HH := hide (half v k)
      clear hown' hown hb hgrow HE
      go_wp2_with fail
      go_roundw
      case rel => exact ⟨k + 1, by omega, by go_num, by first | rw [← unhide HH] | (rw [← unhide HH]; rfl), hown2, hB1⟩
      case measure => simp [intOf]; omega
    · have hkn : k = size := by omega
      subst hkn
      have hra := RowAt.of_own (xs := lowBits v k) (by rw [lowBits_length]; exact hown)
      obtain ⟨a, cap, rfl, hcap, hel⟩ := hra
      rw [lowBits_length] at hcap hel
      have HL := hide (lowBits_length v k)
      have Hb := hide hb
      have Hel := hide hel
      clear hown hb hel
      rename World => w1
      have hw1 : w.heap.size ≤ w1.heap.size := hsz
      clear hsz
      have hem : (w1.alloc (.cells #[] 5)).ownsRow w1.heap.size 5 1 (.slice (some ⟨w1.heap.size, 0, none⟩) 0 0) 0 [] := by
        have h := World.ownsRow_lit (base := w1.heap.size) (e := 5) (size := 1) w1 #[] 0 (Nat.le_refl _) (by decide) rfl
        simpa using h
      have hbe := (Below.refl w1.heap.size w1).alloc (Nat.le_refl _) (.cells #[] 5)
      have Hem := hide hem
      have Hbe := hide hbe
      clear hem hbe
      cases little
      · rw [unhide HL]
        go_wp2_with fail
        go_loopw [9, 12] (fun ov iv wr => ∃ q : Nat, q ≤ k ∧ iv = .int .i64 ((q : Int) - 1) ∧ wr.ownsRow w1.heap.size 5 1 ov (k - q) (u8s ((putBits v k false).take (k - q))) ∧ Below w1.heap.size w1 wr) (fun _ iv _ => (intOf iv + 1).toNat)
        case atStart => exact ⟨k, Nat.le_refl _, rfl, by simpa [u8s] using unhide Hem, unhide Hbe⟩
        case round =>
          obtain ⟨q, hq, rfl, hown, hb⟩ := hrel
          have hsz := hb.size
          cases q with
          | zero =>
            have e0 : ((0 : Nat) : Int) - 1 = -1 := rfl
            rw [e0]
            have hfin : wr.ownsRow w1.heap.size 5 1 u9 k (u8s (putBits v k false)) := by
              have := hown
              rw [Nat.sub_zero, List.take_of_length_le (by rw [putBits_length]; omega)] at this
              exact this
            have HF := hide hfin
            clear hown hfin
            go_wp2_with fail
            go_ret
            exact ⟨_, rfl, ownsRow_base (unhide HF) hw1, (unhide Hb).trans (hb.mono hw1)⟩
          | succ q =>
            have e0 : ((q + 1 : Nat) : Int) - 1 = q := by omega
            rw [e0]
            obtain ⟨b, off, rfl, hblk, hc⟩ := unhide Hel q (by omega)
            have hcr := (hb.cell (p := ⟨b, off + q, none⟩) hblk).trans hc
            rw [lowBits_getD v k q (by omega)] at hcr
            have hkq : k - (q + 1) < k := by omega
            have HT := hide (putBits_take v k false (k - (q + 1)) hkq)
            have HP := hide (pw_big k q (by omega))
            clear hc
            go_wp2_with (at_builtin; refine wpList_append_own _ rfl (.tmp 58) (.tmp 63) 22 rfl w1.heap.size 5 i0 (.int .u8 0) 1 1 Tryz.underlying22 hi hz0 hz1 hz2 rfl (by decide) _ _ _ rfl (hown.alloc _) ⟨wr.heap.size, 0, none⟩ 1 1 [.int .u8 (v / 2 ^ q % 2)] rfl rfl (cell_one_new _ _ _) (by intro u hu; simp at hu; subst hu; rfl) (by unfold maxLen; omega) (by omega) (by simp; omega) ?_)
            intro v' w2 hown' hgrow _
            have hB1 : Below w1.heap.size w1 w2 := (hb.alloc hsz _).grown hgrow (by simp; omega) (fun j hj => (hown.lt j hj).1)
            have hown2 : w2.ownsRow w1.heap.size 5 1 v' (k - q) (u8s ((putBits v k false).take (k - q))) := by
              have e : k - q = k - (q + 1) + 1 := by omega
              rw [e, unhide HT, unhide HP]
              simpa [u8s] using hown'
            clear hown' hown hb hgrow hcr
            go_wp2_with fail
            go_roundw
            case rel => exact ⟨q, by omega, by go_num, hown2, hB1⟩
            case measure => simp [intOf]
      · rw [unhide HL]
        go_wp2_with fail
        go_loopw [9, 10] (fun ov tv wr => ∃ p : Nat, 8 * p < k + 8 ∧ tv = .int .i64 (8 * (p : Int)) ∧ wr.ownsRow w1.heap.size 5 1 ov (min (8 * p) k) (u8s ((putBits v k true).take (min (8 * p) k))) ∧ Below w1.heap.size w1 wr) (fun _ tv _ => k + 8 - (intOf tv).toNat)
        case atStart => exact ⟨0, by omega, rfl, by simpa [u8s] using unhide Hem, unhide Hbe⟩
        case round =>
          obtain ⟨p, hp, rfl, hown, hb⟩ := hrel
          by_cases hpk : 8 * p < k
          · go_wp2_with fail
            have HB0 := hide hb
            have HO0 := hide hown
            clear hb hown
            have hd : decide (8 * (p : Int) < k) = true := by simp; omega
            rw [hd]
            clear hd
            go_loopw [9, 11] (fun ov iv wr => ∃ q : Nat, 8 * p ≤ q ∧ q ≤ 8 * p + 8 ∧ iv = .int .i64 ((q : Int) - 1) ∧ wr.ownsRow w1.heap.size 5 1 ov (8 * p + (min (8 * p + 8) k - q)) (u8s ((putBits v k true).take (8 * p + (min (8 * p + 8) k - q)))) ∧ Below w1.heap.size w1 wr) (fun _ iv _ => (intOf iv + 1).toNat)
            case atStart =>
              refine ⟨8 * p + 8, by omega, by omega, by go_num, ?_, unhide HB0⟩
              have e : 8 * p + (min (8 * p + 8) k - (8 * p + 8)) = min (8 * p) k := by omega
              rw [e]
              exact unhide HO0
            case round =>
              obtain ⟨q, hq0, hq1, rfl, hown, hb⟩ := hrel
              have hsz := hb.size
              by_cases hqp : q = 8 * p
              · subst hqp
                have hfin : wr.ownsRow w1.heap.size 5 1 u9 (min (8 * (p + 1)) k) (u8s ((putBits v k true).take (min (8 * (p + 1)) k))) := by
                  have e : 8 * p + (min (8 * p + 8) k - 8 * p) = min (8 * (p + 1)) k := by omega
                  rw [e] at hown
                  exact hown
                have HF := hide hfin
                clear hown hfin
                go_wp2_with fail
                go_roundw
                case rel => exact ⟨p + 1, by omega, by go_num, unhide HF, hb⟩
                case measure => simp [intOf]; omega
              · obtain ⟨r, rfl⟩ : ∃ r, q = r + 1 := ⟨q - 1, by omega⟩
                have e0 : ((r + 1 : Nat) : Int) - 1 = r := by omega
                rw [e0]
                by_cases hrk : r < k
                · obtain ⟨b, off, rfl, hblk, hc⟩ := unhide Hel r (by omega)
                  have hcr := (hb.cell (p := ⟨b, off + r, none⟩) hblk).trans hc
                  rw [lowBits_getD v k r (by omega)] at hcr
                  have HT := hide (putBits_take v k true (8 * p + (min (8 * p + 8) k - (r + 1))) (by omega))
                  have HP := hide (pw_little k p r (by omega) (by omega) (by omega))
                  clear hc
                  go_wp2_with (at_builtin; refine wpList_append_own _ rfl (.tmp 44) (.tmp 49) 22 rfl w1.heap.size 5 i0 (.int .u8 0) 1 1 Tryz.underlying22 hi hz0 hz1 hz2 rfl (by decide) _ _ _ rfl (hown.alloc _) ⟨wr.heap.size, 0, none⟩ 1 1 [.int .u8 (v / 2 ^ r % 2)] rfl rfl (cell_one_new _ _ _) (by intro u hu; simp at hu; subst hu; rfl) (by unfold maxLen; omega) (by omega) (by simp; omega) ?_)
                  intro v' w2 hown' hgrow _
                  have hB1 : Below w1.heap.size w1 w2 := (hb.alloc hsz _).grown hgrow (by simp; omega) (fun j hj => (hown.lt j hj).1)
                  have hown2 : w2.ownsRow w1.heap.size 5 1 v' (8 * p + (min (8 * p + 8) k - r)) (u8s ((putBits v k true).take (8 * p + (min (8 * p + 8) k - r)))) := by
                    have e : 8 * p + (min (8 * p + 8) k - r) = 8 * p + (min (8 * p + 8) k - (r + 1)) + 1 := by omega
                    rw [e, unhide HT, unhide HP]
                    simpa [u8s] using hown'
                  clear hown' hown hb hgrow hcr
                  go_wp2_with fail
                  go_roundw
                  case rel => exact ⟨r, by omega, by omega, by go_num, hown2, hB1⟩
                  case measure => simp [intOf]
                · have hown2 : wr.ownsRow w1.heap.size 5 1 u9 (8 * p + (min (8 * p + 8) k - r)) (u8s ((putBits v k true).take (8 * p + (min (8 * p + 8) k - r)))) := by
                    have e : 8 * p + (min (8 * p + 8) k - r) = 8 * p + (min (8 * p + 8) k - (r + 1)) := by omega
                    rw [e]
                    exact hown
                  have HF := hide hown2
                  clear hown hown2
                  go_wp2_with fail
                  go_roundw
                  case rel => exact ⟨r, by omega, by omega, by go_num, unhide HF, hb⟩
                  case measure => simp [intOf]
          · have hfin : wr.ownsRow w1.heap.size 5 1 u9 k (u8s (putBits v k true)) := by
              have := hown
              rw [show min (8 * p) k = k by omega, List.take_of_length_le (by rw [putBits_length]; omega)] at this
              exact this
            have HF := hide hfin
            clear hown hfin
            go_wp2_with fail
            go_ret
            exact ⟨_, rfl, ownsRow_base (unhide HF) hw1, (unhide Hb).trans (hb.mono hw1)⟩

end Go.Proofs.YtcgbonlffcpofaaGreatDoor
/- Bits appended to an own row, whatever row they lie in. -/
namespace Go.Proofs.YtcgbonlffcpofaaGreatDoor
open Go.RowKit Go.Deep

theorem u8_place {base : Nat} {w : World} {v : Value} {n : Nat} {xs : List Value} (h : w.ownsRow base 5 1 v n xs) : (v = .slice none 0 0 ∧ n = 0 ∧ xs = []) ∨ ∃ g cap, v = .slice (some ⟨g, 0, none⟩) n cap ∧ n ≤ cap := by
  rcases h.2 with ⟨h1, h2⟩ | ⟨g, cap, cur, rfl, h2, h3, h4, h5⟩
  · refine .inl ⟨h1, h2, ?_⟩
    have := h.1
    rw [h2] at this
    exact List.eq_nil_of_length_eq_zero (by simpa using this)
  · exact .inr ⟨g, cap, rfl, h4⟩

theorem app_u8 (base bx : Nat) (v x : Value) (n m : Nat) (xs ys : List Int) (w : World) (hown : w.ownsRow base 5 1 v n (u8s xs)) (hx : w.ownsRow bx 5 1 x m (u8s ys)) (hn : n + m ≤ 1000000) (hbase : base ≤ w.heap.size) (ty : TypeId) :
    ∃ v' w', (Builtin.append_ #[22, 22] ty #[v, x]).run Tryz.prog w = .ok v' w' ∧ w'.ownsRow base 5 1 v' (n + m) (u8s (xs ++ ys)) ∧ w.grownBy w' v.ownBlock := by
  obtain ⟨i0, hi, hz0, hz1, hz2⟩ := info_parts info_u8
  rcases u8_place hx with ⟨rfl, rfl, hys⟩ | ⟨g, cap, rfl, hcap⟩
  · have hy0 : ys = [] := by simpa using hys
    subst hy0
    have hs : Src Tryz.prog i0.size 22 (.slice none 0 0) 0 [] w := Src.ofNil w Tryz.underlying22 0
    have hg : w.grownBy w v.ownBlock := ⟨rfl, rfl, rfl, Nat.le_refl _, fun _ _ _ => rfl⟩
    rcases u8_place hown with ⟨rfl, rfl, hxs⟩ | ⟨g, cap, rfl, hcap⟩
    · exact ⟨_, w, run_append_nothing (P := Tryz.prog) w 22 22 ty 5 i0 Tryz.underlying22 hi none 0 0 (Nat.le_refl _) _ hs, by rw [List.append_nil]; exact hown, hg⟩
    · exact ⟨_, w, run_append_nothing (P := Tryz.prog) w 22 22 ty 5 i0 Tryz.underlying22 hi _ n cap hcap _ hs, by rw [List.append_nil]; exact hown, hg⟩
  · obtain ⟨v', w', h1, h2, h3, _⟩ := run_append_own (P := Tryz.prog) w base 22 ty 5 i0 (.int .u8 0) 1 1 Tryz.underlying22 hi hz0 hz1 hz2 rfl (by decide) v n (u8s xs) hown ⟨g, 0, none⟩ m cap (u8s ys) (by have := hx.1; omega)
      (hx.cells rfl) (fun u hu => by obtain ⟨x, _, rfl⟩ := List.mem_map.1 hu; rfl) (by unfold maxLen; omega) (by omega) hbase
    exact ⟨v', w', h1, by rw [show u8s (xs ++ ys) = u8s xs ++ u8s ys from List.map_append]; exact h2, h3⟩

theorem app_u8c (base : Nat) (v : Value) (n m : Nat) (xs ys : List Int) (w : World) (hown : w.ownsRow base 5 1 v n (u8s xs)) (g c : Nat) (hy : ys.length = m) (hc : ∀ j u, (u8s ys)[j]? = some u → w.cell? ((⟨g, 0, none⟩ : Addr).add j) = some u) (hn : n + m ≤ 1000000) (hbase : base ≤ w.heap.size) (ty : TypeId) :
    ∃ v' w', (Builtin.append_ #[22, 22] ty #[v, .slice (some ⟨g, 0, none⟩) m c]).run Tryz.prog w = .ok v' w' ∧ w'.ownsRow base 5 1 v' (n + m) (u8s (xs ++ ys)) ∧ w.grownBy w' v.ownBlock := by
  obtain ⟨i0, hi, hz0, hz1, hz2⟩ := info_parts info_u8
  obtain ⟨v', w', h1, h2, h3, _⟩ := run_append_own (P := Tryz.prog) w base 22 ty 5 i0 (.int .u8 0) 1 1 Tryz.underlying22 hi hz0 hz1 hz2 rfl (by decide) v n (u8s xs) hown ⟨g, 0, none⟩ m c (u8s ys) (by rw [List.length_map, hy]; omega)
    hc (fun u hu => by obtain ⟨x, _, rfl⟩ := List.mem_map.1 hu; rfl) (by unfold maxLen; omega) (by omega) hbase
  exact ⟨v', w', h1, by rw [show u8s (xs ++ ys) = u8s xs ++ u8s ys from List.map_append]; exact h2, h3⟩
theorem bits_first {s : ByteArray} {M N j : Nat} {u : Value} (h : M ≤ N) (hj : (u8s (bitsOf s M))[j]? = some u) : (u8s (bitsOf s N))[j]? = some u := by
  have hl : j < M := by
    have := (List.getElem?_eq_some_iff.1 hj).1
    simpa [bitsOf_length] using this
  rw [List.getElem?_map, bitsOf_get s M j hl] at hj
  rw [List.getElem?_map, bitsOf_get s N j (by omega)]
  exact hj

end Go.Proofs.YtcgbonlffcpofaaGreatDoor
