/- impl's pack of maps: flat, pack. -/
import Derived.Test.YtaggnncndbdmjaaPkr
import Derived.Test.YtaggnncndbdmjaaRow
import Derived.Deep.AppendLies
namespace Go.Proofs.Ytaggnncndbdmjaa
open Go.RowKit Go.Deep

theorem VAt.iface {S : Nat → Prop} {w : World} : ∀ {n : Nat} {t : Tm n} {v : Value}, VAt S w n t v → ∃ u x, v = .iface u x
  | 0, t, _, _ => t.elim
  | _ + 1, (_, _, _, _), _, h => by
    obtain ⟨u, x, _, h, _⟩ := h.dyn
    exact ⟨u, x, h⟩

/-- A row's cells, as a list. -/
theorem KAt.cellsOf {α : Type} {S : Nat → Prop} {w : World} {R : α → Value → Prop} : ∀ {ks : List α} {a : Option Addr}, KAt S w R ks a →
    ∃ vs : List Value, vs.length = ks.length ∧ ∀ i (h : i < ks.length) (h' : i < vs.length), ∃ b off, a = some ⟨b, off, none⟩ ∧ S b ∧ w.cell? ⟨b, off + i, none⟩ = some vs[i] ∧ R ks[i] vs[i] := by
  intro ks a h
  refine ⟨(List.finRange ks.length).map fun i => (h i.1 i.2).choose_spec.choose_spec.choose, by simp, fun i hi hi' => ?_⟩
  obtain ⟨h1, h2, h3, h4⟩ := (h i hi).choose_spec.choose_spec.choose_spec
  refine ⟨_, _, h1, h2, ?_, ?_⟩
  · simpa using h3
  · simpa using h4

theorem take_two {α : Type} (l : List α) (i : Nat) (h : 2 * i + 1 < l.length) : l.take (2 * (i + 1)) = l.take (2 * i) ++ [l[2 * i], l[2 * i + 1]] := by
  rw [show 2 * (i + 1) = 2 * i + 1 + 1 by omega, List.take_succ_eq_append_getElem h, List.take_succ_eq_append_getElem (show 2 * i < l.length by omega), List.append_assoc]
  rfl

set_option maxRecDepth 40000 in
set_option maxHeartbeats 1000000 in
theorem flat_any {n : Nat} (K : Nat → Prop) (w : World) (ks : List (Tm n)) (p : Nat) (a : Option Addr) (cap : Nat) (hp : ks.length = 2 * p) (hl : ks.length ≤ 2 ^ 42) (hKA : KAt K w (VAt K w n) ks a) (hK : ∀ k, K k → k < w.heap.size) :
    Calls Try.prog 106 #[.slice a p cap] w fun e w' => Below w.heap.size w w' ∧
      ∃ a' cap', e = .returned (.slice a' ks.length cap') ∧ KAt (fun k => K k ∨ (w.heap.size ≤ k ∧ k < w'.heap.size)) w' (VAt (fun k => K k ∨ (w.heap.size ≤ k ∧ k < w'.heap.size)) w' n) ks a' := by
  obtain ⟨vs, hvl, hv⟩ := hKA.cellsOf
  obtain ⟨i0, hi0, hz0, hz1, hz2⟩ := info_parts infoV
  have HV := hide hv
  clear hv hKA
  go_enter Try.func106, Try.ntmps106
  go_wp2_with fail
  go_loopw [3, 8] (fun rv iv wr => ∃ i : Nat, i ≤ p ∧ iv = .int .i64 i ∧ Below w.heap.size w wr ∧ wr.ownsRow w.heap.size 47 1 rv (2 * i) (vs.take (2 * i))) (fun _ iv _ => p - (intOf iv).toNat)
  case atStart => exact ⟨0, Nat.zero_le _, rfl, Below.refl _ _, by simpa using World.ownsRow_nil _ _ _ _⟩
  case round =>
    obtain ⟨i, hi, rfl, hb, ho⟩ := hrel
    by_cases hlt : i < p
    · obtain ⟨bb, off, rfl, hS, e0, r0⟩ := unhide HV (2 * i) (by omega) (by omega)
      obtain ⟨b2, o2, h2, _, e1, r1⟩ := unhide HV (2 * i + 1) (by omega) (by omega)
      cases h2
      obtain ⟨u0, x0, hx⟩ := r0.iface
      obtain ⟨u1, x1, hy⟩ := r1.iface
      have f0 : wr.cell? ⟨bb, off + i * 2, none⟩ = some (vs[2 * i]'(by omega)) := by rw [Nat.mul_comm i 2]; exact (World.cell?_of_block (hb.block bb (hK bb hS))).trans e0
      have f1 : wr.cell? ⟨bb, off + i * 2 + 1, none⟩ = some (vs[2 * i + 1]'(by omega)) := by rw [Nat.mul_comm i 2]; exact (World.cell?_of_block (hb.block bb (hK bb hS))).trans e1
      have ht := hide (take_two vs i (by omega))
      rw [hx] at f0 ht
      rw [hy] at f1 ht
      obtain ⟨a1, cap1, rfl⟩ := own_form ho
      have HB := hide hb
      have HO := hide ho
      have hm1 := hide (show 2 * i + 2 ≤ maxLen by unfold maxLen; omega)
      have hm2 := hide (show (2 * i + 2) * 16 ≤ 140737488355328 by omega)
      have hm3 := hide hb.size
      have hm4 := hide (show wr.heap.size ≤ ((wr.alloc (.cells #[.iface u0 x0, .iface u1 x1] 90)).alloc (.cells #[.iface u0 x0, .iface u1 x1] 47)).heap.size by simp; omega)
      have hnb := hide (show ((wr.alloc (.cells #[.iface u0 x0, .iface u1 x1] 90)).alloc (.cells #[.iface u0 x0, .iface u1 x1] 47)).heap[wr.heap.size + 1]? = some (.cells #[.iface u0 x0, .iface u1 x1] 47 (0, 0)) by
        have := heap_new (wr.alloc (.cells #[.iface u0 x0, .iface u1 x1] 90)) (.cells #[.iface u0 x0, .iface u1 x1] 47)
        simpa using this)
      have h1c := hide (show ∀ u ∈ [Value.iface u0 x0, Value.iface u1 x1], u.oneCell' = true by intro u hu; simp at hu; rcases hu with rfl | rfl <;> rfl)
      clear e0 e1 r0 r1 hx hy hb ho
      go_upto_region 5 with fail
      go_wp2_with (at_builtin; refine wpList_append_own _ rfl (.tmp 12) (.tmp 17) 71 rfl w.heap.size 47 i0 .nilIface 1 16 Try.underlying71 hi0 hz0 hz1 hz2 rfl (by decide) _ (2 * i) _ rfl (((unhide HO).alloc _).alloc _) _ 2 2 [.iface u0 x0, .iface u1 x1] rfl rfl (World.news_of_block (cs := #[.iface u0 x0, .iface u1 x1]) (unhide hnb)) (unhide h1c) (unhide hm1) (unhide hm2) (Nat.le_trans (unhide hm3) (unhide hm4)) ?_)
      intro v w1 ho1 hg1 _
      have hb1 : Below w.heap.size w w1 := (((unhide HB).alloc (unhide hm3) _).alloc (by simp; have := unhide hm3; omega) _).grown hg1 (Nat.le_trans (unhide hm3) (unhide hm4)) fun k hk => ((unhide HO).lt k hk).1
      rw [← unhide ht] at ho1
      have HO1 := hide ho1
      have HB1 := hide hb1
      clear ho1 hb1 hg1 f0 f1
      go_wp2_with fail
      go_roundw
      case rel => exact ⟨i + 1, hlt, by go_num, unhide HB1, unhide HO1⟩
      case measure => simp [intOf]; omega
    · have hkk : i = p := by omega
      subst hkk
      rw [List.take_of_length_le (by omega)] at ho
      rw [← hp] at ho
      obtain ⟨a1, cap1, rfl⟩ := own_form ho
      have HB := hide hb
      have HO := hide ho
      clear hb ho
      go_wp2_with fail
      go_ret
      refine ⟨unhide HB, a1, cap1, rfl, ?_⟩
      have ho := unhide HO
      intro i hi
      obtain ⟨g, c, hv, hg, hgl⟩ := ho.form (by omega)
      cases hv
      have hi' : i < vs.length := by omega
      obtain ⟨_, _, _, _, _, hr⟩ := unhide HV i hi hi'
      refine ⟨g, 0, vs[i], rfl, .inr ⟨hg, hgl⟩, ?_, (hr.keep fun k hk => (unhide HB).block k (hK k hk)).mono fun _ h => .inl h⟩
      have := ho.cells (g := g) rfl i vs[i] (List.getElem?_eq_getElem hi')
      have hadd : (⟨g, 0, none⟩ : Addr).add i = ⟨g, i, none⟩ := by unfold Addr.add; split <;> simp_all
      rw [hadd] at this
      simpa using this

set_option maxRecDepth 40000 in
set_option maxHeartbeats 1000000 in
theorem pack_map {n : Nat} (K : Nat → Prop) (b most : Nat) (xs : List Int) (w : World) (h : PackV n) (ks : List (Tm n)) (p : Nat) (a : Option Addr) (cap : Nat) (hp : ks.length = 2 * p) (hKA : KAt K w (VAt K w n) ks a) (hr : ks.all (rightB n) = true) (hz : ∀ t ∈ ks, siz n t ≤ 2000) (hl : ks.length ≤ 2 ^ 42) (hW : Wri K b most xs w) (hmost : most ≤ 2 ^ 40) :
    Calls Try.prog 101 #[.slice a p cap, .pointer (some ⟨b, 0, none⟩)] w fun e w' => WEnd K b most xs (116 :: beL p 2 ++ packS ks) w e w' := by
  have hflat := hide (fun (w' : World) (hst : Stay K w w') (hW : Wri K b most (xs ++ 116 :: beL p 2) w') => flat_any K w' ks p a cap hp hl (hKA.keep (fun k hk => hst.block k hk) fun t _ v hv => hv.keep fun k hk => hst.block k hk) hW.lt)
  have hrow := hide (fun (ys : List Int) (w' : World) (K : Nat → Prop) (a : Option Addr) (cap : Nat) (hKA : KAt K w' (VAt K w' n) ks a) (hW : Wri K b most ys w') => packRow_any K b most ys w' h ks a cap hKA hr hz (by omega) hW hmost)
  have h1 := hide (lit_any K b most xs [116] 1 5 w hW rfl (by simp [B8]) hmost (by omega))
  have hlen := hide hl
  clear hKA hr hz hl h hW hp
  go_enter Try.func101, Try.ntmps101
  go_wp2_with fail
  refine (unhide h1).mono ?_
  rintro e w1 ⟨s1, ⟨l1, rfl, hw1⟩ | ⟨l1, rfl⟩⟩
  rotate_left
  · exact ⟨rfl, WEnd.stop s1 l1 rfl⟩
  have h2 := hide (number_any K b most _ p 2 w1 hw1 hmost (by omega))
  have S1 := hide s1
  clear hw1 s1 l1
  go_wp2_with fail
  refine (unhide h2).mono ?_
  rintro e w2 hend
  have hend' := hend.go (unhide S1) (us := 116 :: beL p 2) rfl
  obtain ⟨s2, ⟨l2, rfl, hw2⟩ | ⟨l2, rfl⟩⟩ := hend'
  rotate_left
  · exact ⟨rfl, WEnd.stop s2 l2 rfl⟩
  clear hend
  have h3 := hide ((unhide hflat) w2 s2 hw2)
  have S2 := hide s2
  have W2 := hide hw2
  clear hw2 s2 l2
  go_wp2_with fail
  refine (unhide h3).mono ?_
  rintro e w3 ⟨hb3, a3, cap3, rfl, hK3⟩
  have hs3 := hide (Stay.below hb3 (unhide W2).lt)
  have hw3 : Wri (fun k => K k ∨ (w2.heap.size ≤ k ∧ k < w3.heap.size)) b most (xs ++ 116 :: beL p 2) w3 := (unhide W2).more hb3 fun k hk => hk
  have h4 := hide ((unhide hrow) _ w3 _ a3 cap3 hK3 hw3)
  clear hb3 hK3 hw3
  go_wp2_with fail
  refine (unhide h4).mono ?_
  rintro e w4 hend
  have hend' := (hend.step (K := K) (fun k hk => .inl hk) (unhide hs3)).go (unhide S2) rfl
  obtain ⟨s4, ⟨l4, rfl, hw4⟩ | ⟨l4, rfl⟩⟩ := hend
  rotate_left
  · exact ⟨rfl, hend'⟩
  have HE := hide hend'
  clear hend' s4 hw4 l4
  go_wp2_with fail
  exact bodyPost_ret (v := .tuple #[]) (by simp [results, Try.results101, go_sem]) rfl (unhide HE)

end Go.Proofs.Ytaggnncndbdmjaa
