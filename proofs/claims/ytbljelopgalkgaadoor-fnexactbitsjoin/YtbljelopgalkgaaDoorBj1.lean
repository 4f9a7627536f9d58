/- spec.BitsJoin. -/
import Derived.Test.YtbljelopgalkgaaDoorBj0
import Derived.Deep.RegionWith
import Derived.Deep.RegionLaw
namespace Go.Proofs.YtbljelopgalkgaaDoor
open Go.RowKit Go.Deep

/-- append onto an own row, as one step of a region that draws its order. -/
theorem step_append_own {P : Program} {ops : Array Oper} {o : Oper} {a : Act} {w : World} {K : Act → World → Prop} {Q : Exit → Act → World → Prop} {E : Prop} (hgd : o.guard = none) (s x : Operand) (t : TypeId)
    (ho : o.op = .call { callee := .builtin .append, args := #[s, x], argTypes := #[t, t] })
    (base : Nat) (e : TypeId) (i : TypeInfo) (z : Value) (size bytes : Nat) (ht : P.underlying t = some (.slice e)) (hi : P.info? e = some i) (hz : i.zero = some z)
    (hsize : i.size = size) (hby : i.bytes = bytes) (hzs : z.cells.size = size) (hsz : 0 < size)
    (v : Value) (n : Nat) (xs : List Value) (hs : a.eval s = v) (hown : w.ownsRow base e size v n xs)
    (ad : Addr) (m c : Nat) (news : List Value) (hx : a.eval x = .slice (some ad) m c) (hl : news.length = m * size) (hnews : ∀ j u, news[j]? = some u → w.cell? (ad.add j) = some u) (h1 : ∀ u ∈ news, u.oneCell' = true)
    (h63 : n + m ≤ maxLen) (hbytes : (n + m) * bytes ≤ 140737488355328) (hbase : base ≤ w.heap.size)
    (h : ∀ v' w', w'.ownsRow base e size v' (n + m) (xs ++ news) → w.grownBy w' v.ownBlock → (v' = .slice none 0 0 ↔ v = .slice none 0 0 ∧ m = 0) → K (a.put o.dst v') w') :
    if Region.wanted o (yielded ops a.tmps) = true then Oper.wp P o a w K Q else E := by
  have hw : Region.wanted o (yielded ops a.tmps) = true := by simp [Region.wanted, hgd]
  rw [if_pos hw]
  exact wp_append_own w s x t ho base e i z size bytes ht hi hz hsize hby hzs hsz v n xs hs hown ad m c news hx hl hnews h1 h63 hbytes hbase h

/-- What BitsJoin answers. -/
def joinAns (n : Int) (s : ByteArray) (m : Int) (t : ByteArray) : Value := match okS n s && okS m t, decide (n + m ≤ 32000) with
  | true, true => .tuple #[.agg #[.int .i64 (n + m), .string (strB (bitsOf s n.toNat ++ bitsOf t m.toNat))], .int .i64 0]
  | true, false => .tuple #[.agg #[.int .i64 0, .string ⟨#[]⟩], .int .i64 3]
  | false, _ => .tuple #[.agg #[.int .i64 0, .string ⟨#[]⟩], .int .i64 1]
theorem joinAns_no {n : Int} {s : ByteArray} {m : Int} {t : ByteArray} (h : (okS n s && okS m t) = false) : joinAns n s m t = .tuple #[.agg #[.int .i64 0, .string ⟨#[]⟩], .int .i64 1] := by unfold joinAns; rw [h]
theorem joinAns_full {n : Int} {s : ByteArray} {m : Int} {t : ByteArray} (h : okS n s = true) (h' : okS m t = true) (hl : ¬ n + m ≤ 32000) : joinAns n s m t = .tuple #[.agg #[.int .i64 0, .string ⟨#[]⟩], .int .i64 3] := by unfold joinAns; rw [h, h', decide_eq_false hl]; rfl
theorem joinAns_yes {n : Int} {s : ByteArray} {m : Int} {t : ByteArray} (h : okS n s = true) (h' : okS m t = true) (hl : n + m ≤ 32000) : joinAns n s m t = .tuple #[.agg #[.int .i64 (n + m), .string (strB (bitsOf s n.toNat ++ bitsOf t m.toNat))], .int .i64 0] := by unfold joinAns; rw [h, h', decide_eq_true hl]; rfl

theorem heap_three (w : World) (x y z : Obj) : ((w.alloc x).alloc y).alloc z |>.heap[w.heap.size]? = some x ∧ (((w.alloc x).alloc y).alloc z).heap[w.heap.size + 1]? = some y ∧ (((w.alloc x).alloc y).alloc z).heap[w.heap.size + 2]? = some z := by
  refine ⟨?_, ?_, ?_⟩
  · rw [Below.heap_alloc _ _ _ (by simp; omega), Below.heap_alloc _ _ _ (by simp)]; exact heap_new w x
  · rw [Below.heap_alloc _ _ _ (by simp)]
    have := heap_new (w.alloc x) y
    rwa [World.size_alloc] at this
  · have := heap_new ((w.alloc x).alloc y) z
    rwa [World.size_alloc, World.size_alloc] at this

set_option maxRecDepth 100000 in
set_option maxHeartbeats 2000000 in
theorem sBitsJoin_any (n : Int) (s : ByteArray) (m : Int) (t : ByteArray) (w : World) :
    Calls Tryd.prog 12 #[.agg #[.int .i64 n, .string s], .agg #[.int .i64 m, .string t]] w fun e w' => e = .returned (joinAns n s m t) ∧ Below w.heap.size w w' := by
  obtain ⟨W0, hW0⟩ : ∃ W0, W0 = ((w.alloc (.cells #[.int .i64 n, .string s] 26)).alloc (.cells #[.int .i64 m, .string t] 26)).alloc (.cells #[.int .i64 0, .string ⟨#[]⟩] 26) := ⟨_, rfl⟩
  have hs0 : W0.heap.size = w.heap.size + 3 := by rw [hW0]; simp
  have hb0 : Below w.heap.size w W0 := by rw [hW0]; exact (((Below.refl w.heap.size w).alloc (Nat.le_refl _) _).alloc (by simp) _).alloc (by simp; omega) _
  have hK : ∀ w', Below W0.heap.size W0 w' → (w'.cell? ⟨w.heap.size, 0, none⟩ = some (.int .i64 n) ∧ w'.cell? ⟨w.heap.size, 1, none⟩ = some (.string s)) ∧
      (w'.cell? ⟨w.heap.size + 1, 0, none⟩ = some (.int .i64 m) ∧ w'.cell? ⟨w.heap.size + 1, 1, none⟩ = some (.string t)) ∧
      (w'.cell? ⟨w.heap.size + 2, 0, none⟩ = some (.int .i64 0) ∧ w'.cell? ⟨w.heap.size + 2, 1, none⟩ = some (.string ⟨#[]⟩)) ∧
      (w'.frozen? ⟨w.heap.size + 2, 0, none⟩ = false ∧ w'.frozen? ⟨w.heap.size + 2, 1, none⟩ = false) := fun w' hb => by
    obtain ⟨g0, g1, g2⟩ := heap_three w (.cells #[.int .i64 n, .string s] 26) (.cells #[.int .i64 m, .string t] 26) (.cells #[.int .i64 0, .string ⟨#[]⟩] 26)
    rw [← hW0] at g0 g1 g2
    have k0 := (hb.block _ (by omega)).trans g0
    have k1 := (hb.block _ (by omega)).trans g1
    have k2 := (hb.block _ (by omega)).trans g2
    exact ⟨⟨cell_of_heap k0 0, cell_of_heap k0 1⟩, ⟨cell_of_heap k1 0, cell_of_heap k1 1⟩, ⟨cell_of_heap k2 0, cell_of_heap k2 1⟩, by simp [World.frozen?, k2], by simp [World.frozen?, k2]⟩
  have HK := hide hK
  have Hb0 := hide hb0
  have HW := hide hW0
  have hok := hide (sOK_any n s W0)
  clear hK hb0
  cases hS : okS n s
  · have hr := hide (joinAns_no (n := n) (s := s) (m := m) (t := t) (by rw [hS]; rfl))
    go_enter Tryd.func12, Tryd.ntmps12
    go_wp2_with fail
    rw [← unhide HW]
    clear hW0
    refine (unhide hok).mono ?_
    rintro e w1 ⟨rfl, hb1⟩
    rw [hS]
    obtain ⟨⟨p0, p1⟩, ⟨r0, r1⟩, ⟨q0, q1⟩, q20, q21⟩ := unhide HK w1 hb1
    have Hb1 := hide hb1
    clear hb1
    go_wp2_with fail
    exact bodyPost_ret (v := .tuple #[.agg #[.int .i64 0, .string ⟨#[]⟩], .int .i64 1]) (by simp [results, Tryd.results12, go_sem, q0, q1]) rfl
      ⟨by rw [unhide hr], (((unhide Hb0).trans ((unhide Hb1).mono (unhide Hb0).size)).setCell (by show w.heap.size ≤ w.heap.size + 2; omega) _).setCell (by show w.heap.size ≤ w.heap.size + 2; omega) _⟩
  cases hT : okS m t
  · have hr := hide (joinAns_no (n := n) (s := s) (m := m) (t := t) (by rw [hS, hT]; rfl))
    go_enter Tryd.func12, Tryd.ntmps12
    go_wp2_with fail
    rw [← unhide HW]
    clear hW0
    refine (unhide hok).mono ?_
    rintro e w1 ⟨rfl, hb1⟩
    rw [hS]
    obtain ⟨⟨p0, p1⟩, ⟨r0, r1⟩, ⟨q0, q1⟩, q20, q21⟩ := unhide HK w1 hb1
    have Hb1 := hide hb1
    clear hb1
    go_wp2_with fail
    refine (sOK_any m t w1).mono ?_
    rintro e w2 ⟨rfl, hb2⟩
    rw [hT]
    have hB2 := (unhide Hb1).trans (hb2.mono (unhide Hb1).size)
    obtain ⟨⟨p0, p1⟩, ⟨r0, r1⟩, ⟨q0, q1⟩, q20, q21⟩ := unhide HK w2 hB2
    have Hb2 := hide hB2
    clear hb2 hB2
    go_wp2_with fail
    exact bodyPost_ret (v := .tuple #[.agg #[.int .i64 0, .string ⟨#[]⟩], .int .i64 1]) (by simp [results, Tryd.results12, go_sem, q0, q1]) rfl
      ⟨by rw [unhide hr], (((unhide Hb0).trans ((unhide Hb2).mono (unhide Hb0).size)).setCell (by show w.heap.size ≤ w.heap.size + 2; omega) _).setCell (by show w.heap.size ≤ w.heap.size + 2; omega) _⟩
  obtain ⟨hl0, hl1, hl2⟩ := okS_len hS
  obtain ⟨hm0, hm1, hm2⟩ := okS_len hT
  have hn8 : n ≤ 8 * s.size := by omega
  have hm8 : m ≤ 8 * t.size := by omega
  obtain ⟨i0, hi, hz0, hz1, hz2⟩ := info_parts info_u8
  go_enter Tryd.func12, Tryd.ntmps12
  go_wp2_with fail
  rw [← unhide HW]
  clear hW0
  refine (unhide hok).mono ?_
  rintro e w1 ⟨rfl, hb1⟩
  rw [hS]
  obtain ⟨⟨p0, p1⟩, ⟨r0, r1⟩, ⟨q0, q1⟩, q20, q21⟩ := unhide HK w1 hb1
  have Hb1 := hide hb1
  clear hb1
  go_wp2_with fail
  refine (sOK_any m t w1).mono ?_
  rintro e w2 ⟨rfl, hb2⟩
  rw [hT]
  have hB2 := (unhide Hb1).trans (hb2.mono (unhide Hb1).size)
  obtain ⟨⟨p0, p1⟩, ⟨r0, r1⟩, ⟨q0, q1⟩, q20, q21⟩ := unhide HK w2 hB2
  have Hb2 := hide hB2
  clear hb2 hB2
  go_wp2_with fail
  have Hd := hide (show Below W0.heap.size W0 w2.drew from (unhide Hb2).drew)
  go_region_law (first
    | (refine step_append_own rfl (.tmp 17) (.tmp 19) 41 rfl W0.heap.size 5 i0 (.int .u8 0) 1 1 Tryd.underlying41 hi hz0 hz1 hz2 rfl (by decide) _ n.toNat _ rfl (unhide Ho3) ⟨g2, 0, none⟩ m.toNat cap2 (u8s (bitsOf t m.toNat)) rfl (by simp [u8s, bitsOf_length]) ((unhide Ho2).cells rfl) (fun u hu => by obtain ⟨x, _, rfl⟩ := List.mem_map.1 hu; rfl) (by unfold maxLen; omega) (by omega) (unhide Hb4).size ?_; intro v w5 ho5 hgrow hni; have hB5 := (unhide Hb4).grown hgrow (unhide Hb4).size (fun k hk => ((unhide Ho3).lt k hk).1); have Ho5 := hide ho5; have Hb5 := hide hB5; clear ho5 hgrow hB5)
    | (go_simp; go_wp2_with (first | (go_at_call_of 22 s; refine (row_some n s _ hn8 (by omega)).mono ?_; rintro e w3 ⟨g1, cap1, rfl, ho1, hb3⟩; have hB3 := (unhide Hd).trans (hb3.mono (unhide Hd).size); obtain ⟨⟨p0, p1⟩, ⟨r0, r1⟩, ⟨q0, q1⟩, q20, q21⟩ := unhide HK w3 hB3; have Ho1 := hide (ownsRow_base ho1 (unhide Hd).size); have Hb3 := hide hB3; clear ho1 hb3 hB3) | (go_at_call_of 22 t; refine (row_some m t _ hm8 (by omega)).mono ?_; rintro e w4 ⟨g2, cap2, rfl, ho2, hb4⟩; have hB4 := (unhide Hb3).trans (hb4.mono (unhide Hb3).size); have Ho3 := hide (ownsRow_below (unhide Ho1) hb4); have Ho2 := hide (ownsRow_base ho2 (unhide Hb3).size); have Hb4 := hide hB4; clear ho2 hb4 hB4))))
  all_goals
    obtain ⟨L, hL⟩ : ∃ L, n.toNat + m.toNat = L := ⟨_, rfl⟩
    have hnm : n + m = (L : Int) := by omega
    have ho := unhide Ho5
    rw [hL] at ho
    rcases Go.Joins.ownsRow_forms ho with ⟨h, _⟩ | ⟨g, cap, rfl⟩
    · exact absurd (hni.1 h).1 (by show ¬ (Value.slice (some _) _ _ = _); simp)
    have hlen : (bitsOf s n.toNat ++ bitsOf t m.toNat).length = L := by rw [List.length_append, bitsOf_length, bitsOf_length]; exact hL
    have hra : RowAt w5 (.slice (some ⟨g, 0, none⟩) L cap) (bitsOf s n.toNat ++ bitsOf t m.toNat) := RowAt.of_own (base := W0.heap.size) (e := 5) (by rw [hlen, List.map_append]; exact ho)
    have h01 : ∀ x ∈ bitsOf s n.toNat ++ bitsOf t m.toNat, x = 0 ∨ x = 1 := fun x hx => by
      rcases List.mem_append.1 hx with h | h
      · exact bits_01 s _ x h
      · exact bits_01 t _ x h
    have HRA := hide hra
    have H01 := hide h01
    have HLN := hide hlen
    have HNM := hide hnm
    clear hni ho hra h01 hlen hL Ho5 Ho3 Ho2 Ho1 p0 p1 r0 r1 q0 q1 q20 q21 hl2 hm2 hn8 hm8 hi hz0 hz1 hz2
    obtain ⟨⟨p0, p1⟩, ⟨r0, r1⟩, ⟨q0, q1⟩, q20, q21⟩ := unhide HK w5 (unhide Hb5)
    by_cases hf : (L : Int) ≤ 32000
    · have hr := hide (joinAns_yes (n := n) (s := s) (m := m) (t := t) hS hT (by omega))
      obtain ⟨S, hS2⟩ : ∃ S, strB (bitsOf s n.toNat ++ bitsOf t m.toNat) = S := ⟨_, rfl⟩
      have hr2 := unhide hr
      rw [hS2, unhide HNM] at hr2
      have HR2 := hide hr2
      have hpk := hide (pack_as _ _ L S w5 (unhide HRA) (unhide H01) (unhide HLN) (by omega) hS2)
      clear hr2 hS2 hr p0 p1 r0 r1 q0 q1 q20 q21
      go_wp2_with fail
      refine (unhide hpk).mono ?_
      rintro e w6 ⟨rfl, hb6⟩
      have hB6 := (unhide Hb5).trans (hb6.mono (unhide Hb5).size)
      obtain ⟨⟨p0, p1⟩, ⟨r0, r1⟩, ⟨q0, q1⟩, q20, q21⟩ := unhide HK w6 hB6
      have Hb6 := hide hB6
      clear hb6 hB6
      go_wp2_with fail
      exact bodyPost_ret (v := .tuple #[.agg #[.int .i64 L, .string S], .int .i64 0]) (by simp [results, Tryd.results12, go_sem, q0, q1]) rfl
        ⟨by rw [unhide HR2], (((unhide Hb0).trans ((unhide Hb6).mono (unhide Hb0).size)).setCell (by show w.heap.size ≤ w.heap.size + 2; omega) _).setCell (by show w.heap.size ≤ w.heap.size + 2; omega) _⟩
    · have hr := hide (joinAns_full (n := n) (s := s) (m := m) (t := t) hS hT (by omega))
      go_wp2_with fail
      exact bodyPost_ret (v := .tuple #[.agg #[.int .i64 0, .string ⟨#[]⟩], .int .i64 3]) (by simp [results, Tryd.results12, go_sem, q0, q1]) rfl
        ⟨by rw [unhide hr], (((unhide Hb0).trans ((unhide Hb5).mono (unhide Hb0).size)).setCell (by show w.heap.size ≤ w.heap.size + 2; omega) _).setCell (by show w.heap.size ≤ w.heap.size + 2; omega) _⟩

end Go.Proofs.YtbljelopgalkgaaDoor
