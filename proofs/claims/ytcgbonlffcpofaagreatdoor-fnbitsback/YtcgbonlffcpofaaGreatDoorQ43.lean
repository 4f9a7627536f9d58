/- Laws for the walk: zeros appended to an own row of bytes (append of a make). -/
import Derived.Test.YtcgbonlffcpofaaGreatDoorQ42
import Derived.Lib.AppendZerosOnto
import Derived.Deep.AppendLies
import Derived.Lib.BufferWrite
import Derived.Laws.CopyOwn
namespace Go.Proofs.YtcgbonlffcpofaaGreatDoor
open Go.RowKit Go.Deep

theorem zeroCells_one (z : Value) (k : Nat) : Builtin.zeroCells #[z] k = (List.replicate k z).toArray := by
  apply Array.ext_getElem?
  intro i
  by_cases h : i < k <;> simp [Builtin.zeroCells, h, Nat.mod_one]

theorem run_append_room_zeros {P : Program} (w : World) (t tn ty e : TypeId) (i : TypeInfo) (z : Value) (kn : IntKind) (ht : P.underlying t = some (.slice e)) (htn : P.underlying tn = some (.int kn)) (hi : P.info? e = some i) (hz : i.zero = some z)
    (hs : i.size = 1) (hb : i.bytes = 1) (hzc : z.cells = #[z]) (hz1 : z.oneCell' = true) (g sLen sCap k : Nat) (cur : Array Value) (hg : w.heap[g]? = some (.cells cur e (0, 0))) (hk : k ≤ 100000) (hroom : sLen + k ≤ sCap) (hfit : sLen + k ≤ cur.size) :
    (Builtin.append_ #[t, tn] ty #[.slice (some ⟨g, 0, none⟩) sLen sCap, .int .i64 k]).run P w =
      .ok (.slice (some ⟨g, 0, none⟩) (sLen + k) sCap) (w.setRow g (cur.toList.take sLen ++ List.replicate k z ++ cur.toList.drop (sLen + k)).toArray) := by
  have hw : IntKind.i64.wrap (k : Int) = k := by rw [IntKind.wrap_i64]; omega
  have h48i : ¬ (281474976710656 < (k : Int)) := by omega
  have hneg : ¬ ((k : Int) < 0) := by omega
  have hst := run_storeCells_at P g sLen e (List.replicate k z) 0 cur w hg (by simpa using hfit) (fun u hu => by rw [List.eq_of_mem_replicate hu]; exact hz1)
  simp only [Nat.add_zero, List.length_replicate] at hst
  by_cases h0 : k = 0
  · subst h0
    have hw0 : IntKind.i64.wrap 0 = 0 := by rw [IntKind.wrap_i64]; rfl
    have hst' : (storeCells (⟨g, sLen, none⟩ : Addr) []).run P w = .ok () (w.setRow g cur) := by simpa using hst
    have hr' : sLen ≤ sCap := hroom
    simp [Builtin.append_, run_underlying ht, run_underlying htn, sizeOf, typeInfo, hi, asInt, asIntOf, hw0, hs, hb, hr', Addr.add_lit, hst']
  · simp [Builtin.append_, run_underlying ht, run_underlying htn, sizeOf, typeInfo, zeroValue, hi, hz, asInt, asIntOf, hw, hs, hb, hneg, h48i, hroom, h0, hzc, zeroCells_one, Addr.add_lit]
    have h2 : (storeCells (⟨g, sLen, none⟩ : Addr) (List.replicate k z)).run P w = .ok () (w.setRow g (List.take sLen cur.toList ++ (List.replicate k z ++ List.drop (sLen + k) cur.toList)).toArray) := by simpa using hst
    rw [h2]
    rfl

/-- append of a make of k bytes onto an own row: k zeros behind what was there; the nil slice stays nil where k is 0. -/
theorem run_append_own_zeros {P : Program} (w : World) (base : Nat) (t tn ty e : TypeId) (i : TypeInfo) (z : Value) (kn : IntKind) (ht : P.underlying t = some (.slice e)) (htn : P.underlying tn = some (.int kn)) (hi : P.info? e = some i) (hz : i.zero = some z)
    (hs : i.size = 1) (hb : i.bytes = 1) (hzc : z.cells = #[z]) (hz1 : z.oneCell' = true) (v : Value) (n k : Nat) (xs : List Value) (hown : w.ownsRow base e 1 v n xs) (hk : k ≤ 100000) (hn : n ≤ 100000) (hbase : base ≤ w.heap.size) :
    ∃ v' w', (Builtin.append_ #[t, tn] ty #[v, .int .i64 k]).run P w = .ok v' w' ∧ w'.ownsRow base e 1 v' (n + k) (xs ++ List.replicate k z) ∧ w.grownBy w' v.ownBlock := by
  have hlen : (xs ++ List.replicate k z).length = (n + k) * 1 := by rw [List.length_append, hown.1, List.length_replicate]; omega
  have h63 : n + k ≤ maxLen := by unfold maxLen; omega
  have grown : ∀ (old : Nat) (row : Option Nat),
      (w.drew.alloc (.cells (xs.toArray ++ Builtin.zeroCells z.cells k ++ Builtin.zeroCells z.cells (grownCap w (n + k) old e - (n + k))) e)).ownsRow base e 1
        (.slice (some ⟨w.heap.size, 0, none⟩) (n + k) (grownCap w (n + k) old e)) (n + k) (xs ++ List.replicate k z) ∧
      w.grownBy (w.drew.alloc (.cells (xs.toArray ++ Builtin.zeroCells z.cells k ++ Builtin.zeroCells z.cells (grownCap w (n + k) old e - (n + k))) e)) row := by
    intro old row
    have hge := grownCap_ge w (n + k) old e
    have hcm : grownCap w (n + k) old e ≤ maxLen := grownCap_le_maxLen w (n + k) old e h63
    refine ⟨⟨hlen, .inr ⟨w.heap.size, _, _, rfl, hbase, heap_alloc_new w.drew _, hge, hcm, ?_, ?_⟩⟩, ⟨rfl, rfl, rfl, by simp, fun q hq _ => heap_alloc_old w.drew _ hq⟩⟩
    · rw [hzc, zeroCells_one, zeroCells_one]
      have := hown.1
      simp
      omega
    · rw [hzc, zeroCells_one, zeroCells_one]
      simp only [Array.toList_append]
      rw [← hlen]
      exact List.take_left
  rcases hown.2 with ⟨rfl, rfl⟩ | ⟨g, cap, cur, rfl, hbg, hg, hnc, hcm, hcs, htake⟩
  · have hx : xs = [] := List.eq_nil_of_length_eq_zero (by simpa using hown.1)
    subst hx
    by_cases h0 : k = 0
    · subst h0
      have hw0 : IntKind.i64.wrap 0 = 0 := by rw [IntKind.wrap_i64]; rfl
      refine ⟨.slice none 0 0, w, ?_, World.ownsRow_nil w base e 1, ⟨rfl, rfl, rfl, Nat.le_refl _, fun _ _ _ => rfl⟩⟩
      simp [Builtin.append_, run_underlying ht, run_underlying htn, sizeOf, typeInfo, hi, asInt, asIntOf, hw0, hb]
    · have hr := Go.Lib.run_append_nil_zeros (P := P) w t tn ty e i z .i64 kn ht htn hi hz k (by omega) (by omega) (by omega) (by rw [hb]; omega)
      have hgr := grown 0 (Value.ownBlock (.slice none 0 0))
      simp only [Nat.zero_add, List.nil_append, Array.empty_append] at hgr ⊢
      exact ⟨_, _, hr, hgr.1, hgr.2⟩
  · by_cases hroom : n + k ≤ cap
    · have hr := run_append_room_zeros (P := P) w t tn ty e i z kn ht htn hi hz hs hb hzc hz1 g n cap k cur hg hk hroom (by omega)
      refine ⟨_, _, hr, ⟨hlen, .inr ⟨g, cap, _, rfl, hbg, setRow_heap w g cur _ e _ hg, hroom, hcm, ?_, ?_⟩⟩, ⟨rfl, rfl, rfl, by simp, fun q _ hq => setRow_other w g q _ (fun e => hq (by simp [Value.ownBlock, e]))⟩⟩
      · simp; omega
      · rw [Nat.mul_one] at htake
        rw [htake, ← hlen]
        exact List.take_left
    · have holds : ∀ j u, xs[j]? = some u → w.cell? ((⟨g, 0, none⟩ : Addr).add j) = some u := hown.cells (g := g) rfl
      have hold : (Builtin.firstCells i.size n (.slice (some ⟨g, 0, none⟩) n cap)).run P w.drew = .ok xs.toArray w.drew := by
        rw [hs]
        exact run_firstCells_some (P := P) w.drew 1 n ⟨g, 0, none⟩ n cap xs hown.1 holds
      have hnc2 : Builtin.nextslicecap (n + k) cap * i.bytes ≤ 281474976710656 := by
        rw [hb]
        exact growslice_fits (by omega) (by omega)
      have hr := Go.Lib.run_append_grow_zeros (P := P) w t tn ty e i z .i64 kn ht htn hi hz (some ⟨g, 0, none⟩) n cap xs hold k (by omega) (by omega) (by omega) (by omega) (by rw [hb]; omega) hnc2
      have hgr := grown cap (Value.ownBlock (.slice (some ⟨g, 0, none⟩) n cap))
      exact ⟨_, _, hr, hgr.1, hgr.2⟩

end Go.Proofs.YtcgbonlffcpofaaGreatDoor
/- Plain facts and step laws for impl's join.  -/
namespace Go.Proofs.YtcgbonlffcpofaaGreatDoor
open Go.RowKit Go.Deep

theorem getD_append_left (A B : List Int) (i : Nat) (h : i < A.length) : (A ++ B).getD i 0 = A.getD i 0 := by
  rw [List.getD_eq_getElem?_getD, List.getD_eq_getElem?_getD, List.getElem?_append_left h]
theorem getD_append_right (A B : List Int) (i : Nat) : (A ++ B).getD (A.length + i) 0 = B.getD i 0 := by
  rw [List.getD_eq_getElem?_getD, List.getD_eq_getElem?_getD, List.getElem?_append_right (by omega)]
  congr 2
  omega

/-- The bytes of the bits that are there, and zeros for those that come. -/
theorem bytesAt_zeros (A B : List Int) (k : Nat) (hk : (A.length + 7) / 8 + k = (A.length + B.length + 7) / 8) : bytesAt A A.length ++ List.replicate k 0 = bytesAt (A ++ B) A.length := by
  have hl : (A ++ B).length = A.length + B.length := List.length_append
  apply List.ext_getElem?
  intro q
  by_cases hq : q < (A.length + B.length + 7) / 8
  · rw [bytesAt_get (A ++ B) _ q (by rw [hl]; exact hq)]
    by_cases h1 : q < (A.length + 7) / 8
    · rw [List.getElem?_append_left (by rw [bytesAt_length]; exact h1), bytesAt_get A _ q h1]
      congr 1
      unfold packed
      exact pk_congr q _ fun r hr => (getD_append_left A B _ (by omega)).symm
    · rw [List.getElem?_append_right (by rw [bytesAt_length]; omega), List.getElem?_replicate, if_pos (by rw [bytesAt_length]; omega), show min 8 (A.length - 8 * q) = 0 by omega]
      rfl
  · rw [List.getElem?_eq_none (by rw [List.length_append, bytesAt_length, List.length_replicate]; omega), List.getElem?_eq_none (by rw [bytesAt_length, hl]; omega)]

theorem ownsRow_set {w : World} {b : Nat} {e : TypeId} {size : Nat} {v : Value} {n : Nat} {xs : List Value} (h : w.ownsRow b e size v n xs) (p : Addr) (hp : p.block < b) (u : Value) : (w.setCell p u).ownsRow b e size v n xs := by
  rcases h with ⟨h1, h2 | ⟨g, cap, cur, rfl, h3, h4, h5⟩⟩
  · exact ⟨h1, .inl h2⟩
  · exact ⟨h1, .inr ⟨g, cap, cur, rfl, h3, (Below.heap_setCell _ _ _ _ (by omega)).trans h4, h5⟩⟩

theorem own_shape {w : World} {b : Nat} {e : TypeId} {size : Nat} {v : Value} {n : Nat} {xs : List Value} (h : w.ownsRow b e size v n xs) : ∃ a cap, v = .slice a n cap := by
  rcases h.2 with ⟨h2, h3⟩ | ⟨g, cap, cur, h2, _⟩
  · exact ⟨none, 0, by rw [h2, h3]⟩
  · exact ⟨_, cap, h2⟩

/-- An append whose run is known, as one step of a region that draws its order. -/
theorem step_append_run {P : Program} {ops : Array Oper} {o : Oper} {a : Act} {w : World} {K : Act → World → Prop} {Q : Exit → Act → World → Prop} {E : Prop} (hgd : o.guard = none) (s x : Operand) (t tn : TypeId)
    (ho : o.op = .call { callee := .builtin .append, args := #[s, x], argTypes := #[t, tn] }) (vs vx : Value) (hs : a.eval s = vs) (hx : a.eval x = vx) (v' : Value) (w' : World)
    (hr : (Builtin.append_ #[t, tn] o.type #[vs, vx]).run P w = .ok v' w') (h : K (a.put o.dst v') w') : if Region.wanted o (yielded ops a.tmps) = true then Oper.wp P o a w K Q else E := by
  have hw : Region.wanted o (yielded ops a.tmps) = true := by simp [Region.wanted, hgd]
  rw [if_pos hw]
  exact Go.Lib.wp_append_run w s x t tn ho vs vx hs hx v' w' hr h

end Go.Proofs.YtcgbonlffcpofaaGreatDoor
/- Plain facts and a law for impl's join: a text copied into a row behind its first bytes. -/
namespace Go.Proofs.YtcgbonlffcpofaaGreatDoor
open Go.RowKit Go.Deep

theorem pk_move {f g : Nat → Int} (j j' : Nat) : ∀ c, (∀ k, k < c → f (8 * j + k) = g (8 * j' + k)) → pk f j c = pk g j' c
  | 0, _ => rfl
  | c + 1, h => by simp only [pk]; rw [pk_move j j' c fun k hk => h k (by omega), h c (by omega)]

/-- A text's byte is what its bits make, though the last ones are not taken: they are 0. -/
theorem byt_cut (t : ByteArray) (M j : Nat) (hz : ∀ i, M ≤ i → i < 8 * t.size → bit t i = 0) (hj : j < t.size) : pk (bit t) j (min 8 (M - 8 * j)) = byt t j := by
  have h1 := byt_lo t j
  have h2 := byt_hi t j
  have e8 : pk (bit t) j 8 = byt t j := by rw [pk_bit t j 8 (by omega)]; simp
  rw [← e8]
  exact (pk_cut (bit t) j _ 8 (by omega) fun k hk hk8 => hz _ (by omega) (by omega)).symm

/-- The first bytes and a text behind them. -/
theorem copy_bytes (A : List Int) (t : ByteArray) (M : Nat) (h8 : A.length % 8 = 0) (ht : t.size = (M + 7) / 8) (hz : ∀ i, M ≤ i → i < 8 * t.size → bit t i = 0) :
    (u8s (bytesAt (A ++ bitsOf t M) A.length)).take (A.length / 8) ++ Lib.byteCells t.data.toList = u8s (bytesAt (A ++ bitsOf t M) (A.length + M)) := by
  have hX : (A ++ bitsOf t M).length = A.length + M := by rw [List.length_append, bitsOf_length]
  have hts : t.data.toList.length = t.size := rfl
  have hbc : (Lib.byteCells t.data.toList).length = t.size := by rw [Lib.byteCells_length, hts]
  have hl1 : ((u8s (bytesAt (A ++ bitsOf t M) A.length)).take (A.length / 8)).length = A.length / 8 := by rw [List.length_take]; simp [u8s, bytesAt_length]; omega
  apply List.ext_getElem?
  intro q
  by_cases hq : q < A.length / 8
  · rw [List.getElem?_append_left (by omega), List.getElem?_take, if_pos hq, u8s, u8s, List.getElem?_map, List.getElem?_map, bytesAt_get _ _ _ (by rw [hX]; omega), bytesAt_get _ _ _ (by rw [hX]; omega), show min 8 (A.length - 8 * q) = min 8 (A.length + M - 8 * q) by omega]
  · by_cases hm : q < (A.length + M + 7) / 8
    · obtain ⟨j, rfl⟩ : ∃ j, q = A.length / 8 + j := ⟨q - A.length / 8, by omega⟩
      have hj : j < t.size := by omega
      rw [List.getElem?_append_right (by omega), hl1, u8s, List.getElem?_map, bytesAt_get _ _ _ (by rw [hX]; exact hm)]
      have e : packed (A ++ bitsOf t M) (A.length / 8 + j) (min 8 (A.length + M - 8 * (A.length / 8 + j))) = byt t j := by
        rw [← byt_cut t M j hz hj, show min 8 (A.length + M - 8 * (A.length / 8 + j)) = min 8 (M - 8 * j) by omega]
        unfold packed
        refine pk_move _ _ _ fun k hk => ?_
        rw [show 8 * (A.length / 8 + j) + k = A.length + (8 * j + k) by omega, getD_append_right, List.getD_eq_getElem?_getD, bitsOf_get t M _ (by omega), Option.getD_some]
      rw [e, byt_get t j hj]
      unfold Lib.byteCells
      rw [List.getElem?_map, show A.length / 8 + j - A.length / 8 = j by omega, List.getElem?_eq_getElem (by rw [hts]; exact hj)]
      rfl
    · rw [List.getElem?_eq_none (by rw [List.length_append, hl1, hbc]; omega), List.getElem?_eq_none (by simp [u8s, bytesAt_length, hX]; omega)]

/-- A text's bits behind a row's. -/
theorem join_bit (A : List Int) (t : ByteArray) (M j r : Nat) (hz : ∀ i, M ≤ i → i < 8 * t.size → bit t i = 0) (hj : j < t.size) (hr : r < 8) :
    (A ++ bitsOf t M).getD (A.length + 8 * j + r) 0 = byt t j / 2 ^ (7 - r) % 2 := by
  have hb : bit t (8 * j + r) = byt t j / 2 ^ (7 - r) % 2 := by unfold bit; rw [show (8 * j + r) / 8 = j by omega, show (8 * j + r) % 8 = r by omega]
  rw [show A.length + 8 * j + r = A.length + (8 * j + r) by omega, getD_append_right, List.getD_eq_getElem?_getD, ← hb]
  by_cases h : 8 * j + r < M
  · rw [bitsOf_get t M _ h]; rfl
  · rw [List.getElem?_eq_none (by rw [bitsOf_length]; omega), hz _ (by omega) (by omega)]; rfl

theorem join_01 (A : List Int) (t : ByteArray) (M : Nat) (hA : ∀ x ∈ A, x = 0 ∨ x = 1) : ∀ x ∈ A ++ bitsOf t M, x = 0 ∨ x = 1 := by
  intro x hx
  rcases List.mem_append.1 hx with h | h
  · exact hA x h
  · obtain ⟨i, _, rfl⟩ := List.mem_map.1 h
    exact bit_01 t i

/-- A copy whose run is known, as one step of a region that draws its order. -/
theorem step_copy_run {P : Program} {ops : Array Oper} {o : Oper} {a : Act} {w : World} {K : Act → World → Prop} {Q : Exit → Act → World → Prop} {E : Prop} (hgd : o.guard = none) (s x : Operand) (t tn : TypeId)
    (ho : o.op = .call { callee := .builtin .copy, args := #[s, x], argTypes := #[t, tn] }) (vs vx : Value) (hs : a.eval s = vs) (hx : a.eval x = vx) (v' : Value) (w' : World)
    (hr : (Builtin.copy_ #[t, tn] o.type #[vs, vx]).run P w = .ok v' w') (h : K (a.put o.dst v') w') : if Region.wanted o (yielded ops a.tmps) = true then Oper.wp P o a w K Q else E := by
  have hw : Region.wanted o (yielded ops a.tmps) = true := by simp [Region.wanted, hgd]
  rw [if_pos hw]
  unfold Oper.wp
  simp [execOp, ho, resolve, invoke, builtin, hs, hx, hr, Result.andThen]
  exact h

/-- A text written into an own row behind its first bytes, up to its end. -/
theorem own_copied {w : World} {base g cap o m : Nat} {e : TypeId} {ys zs : List Value} (hown : w.ownsRow base e 1 (.slice (some ⟨g, 0, none⟩) m cap) m ys) (hm : o + zs.length = m) :
    ∃ cur, w.heap[g]? = some (.cells cur e (0, 0)) ∧ m ≤ cur.size ∧ ∀ w' : World, w'.heap[g]? = (w.setRow g (cur.toList.take o ++ zs ++ cur.toList.drop (o + zs.length)).toArray).heap[g]? →
      w'.ownsRow base e 1 (.slice (some ⟨g, 0, none⟩) m cap) m (ys.take o ++ zs) := by
  rcases hown with ⟨h1, ⟨h', _⟩ | ⟨g', cap', cur, h', hbg, hh, hnc, hcm, hsz, htk⟩⟩
  · simp at h'
  · simp only [Value.slice.injEq, Option.some.injEq, Addr.mk.injEq, and_true, true_and] at h'
    obtain ⟨rfl, rfl⟩ := h'
    have hml : m ≤ cur.size := by omega
    refine ⟨cur, hh, hml, fun w' hw' => ?_⟩
    have hl : cur.toList.length = cur.size := rfl
    have e1 : ys.take o = cur.toList.take o := by rw [← htk, List.take_take]; congr 1; omega
    refine ⟨by rw [e1, List.length_append, List.length_take]; omega, .inr ⟨g, cap, _, rfl, hbg, hw'.trans (setRow_heap w g _ _ e _ hh), hnc, hcm, ?_, ?_⟩⟩
    · simp; omega
    · rw [e1]
      show List.take (m * 1) (cur.toList.take o ++ zs ++ cur.toList.drop (o + zs.length)) = _
      rw [List.take_append_of_le_length (by rw [List.length_append, List.length_take]; omega), List.take_of_length_le (by rw [List.length_append, List.length_take]; omega)]

end Go.Proofs.YtcgbonlffcpofaaGreatDoor
