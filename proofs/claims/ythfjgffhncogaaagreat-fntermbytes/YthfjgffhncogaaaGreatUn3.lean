/- impl's unpacker: signed, row. -/
import Derived.Test.YthfjgffhncogaaaGreatQ27
namespace Go.Proofs.YthfjgffhncogaaaGreat
open Go.RowKit Go.Deep

/-- Behind taking a term. -/
def UvEnd (m g c : Nat) (data : ByteArray) (pos : Nat) (w : World) (e : Ending) (w' : World) : Prop :=
  But g w w' ∧ ((∃ t c' pos' v, takeV m (suf data pos) c = some (t, suf data pos', c') ∧ pos' ≤ data.size ∧ c < c' ∧ c' ≤ 2000 ∧ e = .returned v ∧ XAt (Fresh w w') w' (m + 1) t v ∧ Unp g c' data pos' w') ∨ (takeV m (suf data pos) c = none ∧ e = formE))
def UvSaid (m : Nat) : Prop := ∀ (g c : Nat) (data : ByteArray) (pos d : Nat) (w : World), Unp g c data pos w → pos ≤ data.size → data.size ≤ 2 ^ 47 → d + m = 101 → c ≤ 2000 →
  Calls Tryz.prog 85 #[.pointer (some ⟨g, 0, none⟩), .int .i64 d] w fun e w' => UvEnd m g c data pos w e w'

theorem takeR_none {α : Type} (f : List Int → Nat → Option (α × List Int × Nat)) (i : Nat) (l : List Int) (c : Nat) (h : takeR f i l c = none) : ∀ j, i ≤ j → takeR f j l c = none := by
  intro j hj
  induction j with
  | zero => obtain rfl : i = 0 := by omega
            exact h
  | succ j ih =>
    by_cases he : i = j + 1
    · subst he; exact h
    · rw [takeR, ih (by omega)]

/-- The blocks that were made since, but the row's. -/
def Sx (w wr : World) (rv : Value) : Nat → Prop := fun b => w.heap.size ≤ b ∧ b < wr.heap.size ∧ rv.ownBlock ≠ some b

/-- Behind taking k terms. -/
def UrEnd (m g c k : Nat) (data : ByteArray) (pos : Nat) (w : World) (e : Ending) (w' : World) : Prop :=
  But g w w' ∧ ((∃ ks c' pos' a cap, takeR (takeV m) k (suf data pos) c = some (ks, suf data pos', c') ∧ pos' ≤ data.size ∧ c + k ≤ c' ∧ c' ≤ 2000 ∧ ks.length = k ∧ e = .returned (.slice a k cap) ∧ k ≤ cap ∧ (k = 0 ∨ ∃ R, a = some ⟨R, 0, none⟩ ∧ R < w'.heap.size) ∧
    KAt (Fresh w w') w' (XAt (Fresh w w') w' (m + 1)) ks a ∧ Unp g c' data pos' w') ∨ (takeR (takeV m) k (suf data pos) c = none ∧ e = formE))

theorem own_cap {w : World} {base n : Nat} {e : TypeId} {a : Option Addr} {cap : Nat} {xs : List Value} (h : w.ownsRow base e 1 (.slice a n cap) n xs) : n ≤ cap := by
  rcases h.2 with ⟨h, h0⟩ | ⟨g, c, cur, h, _, _, hn, _⟩
  · omega
  · cases h; exact hn

set_option maxRecDepth 40000 in
set_option maxHeartbeats 2000000 in
theorem urow_any (m : Nat) (h : UvSaid m) (g c k : Nat) (data : ByteArray) (pos d : Nat) (w : World) (hu : Unp g c data pos w) (hp : pos ≤ data.size) (hd : data.size ≤ 2 ^ 47) (hdm : d + m = 101) (hc : c ≤ 2000) (hk : k ≤ 200000) :
    Calls Tryz.prog 113 #[.pointer (some ⟨g, 0, none⟩), .int .i64 k, .int .i64 d] w fun e w' => UrEnd m g c k data pos w e w' := by
  obtain ⟨i0, hi0, hz0, hz1, hz2⟩ := info_parts infoV
  have hgl := hu.lt
  have HU := hide hu
  clear hu
  go_enter Tryz.func113, Tryz.ntmps113
  go_wp2_with fail
  go_loopw [7, 9] (fun rv iv wr => ∃ (i : Nat) (ks : List (Tm (m + 1))) (vs : List Value) (c' pos' : Nat), i ≤ k ∧ iv = .int .i64 i ∧ ks.length = i ∧ vs.length = i ∧ takeR (takeV m) i (suf data pos) c = some (ks, suf data pos', c') ∧ pos' ≤ data.size ∧ c' ≤ 2000 ∧ c + i ≤ c' ∧
      wr.ownsRow w.heap.size 56 1 rv i vs ∧ But g w wr ∧ Unp g c' data pos' wr ∧ ∀ j (h1 : j < ks.length) (h2 : j < vs.length), XAt (Sx w wr rv) wr (m + 1) ks[j] vs[j]) (fun _ iv _ => k - (intOf iv).toNat)
  case atStart => exact ⟨0, [], [], c, pos, Nat.zero_le _, rfl, rfl, rfl, rfl, hp, hc, Nat.le_refl _, World.ownsRow_nil _ _ _ _, But.refl _ _, unhide HU, fun j h1 _ => by simp at h1⟩
  case round =>
    obtain ⟨i, ks, vs, c', pos', hi, rfl, hkl, hvl, htk, hp', hc', hci, ho, hbut, hu', hX⟩ := hrel
    by_cases hlt : i < k
    · have hcall := hide (h g c' data pos' d wr hu' hp' hd hdm hc')
      obtain ⟨a1, cap1, rfl⟩ := own_form ho
      have HTK := hide htk
      have HO := hide ho
      have HBUT := hide hbut
      have HX := hide hX
      have HKL := hide hkl
      have HVL := hide hvl
      have HCI := hide hci
      clear hu' htk ho hbut hX hkl hvl hci hp' hc'
      go_wp2_with fail
      refine (unhide hcall).mono ?_
      rintro e w2 ⟨hb2, ⟨t, c2, p2, v, ht, hp2, hcc, hc2, rfl, hv, hu2⟩ | ⟨hno, rfl⟩⟩
      rotate_left
      · refine ⟨rfl, (unhide HBUT).trans hb2, .inr ⟨?_, rfl⟩⟩
        refine takeR_none _ (i + 1) _ _ ?_ k hlt
        rw [takeR, unhide HTK]
        dsimp only
        rw [hno]
      obtain ⟨u, x, rfl⟩ := hv.iface
      have hgo : (∀ b, (Value.slice a1 i cap1).ownBlock = some b → w.heap.size ≤ b ∧ b < wr.heap.size) := fun b hb => (unhide HO).lt b hb
      have hown2 : w2.ownsRow w.heap.size 56 1 (.slice a1 i cap1) i vs := by
        refine (unhide HO).kept (row := some g) ⟨hb2.os, hb2.tape, hb2.output, hb2.size, fun k hk hne => hb2.block k hk fun e => hne (by rw [e])⟩ (.inr fun e => ?_)
        have := hgo g e
        omega
      have hbw2 := (unhide HBUT).trans hb2
      have htk2 := hide (show takeR (takeV m) (i + 1) (suf data pos) c = some (ks ++ [t], suf data p2, c2) by
        rw [takeR, unhide HTK]
        dsimp only
        rw [ht])
      have hm1 := hide (show i + 1 ≤ maxLen by unfold maxLen; omega)
      have hm2 := hide (show (i + 1) * 16 ≤ 140737488355328 by omega)
      have hm3 := hide (show w.heap.size ≤ w2.heap.size from hbw2.size)
      have hnb := hide (show (w2.alloc (.cells #[.iface u x] 56)).heap[w2.heap.size]? = some (.cells #[.iface u x] 56 (0, 0)) from heap_new _ _)
      have hm4 := hide (show w.heap.size ≤ (w2.alloc (.cells #[.iface u x] 56)).heap.size by simp; have := hbw2.size; omega)
      have HO2 := hide hown2
      have HBW2 := hide hbw2
      have HB2 := hide hb2
      have HV := hide hv
      have HU2 := hide hu2
      have HCC := hide (And.intro hp2 (And.intro hcc hc2))
      have HGO := hide hgo
      clear hown2 hbw2 hb2 hv hu2 hp2 hcc hc2 hgo ht
      go_wp2_with (at_builtin; refine wpList_append_own_at _ rfl (.tmp 11) (.tmp 15) 105 rfl w.heap.size 56 i0 .nilIface 1 16 Tryz.underlying105 hi0 hz0 hz1 hz2 rfl (by decide) _ i _ rfl ((unhide HO2).alloc _) _ 1 1 [.iface u x] rfl rfl (World.news_of_block (cs := #[.iface u x]) (unhide hnb)) (fun u hu => by simp at hu; subst hu; rfl) (unhide hm1) (unhide hm2) (unhide hm4) ?_)
      intro v' w3 ho3 hg3 _ hat3
      have hb2 := unhide HB2
      have hbw2 := unhide HBW2
      have hgo := unhide HGO
      have hbl : ∀ b, b < w2.heap.size → (Value.slice a1 i cap1).ownBlock ≠ some b → w3.heap[b]? = w2.heap[b]? := fun b hb hne =>
        (hg3.block b (by simp; omega) fun e => hne e.symm).trans (Below.heap_alloc _ _ _ hb)
      have hs3 : w2.heap.size ≤ w3.heap.size := Nat.le_trans (by simp) hg3.size
      have hb3 : But g w w3 := ⟨hg3.os.trans hbw2.os, hg3.tape.trans hbw2.tape, hg3.output.trans hbw2.output, Nat.le_trans hbw2.size hs3, fun k hk hn => (hbl k (Nat.lt_of_lt_of_le hk hbw2.size) fun e => by have := (hgo k e).1; omega).trans (hbw2.block k hk hn)⟩
      have hu3 : Unp g c2 data p2 w3 := (hbl g (by have := hbw2.size; omega) fun e => by have := (hgo g e).1; omega).trans (unhide HU2)
      have hat' : ∀ b, b < w2.heap.size → (Value.slice a1 i cap1).ownBlock ≠ some b → v'.ownBlock ≠ some b := fun b hb hne e => by
        rcases hat3 with h1 | h1
        · exact hne (by rw [← h1]; exact e)
        · rw [h1] at e
          cases e
          omega
      have hX3 : ∀ j (h1 : j < (ks ++ [t]).length) (h2 : j < (vs ++ [Value.iface u x]).length), XAt (Sx w w3 v') w3 (m + 1) (ks ++ [t])[j] (vs ++ [Value.iface u x])[j] := by
        intro j h1 h2
        have hkl := unhide HKL
        have hvl := unhide HVL
        by_cases hj : j < i
        · rw [List.getElem_append_left (by omega), List.getElem_append_left (by omega)]
          refine ((unhide HX j (by omega) (by omega)).keep fun b hb => ?_).mono fun b hb => ⟨hb.1, by have := hb2.size; have := hb.2.1; omega, hat' b (by have := hb2.size; have := hb.2.1; omega) hb.2.2⟩
          exact (hbl b (by have := hb2.size; have := hb.2.1; omega) hb.2.2).trans (hb2.block b hb.2.1 (by have := hb.1; omega))
        · have hj' : j = i := by simp at h1; omega
          subst hj'
          have e1 : (ks ++ [t])[j] = t := by rw [List.getElem_append_right (by omega)]; simp [hkl]
          have e2 : (vs ++ [Value.iface u x])[j] = Value.iface u x := by rw [List.getElem_append_right (by omega)]; simp [hvl]
          rw [e1, e2]
          have hne : ∀ b, wr.heap.size ≤ b → (Value.slice a1 j cap1).ownBlock ≠ some b := fun b hb e => by have := (hgo b e).2; omega
          refine ((unhide HV).keep fun b hb => hbl b hb.2 (hne b hb.1)).mono fun b hb => ⟨by have := (unhide HBUT).size; have := hb.1; omega, by have := hb.2; omega, hat' b hb.2 (hne b hb.1)⟩
      have HO3 := hide ho3
      have HB3 := hide hb3
      have HU3 := hide hu3
      have HX3 := hide hX3
      clear ho3 hg3 hat3 hb2 hbw2 hgo hbl hs3 hb3 hu3 hat' hX3
      go_wp2_with fail
      go_roundw
      case rel =>
        obtain ⟨q1, q2, q3⟩ := unhide HCC
        exact ⟨i + 1, ks ++ [t], vs ++ [.iface u x], c2, p2, hlt, by go_num, by rw [List.length_append, unhide HKL]; rfl, by rw [List.length_append, unhide HVL]; rfl, unhide htk2, q1, q3, by have := unhide HCI; omega, unhide HO3, unhide HB3, unhide HU3, unhide HX3⟩
      case measure => simp [intOf]; omega
    · have hkk : i = k := by omega
      subst hkk
      obtain ⟨a1, cap1, rfl⟩ := own_form ho
      have hcap := own_cap ho
      have HTK := hide htk
      have HO := hide ho
      have HBUT := hide hbut
      have HX := hide hX
      have HKL := hide hkl
      have HVL := hide hvl
      have HCI := hide (And.intro hp' (And.intro hci hc'))
      have HU' := hide hu'
      have HCAP := hide hcap
      clear hu' htk ho hbut hX hkl hvl hci hp' hc' hcap
      go_wp2_with fail
      go_ret
      obtain ⟨q1, q2, q3⟩ := unhide HCI
      have ho := unhide HO
      refine ⟨unhide HBUT, .inl ⟨ks, c', pos', a1, cap1, unhide HTK, q1, q2, q3, unhide HKL, rfl, unhide HCAP, ?_, ?_, unhide HU'⟩⟩
      · by_cases h0 : i = 0
        · exact .inl h0
        · obtain ⟨R, c, hv, _, hR⟩ := ho.form (by omega)
          cases hv
          exact .inr ⟨R, rfl, hR⟩
      · by_cases h0 : i = 0
        · have hk0 : ks = [] := List.eq_nil_of_length_eq_zero (by rw [unhide HKL]; exact h0)
          rw [hk0]
          exact kat_nil
        · obtain ⟨R, c, hv, hR0, hR⟩ := ho.form (by omega)
          cases hv
          exact kat_of_own ho (by rw [unhide HVL, unhide HKL]) ⟨hR0, hR⟩ fun j h1 h2 => (unhide HX j h1 h2).mono fun b hb => ⟨hb.1, hb.2.1⟩

end Go.Proofs.YthfjgffhncogaaaGreat
