/- impl's writer: bytes, number. -/
import Derived.Test.YtaggnncndbdmjaaWr1
namespace Go.Proofs.Ytaggnncndbdmjaa
open Go.RowKit Go.Deep

theorem WEnd.step {K K' : Nat → Prop} {b most : Nat} {xs ys : List Int} {w w0 : World} {e : Ending} {w' : World} (h : WEnd K' b most xs ys w0 e w') (hK : ∀ k, K k → K' k) (hs : Stay K w w0) : WEnd K b most xs ys w e w' := by
  obtain ⟨h1, h2⟩ := h
  refine ⟨hs.trans (h1.mono hK), ?_⟩
  rcases h2 with ⟨a, b, c⟩ | h2
  · exact .inl ⟨a, b, c.mono hK⟩
  · exact .inr h2

/-- One text, in a block of its own that was made just now. -/
theorem write_one (K : Nat → Prop) (b most : Nat) (xs : List Int) (s : ByteArray) (T : TypeId) (w : World) (hW : Wri K b most xs w) (hmost : most ≤ 2 ^ 40) (hs : s.size ≤ 2 ^ 47) :
    Calls Try.prog 23 #[.pointer (some ⟨b, 0, none⟩), .slice (some ⟨w.heap.size, 0, none⟩) 1 1] (w.alloc (.cells #[.string s] T)) fun e w' => WEnd K b most xs (txtL s) w e w' := by
  have hW' : Wri (fun k => K k ∨ k = w.heap.size) b most xs (w.alloc (.cells #[.string s] T)) := hW.more ((Below.refl _ _).alloc (Nat.le_refl _) _) fun k hk => hk.imp id fun h => by subst h; simp
  have h := write_any (fun k => K k ∨ k = w.heap.size) b most xs [s] w.heap.size (w.alloc (.cells #[.string s] T)) hW' (.inr rfl) (fun i hi => by
    have : i = 0 := by simpa using hi
    subst this
    exact cell_of_heap (heap_new _ _) 0) hmost (by simpa using hs) (by simp)
  refine h.mono fun e w' he => ?_
  have he' := he.step (K := K) (w := w) (fun k hk => .inl hk) ((Stay.refl _ _).alloc hW.lt _)
  simpa using he'

set_option maxRecDepth 40000 in
set_option maxHeartbeats 1000000 in
theorem wbytes_any (K : Nat → Prop) (b most : Nat) (xs ys : List Int) (rb n cap : Nat) (w : World) (hW : Wri K b most xs w) (hn : ys.length = n) (hy : ∀ y ∈ ys, B8 y) (hc : ∀ i, i < n → w.cell? ⟨rb, 0 + i, none⟩ = some (.int .u8 (ys.getD i 0)))
    (hmost : most ≤ 2 ^ 40) (hys : n ≤ 2 ^ 47) :
    Calls Try.prog 15 #[.pointer (some ⟨b, 0, none⟩), .slice (some ⟨rb, 0, none⟩) n cap] w fun e w' => WEnd K b most xs ys w e w' := by
  have hcv := run_convert_bytes_arg (P := Try.prog) w 36 5 Try.underlying36 Try.underlying5 rb 0 n cap ys hn hc 9 Try.underlying9
  have ht := hide (txtL_nums ys hy)
  have hsz : (strOfNums ys).size = n := by rw [← txtL_length, unhide ht, hn]
  obtain ⟨S, hS⟩ : ∃ S, S = strOfNums ys := ⟨_, rfl⟩
  rw [← hS] at hcv ht hsz
  have hw := hide (write_one K b most xs S 9 w hW hmost (by omega))
  rw [unhide ht] at hw
  clear hS hc hsz
  go_enter Try.func15, Try.ntmps15
  go_wp2_with fail
  refine (unhide hw).mono ?_
  rintro e w' ⟨hst, ⟨h1, rfl, h2⟩ | ⟨h1, rfl⟩⟩
  · go_wp2_with fail
    refine bodyPost_ret (v := .tuple #[]) (by simp [results, Try.results15, go_sem]) rfl ?_
    exact ⟨hst, .inl ⟨h1, rfl, h2⟩⟩
  · exact ⟨rfl, hst, .inr ⟨h1, rfl⟩⟩

/-- Bytes in a block of their own that was made just now. -/
theorem lit_any (K : Nat → Prop) (b most : Nat) (xs ys : List Int) (n : Nat) (T : TypeId) (w : World) (hW : Wri K b most xs w) (hn : ys.length = n) (hy : ∀ y ∈ ys, B8 y) (hmost : most ≤ 2 ^ 40) (hys : n ≤ 2 ^ 47) :
    Calls Try.prog 15 #[.pointer (some ⟨b, 0, none⟩), .slice (some ⟨w.heap.size, 0, none⟩) n n] (w.alloc (.cells (u8c ys).toArray T)) fun e w' => WEnd K b most xs ys w e w' := by
  have hb : Below w.heap.size w (w.alloc (.cells (u8c ys).toArray T)) := (Below.refl _ _).alloc (Nat.le_refl _) _
  refine (wbytes_any K b most xs ys w.heap.size n n _ (hW.same hb) hn hy (fun i hi => ?_) hmost hys).mono fun e w' he => he.step (fun _ h => h) ((Stay.refl _ _).alloc hW.lt _)
  rw [Nat.zero_add, cell_of_heap (heap_new _ _) i]
  have hi' : i < ys.length := by omega
  simp [u8c, hi']

set_option maxRecDepth 40000 in
set_option maxHeartbeats 1000000 in
theorem number_any (K : Nat → Prop) (b most : Nat) (xs : List Int) (n : Int) (size : Nat) (w : World) (hW : Wri K b most xs w) (hmost : most ≤ 2 ^ 40) (hs : size ≤ 8) :
    Calls Try.prog 68 #[.pointer (some ⟨b, 0, none⟩), .int .i64 n, .int .i64 size] w fun e w' => WEnd K b most xs (beL n size) w e w' := by
  go_enter Try.func68, Try.ntmps68
  have HW := hide hW
  clear hW
  go_wp2_with fail
  go_loopw [6] (fun iv wr => ∃ q : Nat, q ≤ size ∧ iv = .int .i64 ((q : Int) - 1) ∧ Stay K w wr ∧ Wri K b most (xs ++ beL (n / 2 ^ (8 * q)) (size - q)) wr) (fun iv _ => (intOf iv + 1).toNat)
  case atStart => exact ⟨size, Nat.le_refl _, rfl, Stay.refl _ _, by simpa [beL] using unhide HW⟩
  case round =>
    obtain ⟨q, hq, rfl, hst, hwr⟩ := hrel
    cases q with
    | zero =>
      have e0 : ((0 : Nat) : Int) - 1 = -1 := rfl
      rw [e0]
      have e1 : beL (n / 2 ^ (8 * 0)) (size - 0) = beL n size := by simp
      rw [e1] at hwr
      have HWR := hide hwr
      have HST := hide hst
      clear e1 hwr hst
      go_wp2_with fail
      refine bodyPost_ret (v := .tuple #[]) (by simp [results, Try.results68, go_sem]) rfl ?_
      exact ⟨unhide HST, .inl ⟨by have := (unhide HWR).few; rwa [List.length_append] at this, rfl, unhide HWR⟩⟩
    | succ q =>
      have e0 : ((q + 1 : Nat) : Int) - 1 = q := by omega
      rw [e0]
      have hf := hide (beL_front n q (size - (q + 1)))
      have hl := hide (lit_any K b most _ [n / 2 ^ (8 * q) % 256] 1 5 wr hwr rfl (by simp [B8]; omega) hmost (by omega))
      have hfew := hide (hwr.few)
      have HST := hide hst
      clear hwr hst
      go_wp2_with fail
      refine (unhide hl).mono ?_
      rintro e w' ⟨hst, ⟨h1, rfl, h2⟩ | ⟨h1, rfl⟩⟩
      · rw [List.append_assoc, ← unhide hf] at h2
        have HW2 := hide h2
        have HST2 := hide ((unhide HST).trans hst)
        clear h1 h2 hst
        go_wp2_with fail
        go_roundw
        case rel =>
          refine ⟨q, by omega, by go_num, unhide HST2, ?_⟩
          rw [show size - q = size - (q + 1) + 1 by omega]
          exact unhide HW2
        case measure => simp [intOf]
      · refine ⟨rfl, (unhide HST).trans hst, .inr ⟨?_, rfl⟩⟩
        have h2 := unhide hfew
        rw [List.length_append, beL_length] at h1 h2
        rw [beL_length]
        simp at h1
        omega

end Go.Proofs.Ytaggnncndbdmjaa
