/- impl's unpacker: what it holds; bytes, number, passed. -/
import Derived.Test.YthfjgffhncogaaaGreatUn0
import Derived.Test.YthfjgffhncogaaaGreatQ24
import Derived.Deep.QuietTactic
import Derived.BigQuiet
import Derived.Deep.AppendLies
namespace Go.Proofs.YthfjgffhncogaaaGreat
open Go.RowKit Go.Deep

/-- The unpacker in block g: how many terms it took, its bytes, where it is. -/
def Unp (g c : Nat) (data : ByteArray) (pos : Nat) (w : World) : Prop := w.heap[g]? = some (.cells #[.int .i64 c, .string data, .int .i64 pos] 75 (0, 0))
theorem Unp.lt {g c pos : Nat} {data : ByteArray} {w : World} (h : Unp g c data pos w) : g < w.heap.size := (Array.getElem?_eq_some_iff.1 h).1
theorem Unp.cells {g c pos : Nat} {data : ByteArray} {w : World} (h : Unp g c data pos w) : w.cell? ⟨g, 0, none⟩ = some (.int .i64 c) ∧ w.cell? ⟨g, 1, none⟩ = some (.string data) ∧ w.cell? ⟨g, 2, none⟩ = some (.int .i64 pos) :=
  ⟨cell_of_heap h 0, cell_of_heap h 1, cell_of_heap h 2⟩
theorem Unp.setPos {g c pos : Nat} {data : ByteArray} {w : World} (h : Unp g c data pos w) (p : Nat) : Unp g c data p (w.setCell ⟨g, 2, none⟩ (.int .i64 p)) := Row.setHeap h 2 (.int .i64 p)
theorem Unp.setCount {g c pos : Nat} {data : ByteArray} {w : World} (h : Unp g c data pos w) (c' : Nat) : Unp g c' data pos (w.setCell ⟨g, 0, none⟩ (.int .i64 c')) := Row.setHeap h 0 (.int .i64 c')
theorem Unp.below {g c pos : Nat} {data : ByteArray} {w w' : World} (h : Unp g c data pos w) (hb : Below w.heap.size w w') : Unp g c data pos w' := (hb.block g h.lt).trans h

/-- What ends a walk whose bytes are none. -/
def formV : Value := .iface 50 (.agg #[.int .i64 4, .int .i64 0])
def formE : Ending := .panicked [{ v := formV, recovered := false }]

/-- The bytes from a place on. -/
def suf (data : ByteArray) (pos : Nat) : List Int := (txtL data).drop pos
theorem suf_length (data : ByteArray) (pos : Nat) : (suf data pos).length = data.size - pos := by unfold suf; rw [List.length_drop, txtL_length]
theorem suf_byte (data : ByteArray) (pos : Nat) : ∀ x ∈ suf data pos, B8 x := fun x hx => txtL_byte data x (List.mem_of_mem_drop hx)
theorem take_yes {data : ByteArray} {pos n : Nat} (h : pos + n ≤ data.size) : takeB n (suf data pos) = some ((suf data pos).take n, suf data (pos + n)) := by
  unfold takeB
  rw [if_pos (by rw [suf_length]; omega)]
  unfold suf
  rw [List.drop_drop]
theorem take_no {data : ByteArray} {pos n : Nat} (hp : pos ≤ data.size) (h : ¬ pos + n ≤ data.size) : takeB n (suf data pos) = none := by
  unfold takeB
  rw [if_neg (by rw [suf_length]; omega)]
theorem cut_text (data : ByteArray) (pos n : Nat) : data.extract pos (pos + n) = strOfNums ((suf data pos).take n) := by
  rw [← txt_back (data.extract pos (pos + n))]
  congr 1
  unfold suf txtL
  rw [← List.map_drop, ← List.map_take]
  congr 1
  simp [ByteArray.extract, ByteArray.copySlice]

/-- Behind taking n bytes. -/
def BytesEnd (g c : Nat) (data : ByteArray) (pos n : Nat) (w : World) (e : Ending) (w' : World) : Prop :=
  But g w w' ∧ ((pos + n ≤ data.size ∧ e = .returned (.string (strOfNums ((suf data pos).take n))) ∧ Unp g c data (pos + n) w') ∨ (¬ pos + n ≤ data.size ∧ e = formE))

theorem But.drewN {g : Nat} {a w : World} (h : But g a w) (n : Nat) : But g a (w.drewN n) := ⟨h.os, h.tape, h.output, h.size, h.block⟩

set_option maxRecDepth 40000 in
set_option maxHeartbeats 1000000 in
theorem ubytes_any (g c : Nat) (data : ByteArray) (pos n : Nat) (w : World) (hu : Unp g c data pos w) (hp : pos ≤ data.size) (hd : data.size ≤ 2 ^ 47) (hn : n ≤ 2 ^ 47) :
    Calls Tryz.prog 111 #[.pointer (some ⟨g, 0, none⟩), .int .i64 n] w fun e w' => BytesEnd g c data pos n w e w' := by
  obtain ⟨c0, c1, c2⟩ := hu.cells
  have hfr := frozen_of_heap hu 2
  have HU := hide hu
  have hct := hide (cut_text data pos n)
  clear hu
  go_enter Tryz.func111, Tryz.ntmps111
  go_upto_region 1 with fail
  go_quiet (fail)
  have HU1 := hide (show Unp g c data pos (w.drewN nq) from unhide HU)
  have HB1 := hide ((But.refl g w).drewN nq)
  have c0' : (w.drewN nq).cell? ⟨g, 0, none⟩ = some (.int .i64 c) := c0
  have c1' : (w.drewN nq).cell? ⟨g, 1, none⟩ = some (.string data) := c1
  have c2' : (w.drewN nq).cell? ⟨g, 2, none⟩ = some (.int .i64 pos) := c2
  have hfr' : (w.drewN nq).frozen? ⟨g, 2, none⟩ = false := hfr
  clear c0 c1 c2 hfr
  generalize w.drewN nq = w1 at HU1 HB1 c0' c1' c2' hfr' ⊢
  by_cases hfit : pos + n ≤ data.size
  · have h1 : ¬ (data.size : Int) - (pos : Int) < (n : Int) := by omega
    have h2 : (pos : Int) + (n : Int) ≤ (data.size : Int) := by omega
    have h3 : (pos : Int) ≤ (pos : Int) + (n : Int) := by omega
    have h4 : (0 : Int) ≤ (pos : Int) := by omega
    have HF := hide hfit
    clear hfit
    go_upto_region 3 with fail
    go_quiet (fail)
    have HU2 := hide (show Unp g c data pos (w1.drewN nq) from unhide HU1)
    have HB2 := hide ((unhide HB1).drewN nq)
    have d2 : (w1.drewN nq).cell? ⟨g, 2, none⟩ = some (.int .i64 pos) := c2'
    have df : (w1.drewN nq).frozen? ⟨g, 2, none⟩ = false := hfr'
    clear c0' c1' c2' hfr'
    generalize w1.drewN nq = w2 at HU2 HB2 d2 df ⊢
    obtain ⟨S, hS⟩ : ∃ S, S = data.extract pos (pos + n) := ⟨_, rfl⟩
    rw [← hS] at hct ⊢
    have HS := hide hS
    clear hS
    go_wp2_with fail
    go_ret
    refine ⟨(unhide HB2).set 2 _, .inl ⟨unhide HF, congrArg (fun s => Ending.returned (Value.string s)) (unhide hct), ?_⟩⟩
    have := (unhide HU2).setPos (pos + n)
    simpa using this
  · have h1 : (data.size : Int) - (pos : Int) < (n : Int) := by omega
    have HF := hide hfit
    clear hfit
    go_wp2_with fail
    exact ⟨rfl, unhide HB1, .inr ⟨unhide HF, rfl⟩⟩

theorem shl_or (a b : Int) (h0 : 0 ≤ a) (h1 : a < 36028797018963968) (hb0 : 0 ≤ b) (hb1 : b < 256) : bits BinOp.or IntKind.i64 (a * 256) b = a * 256 + b := by
  show IntKind.i64.wrap ((BitVec.ofInt 64 (a * 256) ||| BitVec.ofInt 64 b).toNat : Int) = _
  obtain ⟨x, rfl⟩ := Int.eq_ofNat_of_zero_le h0
  obtain ⟨y, rfl⟩ := Int.eq_ofNat_of_zero_le hb0
  have e1 : ((x : Int) * 256) = ((x * 256 : Nat) : Int) := by omega
  rw [e1, BitVec.toNat_or, BitVec.ofInt_natCast, BitVec.ofInt_natCast, BitVec.toNat_ofNat, BitVec.toNat_ofNat, Nat.mod_eq_of_lt (by omega), Nat.mod_eq_of_lt (by omega)]
  have e2 : x * 256 ||| y = x * 256 + y := by
    have := Nat.two_pow_add_eq_or_of_lt (i := 8) (b := y) (by omega) x
    rw [show (2 : Nat) ^ 8 * x = x * 256 by omega] at this
    exact this.symm
  rw [e2, IntKind.wrap_i64]
  omega

theorem numL_take (l : List Int) (i : Nat) (h : i < l.length) : numL (l.take (i + 1)) = numL (l.take i) * 256 + l[i] := by
  rw [List.take_succ_eq_append_getElem h, numL_append]
theorem numL_lt : ∀ (l : List Int), (∀ x ∈ l, B8 x) → 0 ≤ numL l ∧ numL l < 256 ^ l.length := by
  intro l h
  have key : ∀ i, i ≤ l.length → 0 ≤ numL (l.take i) ∧ numL (l.take i) < 256 ^ i := by
    intro i
    induction i with
    | zero => intro _; simp [numL]
    | succ i ih =>
      intro hi
      obtain ⟨h1, h2⟩ := ih (by omega)
      obtain ⟨b1, b2⟩ := h l[i] (List.getElem_mem (by omega))
      rw [numL_take l i (by omega), Int.pow_succ]
      omega
  have := key l.length (Nat.le_refl _)
  rwa [List.take_length] at this

/-- Behind taking a number of n bytes. -/
def NumEnd (g c : Nat) (data : ByteArray) (pos n : Nat) (w : World) (e : Ending) (w' : World) : Prop :=
  But g w w' ∧ ((pos + n ≤ data.size ∧ (∃ q : Nat, takeN n (suf data pos) = some (q, suf data (pos + n)) ∧ q < 256 ^ n ∧ e = .returned (.int .i64 q)) ∧ Unp g c data (pos + n) w') ∨ (takeN n (suf data pos) = none ∧ e = formE))

set_option maxRecDepth 40000 in
set_option maxHeartbeats 1000000 in
theorem unumber_any (g c : Nat) (data : ByteArray) (pos n : Nat) (w : World) (hu : Unp g c data pos w) (hp : pos ≤ data.size) (hd : data.size ≤ 2 ^ 47) (hn : n ≤ 7) :
    Calls Tryz.prog 84 #[.pointer (some ⟨g, 0, none⟩), .int .i64 n] w fun e w' => NumEnd g c data pos n w e w' := by
  have hb := hide (ubytes_any g c data pos n w hu hp hd (by omega))
  clear hu
  go_enter Tryz.func84, Tryz.ntmps84
  go_wp2_with fail
  refine (unhide hb).mono ?_
  rintro e w1 ⟨hbut, ⟨hfit, rfl, hu1⟩ | ⟨hno, rfl⟩⟩
  rotate_left
  · refine ⟨rfl, hbut, .inr ⟨?_, rfl⟩⟩
    unfold takeN
    rw [take_no hp hno]
  obtain ⟨x, hx⟩ : ∃ x, x = (suf data pos).take n := ⟨_, rfl⟩
  have hxl : x.length = n := by rw [hx, List.length_take, suf_length]; omega
  have hxb : ∀ y ∈ x, B8 y := fun y hy => suf_byte data pos y (by rw [hx] at hy; exact List.mem_of_mem_take hy)
  have hts := txtL_nums x hxb
  rw [← hx]
  obtain ⟨S, hS⟩ : ∃ S, S = strOfNums x := ⟨_, rfl⟩
  rw [← hS] at hts ⊢
  have hsz : S.size = n := by rw [← txtL_length, hts, hxl]
  have HBUT := hide hbut
  have HU1 := hide hu1
  have HX := hide hx
  have HTS := hide hts
  have HXL := hide hxl
  have HXB := hide hxb
  have HFIT := hide hfit
  clear hbut hu1 hS hx hts hxl hxb hfit hp
  go_wp2_with fail
  go_loopw [6, 12] (fun nv iv wr => ∃ i : Nat, i ≤ n ∧ iv = .int .i64 i ∧ nv = .int .i64 (numL (x.take i)) ∧ wr = w1) (fun _ iv _ => n - (intOf iv).toNat)
  case atStart => exact ⟨0, Nat.zero_le _, rfl, rfl, rfl⟩
  case round =>
    obtain ⟨i, hi, rfl, rfl, rfl⟩ := hrel
    have hxl := unhide HXL
    by_cases hlt : i < n
    · have hbd := numL_lt (x.take i) fun y hy => unhide HXB y (List.mem_of_mem_take hy)
      have hpow : (256 : Int) ^ (x.take i).length ≤ 281474976710656 := by
        rw [List.length_take, hxl, Nat.min_eq_left hi]
        have : i ≤ 6 := by omega
        rcases (show i = 0 ∨ i = 1 ∨ i = 2 ∨ i = 3 ∨ i = 4 ∨ i = 5 ∨ i = 6 by omega) with rfl | rfl | rfl | rfl | rfl | rfl | rfl <;> decide
      have hst := hide (numL_take x i (by omega))
      have hel : ((S[i]'(by omega)).toNat : Int) = x[i]'(by omega) := by
        have h1 := txtL_take S i (by omega)
        rw [unhide HTS, List.take_succ_eq_append_getElem (by omega)] at h1
        have h2 := List.append_cancel_left h1
        injection h2 with h3 h4
        exact h3.symm
      have hsi : (i : Int) < (S.size : Int) := by omega
      have hb8 : (S[i]'(by omega)).toNat < 256 := (S[i]'(by omega)).toNat_lt
      obtain ⟨a, ha⟩ : ∃ a, a = numL (x.take i) := ⟨_, rfl⟩
      rw [← ha] at hbd hst ⊢
      have hor := shl_or a ((S[i]'(by omega)).toNat : Int) hbd.1 (by omega) (by omega) (by omega)
      rw [hel] at hor
      obtain ⟨b8, hb8e⟩ : ∃ b8, b8 = x[i]'(by omega) := ⟨_, rfl⟩
      rw [← hb8e] at hel hor
      obtain ⟨hbd0, hbd1⟩ := hbd
      have HA := hide ha
      have HB8 := hide hb8e
      have hbd2 : a < 281474976710656 := by omega
      clear ha hb8e hpow hbd1
      go_wp2_with fail
      go_roundw
      case rel => exact ⟨i + 1, hlt, by go_num, by rw [unhide hst, ← unhide HB8], by first | rfl | trivial⟩
      case measure => simp [intOf]; omega
    · have hkk : i = n := by omega
      subst hkk
      rw [show x.take i = x by rw [← hxl, List.take_length]]
      obtain ⟨l0, l1⟩ := numL_lt x (unhide HXB)
      obtain ⟨q, hq⟩ := Int.eq_ofNat_of_zero_le l0
      have htn : takeN i (suf data pos) = some (q, suf data (pos + i)) := by
        unfold takeN
        rw [take_yes (unhide HFIT), ← unhide HX]
        show some ((numL x).toNat, suf data (pos + i)) = _
        rw [hq, Int.toNat_natCast]
      have HQ := hide (show q < 256 ^ i by rw [hq, hxl] at l1; exact_mod_cast l1)
      rw [hq]
      have HTN := hide htn
      clear l0 l1 hq htn
      go_wp2_with fail
      go_ret
      exact ⟨unhide HBUT, .inl ⟨unhide HFIT, ⟨q, unhide HTN, unhide HQ, rfl⟩, unhide HU1⟩⟩

end Go.Proofs.YthfjgffhncogaaaGreat
/- impl's unpacker: passed, signed, byteList; how its values lie. -/
namespace Go.Proofs.YthfjgffhncogaaaGreat
open Go.RowKit Go.Deep

/-- A value that stands for a term, whatever room its rows have. -/
def XAt (S : Nat → Prop) (w : World) : (n : Nat) → Tm n → Value → Prop
  | 0, t => t.elim
  | n + 1, (k, m, s, ks) => fun v => In64 m ∧ s.size ≤ 2 ^ 47 ∧
    ((k = 1 ∧ s = noText ∧ ks = [] ∧ v = .iface 101 (.int .i64 m)) ∨ (k = 2 ∧ m = 0 ∧ ks = [] ∧ v = .iface 100 (.string s)) ∨ (k = 3 ∧ s = noText ∧ ks = [] ∧ v = .iface 102 (.int .i64 m)) ∨
     (k = 5 ∧ s = noText ∧ ks = [] ∧ v = .iface 103 (.int .i64 m)) ∨ (k = 9 ∧ m = 0 ∧ ks = [] ∧ v = .iface 116 (.string s)) ∨
     (∃ a cap, KAt S w (XAt S w n) ks a ∧ ks.length ≤ 100000 ∧ s = noText ∧
       ((k = 4 ∧ v = .iface 108 (.agg #[.int .i64 m, .slice a ks.length cap])) ∨ (k = 6 ∧ m = 0 ∧ v = .iface 111 (.slice a ks.length cap)) ∨
        (k = 8 ∧ m = 0 ∧ v = .iface 115 (.slice a ks.length cap)) ∨ (k = 7 ∧ m = 0 ∧ ks.length % 2 = 0 ∧ v = .iface 113 (.slice a (ks.length / 2) cap)))))

theorem XAt.keep {S : Nat → Prop} {w w' : World} (hk : ∀ b, S b → w'.heap[b]? = w.heap[b]?) : ∀ {n : Nat} {t : Tm n} {v : Value}, XAt S w n t v → XAt S w' n t v := by
  intro n
  induction n with
  | zero => intro t; exact t.elim
  | succ n ih =>
    rintro ⟨k, m, s, ks⟩ v ⟨hm, hs, h⟩
    refine ⟨hm, hs, ?_⟩
    rcases h with h | h | h | h | h | ⟨a, cap, hK, h⟩
    · exact .inl h
    · exact .inr (.inl h)
    · exact .inr (.inr (.inl h))
    · exact .inr (.inr (.inr (.inl h)))
    · exact .inr (.inr (.inr (.inr (.inl h))))
    · exact .inr (.inr (.inr (.inr (.inr ⟨a, cap, hK.keep hk fun t _ v hv => ih hv, h⟩))))
theorem XAt.mono {S S' : Nat → Prop} {w : World} (hk : ∀ b, S b → S' b) : ∀ {n : Nat} {t : Tm n} {v : Value}, XAt S w n t v → XAt S' w n t v := by
  intro n
  induction n with
  | zero => intro t; exact t.elim
  | succ n ih =>
    rintro ⟨k, m, s, ks⟩ v ⟨hm, hs, h⟩
    refine ⟨hm, hs, ?_⟩
    rcases h with h | h | h | h | h | ⟨a, cap, hK, h⟩
    · exact .inl h
    · exact .inr (.inl h)
    · exact .inr (.inr (.inl h))
    · exact .inr (.inr (.inr (.inl h)))
    · exact .inr (.inr (.inr (.inr (.inl h))))
    · exact .inr (.inr (.inr (.inr (.inr ⟨a, cap, hK.mono hk fun t _ v hv => ih hv, h⟩))))
theorem XAt.iface {S : Nat → Prop} {w : World} : ∀ {n : Nat} {t : Tm n} {v : Value}, XAt S w n t v → ∃ u x, v = .iface u x
  | 0, t, _, _ => t.elim
  | _ + 1, (_, _, _, _), _, ⟨_, _, h⟩ => by
    rcases h with ⟨_, _, _, h⟩ | ⟨_, _, _, h⟩ | ⟨_, _, _, h⟩ | ⟨_, _, _, h⟩ | ⟨_, _, _, h⟩ | ⟨_, _, _, _, _, ⟨_, h⟩ | ⟨_, _, h⟩ | ⟨_, _, h⟩ | ⟨_, _, _, h⟩⟩
    all_goals exact ⟨_, _, h⟩

/-- A row that was pushed: its cells are the values vs, which stand for ks. -/
theorem kat_of_own {α : Type} {S : Nat → Prop} {w : World} {R : α → Value → Prop} {base g len cap : Nat} {ks : List α} {vs : List Value} {e : TypeId} (ho : w.ownsRow base e 1 (.slice (some ⟨g, 0, none⟩) len cap) len vs)
    (hl : vs.length = ks.length) (hS : S g) (hR : ∀ i (h : i < ks.length) (h' : i < vs.length), R ks[i] vs[i]) : KAt S w R ks (some ⟨g, 0, none⟩) := by
  intro i hi
  have hi' : i < vs.length := by omega
  refine ⟨g, 0, vs[i], rfl, hS, ?_, hR i hi hi'⟩
  have h := ho.cells (g := g) rfl i vs[i] (List.getElem?_eq_getElem hi')
  have hadd : (⟨g, 0, none⟩ : Addr).add i = ⟨g, i, none⟩ := by unfold Addr.add; split <;> simp_all
  rw [hadd] at h
  simpa using h
theorem kat_nil {α : Type} {S : Nat → Prop} {w : World} {R : α → Value → Prop} {a : Option Addr} : KAt S w R ([] : List α) a := fun i hi => by simp at hi

set_option maxRecDepth 40000 in
set_option maxHeartbeats 1000000 in
theorem upassed_any (g c : Nat) (data : ByteArray) (pos d : Nat) (w : World) (hu : Unp g c data pos w) (h1 : c ≤ 2000) (h2 : d ≤ 200) :
    Calls Tryz.prog 65 #[.pointer (some ⟨g, 0, none⟩), .int .i64 d] w
      fun e w' => e = .returned (.bool (decide (2000 < c + 1) || decide (100 < d))) ∧ But g w w' ∧ Unp g (c + 1) data pos w' := by
  obtain ⟨hcell, _, _⟩ := hu.cells
  have hfr := frozen_of_heap hu 0
  have hcast : ((c + 1 : Nat) : Int) = (c : Int) + 1 := by omega
  have hu2 := hu.setCount (c + 1)
  rw [hcast] at hu2
  obtain ⟨hcell2, _, _⟩ := hu2.cells
  rw [hcast] at hcell2
  have HU2 := hide hu2
  have hbut := hide ((But.refl g w).set 0 (.int .i64 ((c : Int) + 1)))
  clear hu hu2
  by_cases h3 : 2000 < c + 1
  · have h3' : (2000 : Int) < (c : Int) + 1 := by omega
    go_enter Tryz.func65, Tryz.ntmps65
    go_wp2_with fail
    go_ret
    exact ⟨ret_bool (by simp; omega), unhide hbut, unhide HU2⟩
  · have h3' : ¬ (2000 : Int) < (c : Int) + 1 := by omega
    by_cases h4 : 100 < d
    all_goals
      go_enter Tryz.func65, Tryz.ntmps65
      go_wp2_with fail
      go_ret
      exact ⟨ret_bool (by rw [Bool.eq_iff_iff]; simp; omega), unhide hbut, unhide HU2⟩

set_option maxRecDepth 40000 in
set_option maxHeartbeats 1000000 in
theorem byteList_any (n : Nat) (x : List Int) (S : ByteArray) (w : World) (hS : txtL S = x) (hx : x.length ≤ 100000) :
    Calls Tryz.prog 115 #[.string S] w fun e w' => Below w.heap.size w w' ∧ ∃ a cap, e = .returned (.slice a x.length cap) ∧ KAt (fun k => w.heap.size ≤ k ∧ k < w'.heap.size) w' (XAt (fun k => w.heap.size ≤ k ∧ k < w'.heap.size) w' (n + 1)) (x.map fun b => leafT n 1 b noText) a := by
  obtain ⟨i0, hi0, hz0, hz1, hz2⟩ := info_parts infoV
  have hsz : S.size = x.length := by rw [← txtL_length, hS]
  obtain ⟨vs, hvs⟩ : ∃ vs : List Value, vs = x.map fun b => Value.iface 101 (.int .i64 b) := ⟨_, rfl⟩
  have hvl : vs.length = x.length := by rw [hvs, List.length_map]
  have HVS := hide hvs
  have HS := hide hS
  clear hvs hS
  go_enter Tryz.func115, Tryz.ntmps115
  go_wp2_with fail
  go_loopw [3, 7] (fun rv iv wr => ∃ i : Nat, i ≤ x.length ∧ iv = .int .i64 i ∧ Below w.heap.size w wr ∧ wr.ownsRow w.heap.size 56 1 rv i (vs.take i)) (fun _ iv _ => x.length - (intOf iv).toNat)
  case atStart => exact ⟨0, Nat.zero_le _, rfl, Below.refl _ _, by simpa using World.ownsRow_nil _ _ _ _⟩
  case round =>
    obtain ⟨i, hi, rfl, hb, ho⟩ := hrel
    by_cases hlt : i < x.length
    · have hsi : (i : Int) < (S.size : Int) := by omega
      have hel : ((S[i]'(by omega)).toNat : Int) = x[i]'(by omega) := by
        have h1 := txtL_take S i (by omega)
        rw [unhide HS, List.take_succ_eq_append_getElem (by omega)] at h1
        have h2 := List.append_cancel_left h1
        injection h2 with h3 h4
        exact h3.symm
      have hv : vs[i]'(by omega) = .iface 101 (.int .i64 ((S[i]'(by omega)).toNat : Int)) := by
        have h := unhide HVS
        subst h
        rw [List.getElem_map, hel]
      have ht := hide (show vs.take (i + 1) = vs.take i ++ [.iface 101 (.int .i64 ((S[i]'(by omega)).toNat : Int))] by rw [List.take_succ_eq_append_getElem (by omega), hv])
      have hlS : i < S.size := by omega
      have hb8 := (S[i]'hlS).toNat_lt
      obtain ⟨a1, cap1, rfl⟩ := own_form ho
      have HB := hide hb
      have HO := hide ho
      have hm1 := hide (show i + 1 ≤ maxLen by unfold maxLen; omega)
      have hm2 := hide (show (i + 1) * 16 ≤ 140737488355328 by omega)
      have hm3 := hide hb.size
      have hnb := hide (show (wr.alloc (.cells #[.iface 101 (.int .i64 ((S[i]'hlS).toNat : Int))] 56)).heap[wr.heap.size]? = some (.cells #[.iface 101 (.int .i64 ((S[i]'hlS).toNat : Int))] 56 (0, 0)) from heap_new _ _)
      have hm4 := hide (show w.heap.size ≤ (wr.alloc (.cells #[.iface 101 (.int .i64 ((S[i]'hlS).toNat : Int))] 56)).heap.size by simp; have := hb.size; omega)
      clear hb ho hv hel
      go_upto_region 5 with fail
      go_wp2_with (at_builtin; refine wpList_append_own_at _ rfl (.tmp 10) (.tmp 16) 115 rfl w.heap.size 56 i0 .nilIface 1 16 Tryz.underlying115 hi0 hz0 hz1 hz2 rfl (by decide) _ i _ rfl ((unhide HO).alloc _) _ 1 1 [.iface 101 (.int .i64 ((S[i]'hlS).toNat : Int))] rfl rfl (World.news_of_block (cs := #[.iface 101 (.int .i64 ((S[i]'hlS).toNat : Int))]) (unhide hnb)) (fun u hu => by simp at hu; subst hu; rfl) (unhide hm1) (unhide hm2) (unhide hm4) ?_)
      intro v w1 ho1 hg1 _ hat1
      have hb1 : Below w.heap.size w w1 := ((unhide HB).alloc (unhide hm3) _).grown hg1 (unhide hm4) fun k hk => ((unhide HO).lt k hk).1
      rw [← unhide ht] at ho1
      have HO1 := hide ho1
      have HB1 := hide hb1
      clear ho1 hb1 hg1 hat1
      go_wp2_with fail
      go_roundw
      case rel => exact ⟨i + 1, hlt, by go_num, unhide HB1, unhide HO1⟩
      case measure => simp [intOf]; omega
    · have hkk : i = x.length := by omega
      subst hkk
      rw [List.take_of_length_le (by omega)] at ho
      obtain ⟨a1, cap1, rfl⟩ := own_form ho
      have HB := hide hb
      have HO := hide ho
      clear hb ho
      go_wp2_with fail
      go_ret
      refine ⟨unhide HB, a1, cap1, rfl, ?_⟩
      have ho := unhide HO
      by_cases h0 : x.length = 0
      · have hx0 : x = [] := List.eq_nil_of_length_eq_zero h0
        rw [hx0]
        exact kat_nil
      · obtain ⟨g, c, hv, hg, hgl⟩ := ho.form (by omega)
        cases hv
        refine kat_of_own ho (by simpa using hvl) ⟨hg, hgl⟩ fun i hi hi' => ?_
        have hi2 : i < x.length := by simpa using hi
        have e1 : vs[i] = .iface 101 (.int .i64 x[i]) := by
          have h := unhide HVS
          subst h
          rw [List.getElem_map]
        rw [List.getElem_map, e1]
        have hb8 : B8 x[i] := by
          have := txtL_byte S x[i] (by rw [unhide HS]; exact List.getElem_mem hi2)
          exact this
        exact ⟨⟨by have := hb8.1; omega, by have := hb8.2; omega⟩, by decide, .inl ⟨rfl, rfl, rfl, rfl⟩⟩

end Go.Proofs.YthfjgffhncogaaaGreat
