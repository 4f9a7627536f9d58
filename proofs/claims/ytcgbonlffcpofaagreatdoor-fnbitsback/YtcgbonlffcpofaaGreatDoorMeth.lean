/- impl's order: the methods of the nine types, orderOf. -/
import Derived.Test.YtcgbonlffcpofaaGreatDoorOrdP
namespace Go.Proofs.YtcgbonlffcpofaaGreatDoor
open Go.RowKit

/-- What is known of a dynamic type: its kind, and which functions its methods kind and order are. -/
structure Dyn (u : TypeId) (k : Int) where
  f : FuncId
  g : FuncId
  good : Value → Prop
  mk0 : ∀ (x : Value) (w : World), (method 260 u x "loop.example/g00019/impl.kind").run Tryz.prog w = .ok (f, x) w
  ck : ∀ (x : Value) (w : World), (callFunc f #[x]).run Tryz.prog w = .ok (.enter f #[x]) w
  kc : ∀ (x : Value) (w : World), good x → Calls Tryz.prog f #[x] w fun e w' => e = .returned (.int .i64 k) ∧ Below w.heap.size w w'
  mo : ∀ (x : Value) (w : World), (method 260 u x "loop.example/g00019/impl.order").run Tryz.prog w = .ok (g, x) w
  co : ∀ (x y : Value) (w : World), (callFunc g #[x, y]).run Tryz.prog w = .ok (.enter g #[x, y]) w

theorem kind_int (x : Value) (w : World) (_hx : (fun _ => True) x) : Calls Tryz.prog 98 #[x] w fun e w' => e = .returned (.int .i64 1) ∧ Below w.heap.size w w' := by
  go_enter Tryz.func98, Tryz.ntmps98
  go_wp2
  go_ret
  exact ⟨rfl, Below.refl _ _⟩
theorem ta_int (x : Value) (w : World) : (Instr.typeAssert (.iface 104 x) 101 104 false).run Tryz.prog w = .ok x w := by kernel_rfl
def dyn_int : Dyn 104 1 where
  f := 98
  g := 99
  good := fun _ => True
  mk0 := fun x w => by kernel_rfl
  ck := fun x w => by kernel_rfl
  kc := kind_int
  mo := fun x w => by kernel_rfl
  co := fun x y w => by kernel_rfl

theorem kind_atom (x : Value) (w : World) (_hx : (fun _ => True) x) : Calls Tryz.prog 104 #[x] w fun e w' => e = .returned (.int .i64 2) ∧ Below w.heap.size w w' := by
  go_enter Tryz.func104, Tryz.ntmps104
  go_wp2
  go_ret
  exact ⟨rfl, Below.refl _ _⟩
theorem ta_atom (x : Value) (w : World) : (Instr.typeAssert (.iface 105 x) 101 105 false).run Tryz.prog w = .ok x w := by kernel_rfl
def dyn_atom : Dyn 105 2 where
  f := 104
  g := 105
  good := fun _ => True
  mk0 := fun x w => by kernel_rfl
  ck := fun x w => by kernel_rfl
  kc := kind_atom
  mo := fun x w => by kernel_rfl
  co := fun x y w => by kernel_rfl

theorem kind_ref (x : Value) (w : World) (_hx : (fun _ => True) x) : Calls Tryz.prog 110 #[x] w fun e w' => e = .returned (.int .i64 3) ∧ Below w.heap.size w w' := by
  go_enter Tryz.func110, Tryz.ntmps110
  go_wp2
  go_ret
  exact ⟨rfl, Below.refl _ _⟩
theorem ta_ref (x : Value) (w : World) : (Instr.typeAssert (.iface 106 x) 101 106 false).run Tryz.prog w = .ok x w := by kernel_rfl
def dyn_ref : Dyn 106 3 where
  f := 110
  g := 111
  good := fun _ => True
  mk0 := fun x w => by kernel_rfl
  ck := fun x w => by kernel_rfl
  kc := kind_ref
  mo := fun x w => by kernel_rfl
  co := fun x y w => by kernel_rfl

theorem kind_fun (x : Value) (w : World) (hx : (fun x => ∃ a b, x = .agg #[a, b]) x) : Calls Tryz.prog 116 #[x] w fun e w' => e = .returned (.int .i64 4) ∧ Below w.heap.size w w' := by
  obtain ⟨a, b, rfl⟩ := hx
  go_enter Tryz.func116, Tryz.ntmps116
  go_wp2
  go_ret
  exact ⟨rfl, (Below.refl _ _).alloc (Nat.le_refl _) _⟩
theorem ta_fun (x : Value) (w : World) : (Instr.typeAssert (.iface 110 x) 101 110 false).run Tryz.prog w = .ok x w := by kernel_rfl
def dyn_fun : Dyn 110 4 where
  f := 116
  g := 117
  good := fun x => ∃ a b, x = .agg #[a, b]
  mk0 := fun x w => by kernel_rfl
  ck := fun x w => by kernel_rfl
  kc := kind_fun
  mo := fun x w => by kernel_rfl
  co := fun x y w => by kernel_rfl

theorem kind_pid (x : Value) (w : World) (_hx : (fun _ => True) x) : Calls Tryz.prog 122 #[x] w fun e w' => e = .returned (.int .i64 5) ∧ Below w.heap.size w w' := by
  go_enter Tryz.func122, Tryz.ntmps122
  go_wp2
  go_ret
  exact ⟨rfl, Below.refl _ _⟩
theorem ta_pid (x : Value) (w : World) : (Instr.typeAssert (.iface 111 x) 101 111 false).run Tryz.prog w = .ok x w := by kernel_rfl
def dyn_pid : Dyn 111 5 where
  f := 122
  g := 123
  good := fun _ => True
  mk0 := fun x w => by kernel_rfl
  ck := fun x w => by kernel_rfl
  kc := kind_pid
  mo := fun x w => by kernel_rfl
  co := fun x y w => by kernel_rfl

theorem kind_tup (x : Value) (w : World) (_hx : (fun _ => True) x) : Calls Tryz.prog 128 #[x] w fun e w' => e = .returned (.int .i64 6) ∧ Below w.heap.size w w' := by
  go_enter Tryz.func128, Tryz.ntmps128
  go_wp2
  go_ret
  exact ⟨rfl, Below.refl _ _⟩
theorem ta_tup (x : Value) (w : World) : (Instr.typeAssert (.iface 112 x) 101 112 false).run Tryz.prog w = .ok x w := by kernel_rfl
def dyn_tup : Dyn 112 6 where
  f := 128
  g := 129
  good := fun _ => True
  mk0 := fun x w => by kernel_rfl
  ck := fun x w => by kernel_rfl
  kc := kind_tup
  mo := fun x w => by kernel_rfl
  co := fun x y w => by kernel_rfl

theorem kind_map (x : Value) (w : World) (_hx : (fun _ => True) x) : Calls Tryz.prog 132 #[x] w fun e w' => e = .returned (.int .i64 7) ∧ Below w.heap.size w w' := by
  go_enter Tryz.func132, Tryz.ntmps132
  go_wp2
  go_ret
  exact ⟨rfl, Below.refl _ _⟩
theorem ta_map (x : Value) (w : World) : (Instr.typeAssert (.iface 114 x) 101 114 false).run Tryz.prog w = .ok x w := by kernel_rfl
def dyn_map : Dyn 114 7 where
  f := 132
  g := 133
  good := fun _ => True
  mk0 := fun x w => by kernel_rfl
  ck := fun x w => by kernel_rfl
  kc := kind_map
  mo := fun x w => by kernel_rfl
  co := fun x y w => by kernel_rfl

theorem kind_lst (x : Value) (w : World) (_hx : (fun _ => True) x) : Calls Tryz.prog 139 #[x] w fun e w' => e = .returned (.int .i64 8) ∧ Below w.heap.size w w' := by
  go_enter Tryz.func139, Tryz.ntmps139
  go_wp2
  go_ret
  exact ⟨rfl, Below.refl _ _⟩
theorem ta_lst (x : Value) (w : World) : (Instr.typeAssert (.iface 116 x) 101 116 false).run Tryz.prog w = .ok x w := by kernel_rfl
def dyn_lst : Dyn 116 8 where
  f := 139
  g := 140
  good := fun _ => True
  mk0 := fun x w => by kernel_rfl
  ck := fun x w => by kernel_rfl
  kc := kind_lst
  mo := fun x w => by kernel_rfl
  co := fun x y w => by kernel_rfl

theorem kind_bin (x : Value) (w : World) (_hx : (fun _ => True) x) : Calls Tryz.prog 144 #[x] w fun e w' => e = .returned (.int .i64 9) ∧ Below w.heap.size w w' := by
  go_enter Tryz.func144, Tryz.ntmps144
  go_wp2
  go_ret
  exact ⟨rfl, Below.refl _ _⟩
theorem ta_bin (x : Value) (w : World) : (Instr.typeAssert (.iface 117 x) 101 117 false).run Tryz.prog w = .ok x w := by kernel_rfl
def dyn_bin : Dyn 117 9 where
  f := 144
  g := 145
  good := fun _ => True
  mk0 := fun x w => by kernel_rfl
  ck := fun x w => by kernel_rfl
  kc := kind_bin
  mo := fun x w => by kernel_rfl
  co := fun x y w => by kernel_rfl

set_option maxRecDepth 20000 in
set_option maxHeartbeats 2000000 in
theorem orderOf_ne {u u' : TypeId} {k k' : Int} (D : Dyn u k) (D' : Dyn u' k') (x x' : Value) (w : World) (hg : D.good x) (hg' : D'.good x') (hne : k ≠ k') :
    Calls Tryz.prog 75 #[.iface u x, .iface u' x'] w fun e w' => e = .returned (.int .i64 (sgn k k')) ∧ Below w.heap.size w w' := by
  obtain ⟨f, g, good, mk, ck, kc, mo, co⟩ := D
  obtain ⟨f', g', good', mk', ck', kc', mo', co'⟩ := D'
  have hne' : (k != k') = true := by simpa using hne
  have hm1 := mk x
  have hc1 := ck x
  have hm2 := mk' x'
  have hc2 := ck' x'
  have K1 := hide (fun w => kc x w hg)
  have K2 := hide (fun w => kc' x' w hg')
  clear mk ck kc mo co mk' ck' kc' mo' co' hne hg hg'
  go_enter Tryz.func75, Tryz.ntmps75
  go_wp2_with fail
  refine ((unhide K1) _).mono ?_
  rintro e w1 ⟨rfl, b1⟩
  go_wp2_with fail
  refine ((unhide K2) _).mono ?_
  rintro e w2 ⟨rfl, b2⟩
  go_wp2_with fail
  refine ((unhide K1) _).mono ?_
  rintro e w3 ⟨rfl, b3⟩
  go_wp2_with fail
  refine ((unhide K2) _).mono ?_
  rintro e w4 ⟨rfl, b4⟩
  go_wp2_with (go_at_call 78; refine (cmpInt_any _ _ _).mono ?_; rintro e w' ⟨rfl, rfl⟩)
  go_ret
  exact ⟨rfl, b1.trans ((b2.trans ((b3.trans (b4.mono b3.size)).mono b2.size)).mono b1.size)⟩

set_option maxRecDepth 20000 in
set_option maxHeartbeats 2000000 in
theorem orderOf_eq {u u' : TypeId} {k : Int} (D : Dyn u k) (D' : Dyn u' k) (x x' : Value) (w : World) (c : Int) (hg : D.good x) (hg' : D'.good x')
    (ho : ∀ w1, Below w.heap.size w w1 → Calls Tryz.prog D.g #[x, .iface u' x'] w1 fun e w' => e = .returned (.int .i64 c) ∧ Below w1.heap.size w1 w') :
    Calls Tryz.prog 75 #[.iface u x, .iface u' x'] w fun e w' => e = .returned (.int .i64 c) ∧ Below w.heap.size w w' := by
  obtain ⟨f, g, good, mk, ck, kc, mo, co⟩ := D
  obtain ⟨f', g', good', mk', ck', kc', mo', co'⟩ := D'
  have hm1 := mk x
  have hc1 := ck x
  have hm2 := mk' x'
  have hc2 := ck' x'
  have hm3 := mo x
  have hc3 := co x (.iface u' x')
  have K1 := hide (fun w => kc x w hg)
  have K2 := hide (fun w => kc' x' w hg')
  dsimp only at ho
  have HO := hide ho
  clear mk ck kc mo co mk' ck' kc' mo' co' ho hg hg'
  go_enter Tryz.func75, Tryz.ntmps75
  go_wp2_with fail
  refine ((unhide K1) _).mono ?_
  rintro e w1 ⟨rfl, b1⟩
  go_wp2_with fail
  refine ((unhide K2) _).mono ?_
  rintro e w2 ⟨rfl, b2⟩
  have b12 := b1.trans (b2.mono b1.size)
  go_wp2_with fail
  refine ((unhide HO) _ b12).mono ?_
  rintro e w3 ⟨rfl, b3⟩
  go_wp2_with fail
  go_ret
  exact ⟨rfl, b12.trans (b3.mono b12.size)⟩

set_option maxRecDepth 20000 in
set_option maxHeartbeats 1000000 in
theorem order_int (m m' : Int) (w : World) : Calls Tryz.prog 99 #[.int .i64 m, .iface 104 (.int .i64 m')] w fun e w' => e = .returned (.int .i64 (sgn m m')) ∧ w' = w := by
  have hta := ta_int
  go_enter Tryz.func99, Tryz.ntmps99
  go_wp2_with (go_at_call 102; refine (cmpIv_any _ _ _).mono ?_; rintro e w' ⟨rfl, rfl⟩)
  go_ret
  exact ⟨rfl, rfl⟩

set_option maxRecDepth 20000 in
set_option maxHeartbeats 1000000 in
theorem order_ref (m m' : Int) (w : World) : Calls Tryz.prog 111 #[.int .i64 m, .iface 106 (.int .i64 m')] w fun e w' => e = .returned (.int .i64 (sgn m m')) ∧ w' = w := by
  have hta := ta_ref
  go_enter Tryz.func111, Tryz.ntmps111
  go_wp2_with (go_at_call 114; refine (cmpRv_any _ _ _).mono ?_; rintro e w' ⟨rfl, rfl⟩)
  go_ret
  exact ⟨rfl, rfl⟩

set_option maxRecDepth 20000 in
set_option maxHeartbeats 1000000 in
theorem order_pid (m m' : Int) (w : World) : Calls Tryz.prog 123 #[.int .i64 m, .iface 111 (.int .i64 m')] w fun e w' => e = .returned (.int .i64 (sgn m m')) ∧ w' = w := by
  have hta := ta_pid
  go_enter Tryz.func123, Tryz.ntmps123
  go_wp2_with (go_at_call 126; refine (cmpPv_any _ _ _).mono ?_; rintro e w' ⟨rfl, rfl⟩)
  go_ret
  exact ⟨rfl, rfl⟩

set_option maxRecDepth 20000 in
set_option maxHeartbeats 1000000 in
theorem order_atom (a b : ByteArray) (w : World) : Calls Tryz.prog 105 #[.string a, .iface 105 (.string b)] w fun e w' => e = .returned (.int .i64 (ordS a b)) ∧ w' = w := by
  have hta := ta_atom
  go_enter Tryz.func105, Tryz.ntmps105
  go_wp2_with (go_at_call 108; refine (cmpAv_any _ _ _).mono ?_; rintro e w' ⟨rfl, rfl⟩)
  go_ret
  exact ⟨rfl, rfl⟩

set_option maxRecDepth 20000 in
set_option maxHeartbeats 1000000 in
theorem order_bin (a b : ByteArray) (w : World) : Calls Tryz.prog 145 #[.string a, .iface 117 (.string b)] w fun e w' => e = .returned (.int .i64 (ordS a b)) ∧ w' = w := by
  have hta := ta_bin
  go_enter Tryz.func145, Tryz.ntmps145
  go_wp2_with (go_at_call 148; refine (cmpBv_any _ _ _).mono ?_; rintro e w' ⟨rfl, rfl⟩)
  go_ret
  exact ⟨rfl, rfl⟩

/-- What is known of two rows of kids. -/
structure Rows2 (n m : Nat) (ks : List (Tm n)) (ls : List (Tm m)) (a a' : Option Addr) (cap cap' : Nat) (w : World) : Prop where
  u : KAt (Under w.heap.size) w (VAt (Under w.heap.size) w n) ks a
  v : KAt (Under w.heap.size) w (VAt (Under w.heap.size) w m) ls a'
  c1 : ks.length / 2 ≤ cap
  c2 : cap ≤ 2 ^ 47
  c3 : ls.length / 2 ≤ cap'
  c4 : cap' ≤ 2 ^ 47
  r1 : ks.all (rightB n) = true
  r2 : ls.all (rightB m) = true
theorem Rows2.up {n m : Nat} {ks : List (Tm n)} {ls : List (Tm m)} {a a' : Option Addr} {cap cap' : Nat} {w w' : World} (h : Rows2 n m ks ls a a' cap cap' w) (hb : Below w.heap.size w w') : Rows2 n m ks ls a a' cap cap' w' :=
  ⟨h.u.up hb, h.v.up hb, h.c1, h.c2, h.c3, h.c4, h.r1, h.r2⟩

/-- Of rows of which the shorter one is first. -/
def cntT (e : Int) (l l' : Nat) : Int := if l ≠ l' then sgn l l' else e
def funT (c i i' : Int) : Int := if i ≠ i' then sgn i i' else c
theorem funT_same {c i i' : Int} (h : i = i') : funT c i i' = c := if_neg (by simpa using h)
theorem funT_ne {c i i' : Int} (h : i ≠ i') : funT c i i' = sgn i i' := if_pos h
def mapT (e0 e1 : Int) : Int := if e0 = 0 then e1 else e0
theorem mapT_zero {e0 e1 : Int} (h : e0 = 0) : mapT e0 e1 = e1 := if_pos h
theorem mapT_ne {e0 e1 : Int} (h : e0 ≠ 0) : mapT e0 e1 = e0 := if_neg h
theorem cfT_same {e : Int} {l l' : Nat} (h : l = l') : cfT e l l' = e := by
  by_cases hz : e = 0
  · subst hz; exact cfT_eq h
  · exact cfT_ne hz
theorem cntT_same {e : Int} {l l' : Nat} (h : l = l') : cntT e l l' = e := if_neg (by simpa using h)
theorem cntT_ne {e : Int} {l l' : Nat} (h : l ≠ l') : cntT e l l' = sgn l l' := if_pos h

set_option maxHeartbeats 1000000 in
theorem counted_any {n m : Nat} (h : CfVSaid n m) (ks : List (Tm n)) (ls : List (Tm m)) (a a' : Option Addr) (cap cap' : Nat) (w : World) (hr : Rows2 n m ks ls a a' cap cap' w) :
    Calls Tryz.prog 120 #[.slice a ks.length cap, .slice a' ls.length cap'] w fun e w' => e = .returned (.int .i64 (cntT (eachI (cmpT n m) ks ls 1 ks.length 0) ks.length ls.length)) ∧ Below w.heap.size w w' := by
  have hc := hide (h ks ls a a' cap cap' w hr.u hr.v hr.c1 hr.c2 hr.c3 hr.c4 hr.r1 hr.r2)
  clear hr
  by_cases hl : ks.length = ls.length
  · have hl' : ((ks.length : Int) != (ls.length : Int)) = false := by simp [hl]
    have HL := hide hl
    clear hl
    go_enter Tryz.func120, Tryz.ntmps120
    go_wp2_with (go_at_call 121; refine (unhide hc).mono ?_; rintro e w' ⟨rfl, hb⟩)
    go_ret
    refine ⟨ret_int ?_, hb⟩
    rw [cfT_same (unhide HL), cntT_same (unhide HL)]
  · have hl' : ((ks.length : Int) != (ls.length : Int)) = true := by simpa using (by omega : ¬ (ks.length : Int) = ls.length)
    have HL := hide hl
    clear hl hc
    go_enter Tryz.func120, Tryz.ntmps120
    go_wp2_with (go_at_call 78; refine (cmpInt_any _ _ _).mono ?_; rintro e w' ⟨rfl, rfl⟩)
    go_ret
    exact ⟨ret_int ((cntT_ne (unhide HL)).symm), Below.refl _ _⟩

set_option maxRecDepth 20000 in
set_option maxHeartbeats 1000000 in
theorem order_tup {n m : Nat} (h : CfVSaid n m) (ks : List (Tm n)) (ls : List (Tm m)) (a a' : Option Addr) (cap cap' : Nat) (w : World) (hr : Rows2 n m ks ls a a' cap cap' w) :
    Calls Tryz.prog 129 #[.slice a ks.length cap, .iface 112 (.slice a' ls.length cap')] w fun e w' => e = .returned (.int .i64 (cntT (eachI (cmpT n m) ks ls 1 ks.length 0) ks.length ls.length)) ∧ Below w.heap.size w w' := by
  have hc := hide (counted_any h ks ls a a' cap cap' w hr)
  clear hr
  have hta := ta_tup
  go_enter Tryz.func129, Tryz.ntmps129
  go_wp2_with (go_at_call 120; refine (unhide hc).mono ?_; rintro e w' ⟨rfl, hb⟩)
  go_ret
  exact ⟨rfl, hb⟩

set_option maxRecDepth 20000 in
set_option maxHeartbeats 1000000 in
theorem order_lst {n m : Nat} (h : CfLSaid n m) (ks : List (Tm n)) (ls : List (Tm m)) (a a' : Option Addr) (cap cap' : Nat) (w : World) (hr : Rows2 n m ks ls a a' cap cap' w) :
    Calls Tryz.prog 140 #[.slice a ks.length cap, .iface 116 (.slice a' ls.length cap')] w fun e w' => e = .returned (.int .i64 (cfT (eachI (cmpT n m) ks ls 1 ks.length 0) ks.length ls.length)) ∧ Below w.heap.size w w' := by
  have hc := hide (h ks ls a a' cap cap' w hr.u hr.v hr.c1 hr.c2 hr.c3 hr.c4 hr.r1 hr.r2)
  clear hr
  have hta := ta_lst
  go_enter Tryz.func140, Tryz.ntmps140
  go_wp2_with (go_at_call 143; refine (unhide hc).mono ?_; rintro e w' ⟨rfl, hb⟩)
  go_ret
  exact ⟨rfl, hb⟩

set_option maxRecDepth 20000 in
set_option maxHeartbeats 1000000 in
theorem order_fun {n m : Nat} (h : CfVSaid n m) (i i' : Int) (ks : List (Tm n)) (ls : List (Tm m)) (a a' : Option Addr) (cap cap' : Nat) (w : World) (hr : Rows2 n m ks ls a a' cap cap' w) :
    Calls Tryz.prog 117 #[.agg #[.int .i64 i, .slice a ks.length cap], .iface 110 (.agg #[.int .i64 i', .slice a' ls.length cap'])] w
      fun e w' => e = .returned (.int .i64 (funT (cntT (eachI (cmpT n m) ks ls 1 ks.length 0) ks.length ls.length) i i')) ∧ Below w.heap.size w w' := by
  have hb2 := below_two w
  by_cases hi : i = i'
  · have hi' : (i != i') = false := by simp [hi]
    have hc := hide (fun x y => counted_any h ks ls a a' cap cap' _ (hr.up (hb2 x y)))
    subst hi
    clear hr
    have hta := ta_fun
    go_enter Tryz.func117, Tryz.ntmps117
    go_wp2_with (go_at_call 120; refine ((unhide hc) _ _).mono ?_; rintro e w' ⟨rfl, hb⟩)
    go_ret
    exact ⟨ret_int (funT_same rfl).symm, (hb2 _ _).trans (hb.mono (by simp; omega))⟩
  · have hi' : (i != i') = true := by simpa using hi
    have HI := hide hi
    clear hi hr
    have hta := ta_fun
    go_enter Tryz.func117, Tryz.ntmps117
    go_wp2_with (go_at_call 78; refine (cmpInt_any _ _ _).mono ?_; rintro e w' ⟨rfl, rfl⟩)
    go_ret
    exact ⟨ret_int (funT_ne (unhide HI)).symm, hb2 _ _⟩

set_option maxRecDepth 20000 in
set_option maxHeartbeats 1000000 in
theorem order_map {n m : Nat} (h0 : CfP0Said n m) (h1 : CfP1Said n m) (ks : List (Tm n)) (ls : List (Tm m)) (a a' : Option Addr) (cap cap' : Nat) (w : World) (hr : Rows2 n m ks ls a a' cap cap' w) (he : ks.length % 2 = 0) (he' : ls.length % 2 = 0) :
    Calls Tryz.prog 133 #[.slice a (ks.length / 2) cap, .iface 114 (.slice a' (ls.length / 2) cap')] w
      fun e w' => e = .returned (.int .i64 (cntT (mapT (eachI (cmpT n m) ks ls 2 ks.length 0) (eachI (cmpT n m) ks ls 2 ks.length 1)) ks.length ls.length)) ∧ Below w.heap.size w w' := by
  have hc0 := h0 ks ls a a' cap cap' w hr.u hr.v hr.c1 hr.c2 hr.c3 hr.c4 he he' hr.r1 hr.r2
  have hc1 := hide (fun w1 hb => let hr1 := hr.up (w' := w1) hb; h1 ks ls a a' cap cap' w1 hr1.u hr1.v hr1.c1 hr1.c2 hr1.c3 hr1.c4 he he' hr1.r1 hr1.r2)
  by_cases hl : ks.length = ls.length
  · have hl2 : ks.length / 2 = ls.length / 2 := by rw [hl]
    have HL := hide hl
    have hq : ∀ e : Int, cfT e (ks.length / 2) (ls.length / 2) = e := fun e => cfT_same hl2
    rw [hq] at hc0
    obtain ⟨p, hp⟩ : ∃ p, p = ks.length / 2 := ⟨_, rfl⟩
    have hp' : p = ls.length / 2 := hp.trans hl2
    simp only [hq] at hc1
    rw [← hp, ← hp'] at hc0 ⊢
    simp only [← hp, ← hp'] at hc1
    have hpp : ((p : Int) != (p : Int)) = false := by simp
    have hps : p ≤ 2 ^ 47 := by have := hr.c1; have := hr.c2; omega
    clear hl hl2 hp hp' hq hr he he'
    by_cases hz : eachI (cmpT n m) ks ls 2 ks.length 0 = 0
    · rw [hz] at hc0
      have HC := hide hc0
      have HZ := hide hz
      clear hc0 hz
      have hta := ta_map
      go_enter Tryz.func133, Tryz.ntmps133
      go_wp2_with fail
      refine (unhide HC).mono ?_
      rintro e w1 ⟨rfl, hb⟩
      go_wp2_with fail
      refine ((unhide hc1) _ hb).mono ?_
      rintro e w2 ⟨rfl, hb2⟩
      go_wp2_with fail
      go_ret
      exact ⟨ret_int (by rw [cntT_same (unhide HL), mapT_zero (unhide HZ)]), hb.trans (hb2.mono hb.size)⟩
    · have HC := hide hc0
      have HZ := hide hz
      have hz2 : (eachI (cmpT n m) ks ls 2 ks.length 0 != 0) = true := by simpa using hz
      clear hc0 hz hc1
      have hta := ta_map
      go_enter Tryz.func133, Tryz.ntmps133
      go_wp2_with fail
      refine (unhide HC).mono ?_
      rintro e w1 ⟨rfl, hb⟩
      go_wp2_with fail
      go_ret
      exact ⟨ret_int (by rw [cntT_same (unhide HL), mapT_ne (unhide HZ)]), hb⟩
  · have HL := hide hl
    obtain ⟨p, hp⟩ : ∃ p, p = ks.length / 2 := ⟨_, rfl⟩
    obtain ⟨p', hp'⟩ : ∃ p, p = ls.length / 2 := ⟨_, rfl⟩
    rw [← hp, ← hp']
    have hpp : ((p : Int) != (p' : Int)) = true := by simpa using (by omega : ¬ (p : Int) = p')
    have hs : Hid (sgn p p' = sgn ks.length ls.length) := by
      show _ = _
      unfold sgn
      by_cases hlt : ks.length < ls.length
      · rw [if_pos (by omega), if_pos (by omega)]
      · rw [if_neg (by omega), if_pos (by omega), if_neg (by omega), if_pos (by omega)]
    clear hc0 hc1 hl hr he he' hp hp'
    have hta := ta_map
    go_enter Tryz.func133, Tryz.ntmps133
    go_wp2_with (go_at_call 78; refine (cmpInt_any _ _ _).mono ?_; rintro e w' ⟨rfl, rfl⟩)
    go_ret
    exact ⟨ret_int (by rw [cntT_ne (unhide HL), unhide hs]), Below.refl _ _⟩

end Go.Proofs.YtcgbonlffcpofaaGreatDoor
