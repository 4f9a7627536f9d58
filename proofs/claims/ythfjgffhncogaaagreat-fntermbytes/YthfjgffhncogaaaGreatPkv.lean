/- impl's pack of every value, by induction on the depth. -/
import Derived.Test.YthfjgffhncogaaaGreatQ23
import Derived.Test.YthfjgffhncogaaaGreatQ24
namespace Go.Proofs.YthfjgffhncogaaaGreat
open Go.RowKit Go.Deep

theorem pm_int (x : Value) (w : World) : (method 312 101 x "loop.example/g00019/impl.pack").run Tryz.prog w = .ok (162, x) w := by kernel_rfl
theorem pm_atom (x : Value) (w : World) : (method 312 100 x "loop.example/g00019/impl.pack").run Tryz.prog w = .ok (156, x) w := by kernel_rfl
theorem pm_ref (x : Value) (w : World) : (method 312 102 x "loop.example/g00019/impl.pack").run Tryz.prog w = .ok (183, x) w := by kernel_rfl
theorem pm_pid (x : Value) (w : World) : (method 312 103 x "loop.example/g00019/impl.pack").run Tryz.prog w = .ok (189, x) w := by kernel_rfl
theorem pm_bin (x : Value) (w : World) : (method 312 116 x "loop.example/g00019/impl.pack").run Tryz.prog w = .ok (220, x) w := by kernel_rfl
theorem pm_fun (x : Value) (w : World) : (method 312 108 x "loop.example/g00019/impl.pack").run Tryz.prog w = .ok (195, x) w := by kernel_rfl
theorem pm_tup (x : Value) (w : World) : (method 312 111 x "loop.example/g00019/impl.pack").run Tryz.prog w = .ok (203, x) w := by kernel_rfl
theorem pm_lst (x : Value) (w : World) : (method 312 115 x "loop.example/g00019/impl.pack").run Tryz.prog w = .ok (214, x) w := by kernel_rfl
theorem pm_map (x : Value) (w : World) : (method 312 113 x "loop.example/g00019/impl.pack").run Tryz.prog w = .ok (207, x) w := by kernel_rfl
theorem pc_int (x y : Value) (w : World) : (callFunc 162 #[x, y]).run Tryz.prog w = .ok (.enter 162 #[x, y]) w := by kernel_rfl
theorem pc_atom (x y : Value) (w : World) : (callFunc 156 #[x, y]).run Tryz.prog w = .ok (.enter 156 #[x, y]) w := by kernel_rfl
theorem pc_ref (x y : Value) (w : World) : (callFunc 183 #[x, y]).run Tryz.prog w = .ok (.enter 183 #[x, y]) w := by kernel_rfl
theorem pc_pid (x y : Value) (w : World) : (callFunc 189 #[x, y]).run Tryz.prog w = .ok (.enter 189 #[x, y]) w := by kernel_rfl
theorem pc_bin (x y : Value) (w : World) : (callFunc 220 #[x, y]).run Tryz.prog w = .ok (.enter 220 #[x, y]) w := by kernel_rfl
theorem pc_fun (x y : Value) (w : World) : (callFunc 195 #[x, y]).run Tryz.prog w = .ok (.enter 195 #[x, y]) w := by kernel_rfl
theorem pc_tup (x y : Value) (w : World) : (callFunc 203 #[x, y]).run Tryz.prog w = .ok (.enter 203 #[x, y]) w := by kernel_rfl
theorem pc_lst (x y : Value) (w : World) : (callFunc 214 #[x, y]).run Tryz.prog w = .ok (.enter 214 #[x, y]) w := by kernel_rfl
theorem pc_map (x y : Value) (w : World) : (callFunc 207 #[x, y]).run Tryz.prog w = .ok (.enter 207 #[x, y]) w := by kernel_rfl

theorem packT_eq {n : Nat} (k m : Int) (s : ByteArray) (ks : List (Tm n)) :
    packT (n + 1) (k, m, s, ks) = headL k m s ks.length (ks.all (smallB n)) ++ if k = 8 ∧ ks.all (smallB n) = true then ks.map (numT n) else packS ks := rfl
theorem packT_leaf {n : Nat} {k m : Int} {s : ByteArray} {ks : List (Tm n)} (h : ks.length = 0) (hk : k ≠ 8) : packT (n + 1) (k, m, s, ks) = headL k m s 0 true := by
  have hks : ks = [] := List.eq_nil_of_length_eq_zero h
  subst hks
  rw [packT_eq, if_neg (fun h => hk h.1)]
  simp [packS]
theorem packT_kids {n : Nat} {k m : Int} {s : ByteArray} {ks : List (Tm n)} (hk : k ≠ 8) : packT (n + 1) (k, m, s, ks) = headL k m s ks.length (ks.all (smallB n)) ++ packS ks := by
  rw [packT_eq, if_neg (fun h => hk h.1)]
theorem packT_list {n : Nat} {m : Int} {s : ByteArray} {ks : List (Tm n)} : packT (n + 1) (8, m, s, ks) = lstL ks.length (ks.all (smallB n)) ++ lstS ks := by
  have h : headL 8 m s ks.length (ks.all (smallB n)) = lstL ks.length (ks.all (smallB n)) := by
    unfold headL lstL
    rw [if_neg (by decide), if_neg (by decide), if_neg (by decide), if_neg (by decide), if_neg (by decide), if_neg (by decide), if_neg (by decide), if_neg (by decide)]
  rw [packT_eq, h]
  unfold lstS
  by_cases hs : ks.all (smallB n) = true
  · rw [if_pos ⟨rfl, hs⟩, if_pos hs]
  · rw [if_neg (fun h => hs h.2), if_neg hs]

theorem siz_kid {n : Nat} {k m : Int} {s : ByteArray} {ks : List (Tm n)} (h : siz (n + 1) (k, m, s, ks) ≤ 2000) : ks.length ≤ 2000 ∧ ∀ t ∈ ks, siz n t ≤ 2000 := by
  have h' : 1 + sizS ks ≤ 2000 := h
  have hl := sizS_len ks ks.length (Nat.le_refl _)
  rw [List.take_length] at hl
  refine ⟨by omega, fun t ht => ?_⟩
  obtain ⟨i, hi, rfl⟩ := List.getElem_of_mem ht
  have h1 := sizS_take ks i hi
  have h2 := sizS_le ks (i + 1)
  omega

theorem pv_of {n : Nat} (h : PackV n) : PackV (n + 1) := by
  rintro ⟨k, m, s, ks⟩ v K b most xs w ⟨hm, hs, hv⟩ hr hz hW hmost
  obtain ⟨hf, hall⟩ := right_parts hr
  obtain ⟨hlen, hkz⟩ := siz_kid hz
  rcases hv with ⟨rfl, rfl⟩ | ⟨rfl, rfl⟩ | ⟨rfl, rfl⟩ | ⟨rfl, rfl⟩ | ⟨rfl, rfl⟩ | ⟨a, cap, hK, hc1, hc2, hv⟩
  · rw [fit_1] at hf
    simp only [Bool.and_eq_true, decide_eq_true_eq] at hf
    rw [packT_leaf hf.2 (by decide)]
    refine ⟨_, _, _, rfl, pm_int _, pc_int _, ?_⟩
    exact pack_int K b most xs w m hW hmost hf.1.1.1 hf.1.1.2
  · rw [fit_2] at hf
    simp only [Bool.and_eq_true, decide_eq_true_eq] at hf
    rw [packT_leaf hf.2 (by decide)]
    exact ⟨_, _, _, rfl, pm_atom _, pc_atom _, pack_atom K b most xs w s hW hmost hs⟩
  · rw [fit_3] at hf
    simp only [Bool.and_eq_true, decide_eq_true_eq] at hf
    rw [packT_leaf hf.2 (by decide)]
    exact ⟨_, _, _, rfl, pm_ref _, pc_ref _, pack_ref K b most xs w m hW hmost⟩
  · rw [fit_5] at hf
    simp only [Bool.and_eq_true, decide_eq_true_eq] at hf
    rw [packT_leaf hf.2 (by decide)]
    exact ⟨_, _, _, rfl, pm_pid _, pc_pid _, pack_pid K b most xs w m hW hmost⟩
  · rw [fit_9] at hf
    simp only [Bool.and_eq_true, decide_eq_true_eq] at hf
    rw [packT_leaf hf.2 (by decide)]
    exact ⟨_, _, _, rfl, pm_bin _, pc_bin _, pack_bin K b most xs w s hW hmost hs⟩
  · rcases hv with ⟨rfl, rfl⟩ | ⟨rfl, rfl⟩ | ⟨rfl, rfl⟩ | ⟨rfl, rfl⟩
    · rw [packT_kids (by decide)]
      exact ⟨_, _, _, rfl, pm_fun _, pc_fun _, pack_fun K b most xs w h m ks a cap hK hall hkz (by omega) hW hmost⟩
    · rw [packT_kids (by decide)]
      exact ⟨_, _, _, rfl, pm_tup _, pc_tup _, pack_tup K b most xs w h ks a cap hK hall hkz (by omega) hW hmost⟩
    · rw [packT_list]
      exact ⟨_, _, _, rfl, pm_lst _, pc_lst _, pack_lst K b most xs w h ks a cap hK hall hkz (by omega) hW hmost⟩
    · obtain ⟨p, hp⟩ := fit_even hf
      have hp2 : ks.length / 2 = p := by omega
      rw [packT_kids (by decide), hp2]
      have hh : headL 7 m s ks.length (ks.all (smallB n)) = 116 :: beL p 2 := by
        unfold headL
        rw [if_neg (by decide), if_neg (by decide), if_neg (by decide), if_neg (by decide), if_neg (by decide), if_neg (by decide), if_pos rfl, hp2]
      rw [hh]
      exact ⟨_, _, _, rfl, pm_map _, pc_map _, pack_map K b most xs w h ks p a cap hp hK hall hkz (by omega) hW hmost⟩

theorem pv_any : ∀ n, PackV n
  | 0 => fun t => t.elim
  | n + 1 => pv_of (pv_any n)

end Go.Proofs.YthfjgffhncogaaaGreat
