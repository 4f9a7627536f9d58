/-
  NARROWER THAN 'FOR EVERY INPUT', by the rows' own cells (each row's printed sentence says how): FnExactBitsOK: laid · FnExactBitsJoin: laid · FnExactBitsCut: laid · FnExactBitPut: laid · FnExactBitGet: laid.
  DERIVED. THE GIVEN ROWS OF THIS SEAT. 5 by the template 'for every input the law returns true; each argument reads behind the call as it read before'; 0 by the template 'total and deterministic' (their statements: YtbljelopgalkgaaDoorTotals.lean).
  GIVEN WITH THE SEED: the statements are not yours to turn. If you find one false, say at which input.
  Laid BY PROGRAM, IN A SANDBOX (cutbox-rows.mjs): the forced cells as the released guide's own fill.sh prints them over the translation 8c83dcaa7370a7d8… (all of the seat's roots in one cut). By AI agents, Wed Nov 11 2026. No macro, syntax, notation, axiom, sorry.
-/
import Derived.Test.YtbljelopgalkgaaDoorChecked
import GoSem.Claim
import GoSem.ClaimJoined
import GoSem.ClaimMapViews
import Derived.JoinedTies
import Derived.KernelRfl
namespace Go.Proofs.YtbljelopgalkgaaDoor
/- THE CELL 'sum', in the pinned program and in every row, IS THE sha256 OF THE DUMP (.gsa) THAT YtbljelopgalkgaaDoorProg.lean LOADS. Nothing in Lean hashes anything: it is a label: what it is worth is what the hold of that sum in a sandbox is worth. -/
noncomputable def Tryd.pinned : Pinned := { name := "ytbljelopgalkgaadoor", sum := "8c83dcaa7370a7d872f9e3ff75e29ae0dcae676b0e34c8a8b72890dce9182ce1", checked := Tryd.checked }
namespace Rows
def none {H : Type} : Left H := { results := [], args := [] }

/- WHAT THE LISTED PACKAGE-LEVEL VARIABLES READ AS WHEN THE CALL BEGINS. Each datum BY PROGRAM (the guide's laid-datum.mjs) off the statement by which the dump's own 'gosem.cut.vars' lays the variable. In a bare row this is a premise. The card (YtbljelopgalkgaaDoorCards.lean) ties it to the program's text. -/
def laid_loop_example_g00019_impl_bitMasks {H : Type} : DataW H := .agg [.lit (.int .u8 128), .lit (.int .u8 64), .lit (.int .u8 32), .lit (.int .u8 16), .lit (.int .u8 8), .lit (.int .u8 4), .lit (.int .u8 2), .lit (.int .u8 1)]

/-- 'laws.FnExactBitsOK': WHATEVER THE INPUT: true; the input reads as it did. -/
def fnExactBitsOKSpec : ChangeSpec := { name := "fnExactBitsOK", vars := ["loop.example/g00019/impl.bitMasks"], fn := fun _ => fun
  | [d, g1] => { results := [.lit (.bool true)], args := [d], vars := [g1] }
  | _ => none }
def fnExactBitsOKRow : OpenClaim := { program := "ytbljelopgalkgaadoor", sum := "8c83dcaa7370a7d872f9e3ff75e29ae0dcae676b0e34c8a8b72890dce9182ce1", func := "loop.example/g00019/laws.FnExactBitsOK", spec := "fnExactBitsOK", named := ["loop.example/g00019/impl.bitMasks"], apart := false, laid := [("loop.example/g00019/impl.bitMasks", laid_loop_example_g00019_impl_bitMasks)] }
def FnExactBitsOKSaid : Prop := fnExactBitsOKRow.holds Tryd.pinned (OpenSpec.ofChange fnExactBitsOKSpec)

/-- ITS FALSE NEIGHBOUR: 'it returns false'. Refute it at one input. -/
def fnExactBitsOKWrong : ChangeSpec := { name := "fnExactBitsOK", vars := ["loop.example/g00019/impl.bitMasks"], fn := fun _ => fun
  | [d, g1] => { results := [.lit (.bool false)], args := [d], vars := [g1] }
  | _ => none }
def FnExactBitsOKWrongFalsely : Prop := fnExactBitsOKRow.holds Tryd.pinned (OpenSpec.ofChange fnExactBitsOKWrong)

/-- 'laws.FnExactBitsJoin': WHATEVER THE INPUT: true; the input reads as it did. -/
def fnExactBitsJoinSpec : ChangeSpec := { name := "fnExactBitsJoin", vars := ["loop.example/g00019/impl.bitMasks"], fn := fun _ => fun
  | [d1, d2, g1] => { results := [.lit (.bool true)], args := [d1, d2], vars := [g1] }
  | _ => none }
def fnExactBitsJoinRow : OpenClaim := { program := "ytbljelopgalkgaadoor", sum := "8c83dcaa7370a7d872f9e3ff75e29ae0dcae676b0e34c8a8b72890dce9182ce1", func := "loop.example/g00019/laws.FnExactBitsJoin", spec := "fnExactBitsJoin", named := ["loop.example/g00019/impl.bitMasks"], apart := false, laid := [("loop.example/g00019/impl.bitMasks", laid_loop_example_g00019_impl_bitMasks)] }
def FnExactBitsJoinSaid : Prop := fnExactBitsJoinRow.holds Tryd.pinned (OpenSpec.ofChange fnExactBitsJoinSpec)

/-- ITS FALSE NEIGHBOUR: 'it returns false'. Refute it at one input. -/
def fnExactBitsJoinWrong : ChangeSpec := { name := "fnExactBitsJoin", vars := ["loop.example/g00019/impl.bitMasks"], fn := fun _ => fun
  | [d1, d2, g1] => { results := [.lit (.bool false)], args := [d1, d2], vars := [g1] }
  | _ => none }
def FnExactBitsJoinWrongFalsely : Prop := fnExactBitsJoinRow.holds Tryd.pinned (OpenSpec.ofChange fnExactBitsJoinWrong)

/-- 'laws.FnExactBitsCut': WHATEVER THE INPUT: true; the input reads as it did. -/
def fnExactBitsCutSpec : ChangeSpec := { name := "fnExactBitsCut", vars := ["loop.example/g00019/impl.bitMasks"], fn := fun _ => fun
  | [d1, d2, d3, g1] => { results := [.lit (.bool true)], args := [d1, d2, d3], vars := [g1] }
  | _ => none }
def fnExactBitsCutRow : OpenClaim := { program := "ytbljelopgalkgaadoor", sum := "8c83dcaa7370a7d872f9e3ff75e29ae0dcae676b0e34c8a8b72890dce9182ce1", func := "loop.example/g00019/laws.FnExactBitsCut", spec := "fnExactBitsCut", named := ["loop.example/g00019/impl.bitMasks"], apart := false, laid := [("loop.example/g00019/impl.bitMasks", laid_loop_example_g00019_impl_bitMasks)] }
def FnExactBitsCutSaid : Prop := fnExactBitsCutRow.holds Tryd.pinned (OpenSpec.ofChange fnExactBitsCutSpec)

/-- ITS FALSE NEIGHBOUR: 'it returns false'. Refute it at one input. -/
def fnExactBitsCutWrong : ChangeSpec := { name := "fnExactBitsCut", vars := ["loop.example/g00019/impl.bitMasks"], fn := fun _ => fun
  | [d1, d2, d3, g1] => { results := [.lit (.bool false)], args := [d1, d2, d3], vars := [g1] }
  | _ => none }
def FnExactBitsCutWrongFalsely : Prop := fnExactBitsCutRow.holds Tryd.pinned (OpenSpec.ofChange fnExactBitsCutWrong)

/-- 'laws.FnExactBitPut': WHATEVER THE INPUT: true; the input reads as it did. -/
def fnExactBitPutSpec : ChangeSpec := { name := "fnExactBitPut", vars := ["loop.example/g00019/impl.bitMasks"], fn := fun _ => fun
  | [d1, d2, d3, g1] => { results := [.lit (.bool true)], args := [d1, d2, d3], vars := [g1] }
  | _ => none }
def fnExactBitPutRow : OpenClaim := { program := "ytbljelopgalkgaadoor", sum := "8c83dcaa7370a7d872f9e3ff75e29ae0dcae676b0e34c8a8b72890dce9182ce1", func := "loop.example/g00019/laws.FnExactBitPut", spec := "fnExactBitPut", named := ["loop.example/g00019/impl.bitMasks"], apart := false, laid := [("loop.example/g00019/impl.bitMasks", laid_loop_example_g00019_impl_bitMasks)] }
def FnExactBitPutSaid : Prop := fnExactBitPutRow.holds Tryd.pinned (OpenSpec.ofChange fnExactBitPutSpec)

/-- ITS FALSE NEIGHBOUR: 'it returns false'. Refute it at one input. -/
def fnExactBitPutWrong : ChangeSpec := { name := "fnExactBitPut", vars := ["loop.example/g00019/impl.bitMasks"], fn := fun _ => fun
  | [d1, d2, d3, g1] => { results := [.lit (.bool false)], args := [d1, d2, d3], vars := [g1] }
  | _ => none }
def FnExactBitPutWrongFalsely : Prop := fnExactBitPutRow.holds Tryd.pinned (OpenSpec.ofChange fnExactBitPutWrong)

/-- 'laws.FnExactBitGet': WHATEVER THE INPUT: true; the input reads as it did. -/
def fnExactBitGetSpec : ChangeSpec := { name := "fnExactBitGet", vars := ["loop.example/g00019/impl.bitMasks"], fn := fun _ => fun
  | [d1, d2, d3, d4, d5, g1] => { results := [.lit (.bool true)], args := [d1, d2, d3, d4, d5], vars := [g1] }
  | _ => none }
def fnExactBitGetRow : OpenClaim := { program := "ytbljelopgalkgaadoor", sum := "8c83dcaa7370a7d872f9e3ff75e29ae0dcae676b0e34c8a8b72890dce9182ce1", func := "loop.example/g00019/laws.FnExactBitGet", spec := "fnExactBitGet", recurses := true, named := ["loop.example/g00019/impl.bitMasks"], apart := false, laid := [("loop.example/g00019/impl.bitMasks", laid_loop_example_g00019_impl_bitMasks)] }
def FnExactBitGetSaid : Prop := fnExactBitGetRow.holds Tryd.pinned (OpenSpec.ofChange fnExactBitGetSpec)

/-- ITS FALSE NEIGHBOUR: 'it returns false'. Refute it at one input. -/
def fnExactBitGetWrong : ChangeSpec := { name := "fnExactBitGet", vars := ["loop.example/g00019/impl.bitMasks"], fn := fun _ => fun
  | [d1, d2, d3, d4, d5, g1] => { results := [.lit (.bool false)], args := [d1, d2, d3, d4, d5], vars := [g1] }
  | _ => none }
def FnExactBitGetWrongFalsely : Prop := fnExactBitGetRow.holds Tryd.pinned (OpenSpec.ofChange fnExactBitGetWrong)

/- THE SECOND FORM. 'bulk': how many values and letters a reading holds, each counted each time it is reached (what is shared counts as often as it is met; a slice's spare places count too). A statement '..UptoSaid' is the law's where the arguments, and the package variables that the reading takes, are together of bulk at most 1048576: NARROWER than '..Said'. Prove '..Said' where nothing that the law and all that it calls make is longer than what came in: it says more and counts as full. Else prove '..UptoSaid'. A law counts once. -/
mutual
def uptoBulk {H : Type} : DataW H → Nat
  | .lit (.string bytes) => bytes.length + 1
  | .lit _ => 1
  | .nil => 1
  | .ptr d => uptoBulk d + 1
  | .slice elems spare => uptoBulkAll elems + uptoBulkAll spare + 1
  | .agg parts => uptoBulkAll parts + 1
  | .iface _ d => uptoBulk d + 1
  | .map entries => uptoBulkEntries entries + 1
  | .held _ => 1
def uptoBulkAll {H : Type} : List (DataW H) → Nat
  | [] => 0
  | d :: r => uptoBulk d + uptoBulkAll r
def uptoBulkEntries {H : Type} : List (Lit × DataW H) → Nat
  | [] => 0
  | x :: r => uptoBulkEntry x + uptoBulkEntries r
def uptoBulkEntry {H : Type} : Lit × DataW H → Nat
  | (.string bytes, d) => bytes.length + uptoBulk d + 1
  | (_, d) => uptoBulk d + 1
 end
def uptoSmall : (H : Type) → List (DataW H) → Bool := fun _ ds => decide (uptoBulkAll ds ≤ 1048576)
def OpenSpec.upto (s : _root_.Go.ChangeSpec) : _root_.Go.OpenSpec := { _root_.Go.OpenSpec.ofChange s with cond := some uptoSmall }

/-- 'laws.FnExactBitsOK', WHERE WHAT IT READS IS OF BULK AT MOST 1048576: true; the input reads as it did. -/
def fnExactBitsOKUptoRow : OpenClaim := { program := "ytbljelopgalkgaadoor", sum := "8c83dcaa7370a7d872f9e3ff75e29ae0dcae676b0e34c8a8b72890dce9182ce1", func := "loop.example/g00019/laws.FnExactBitsOK", spec := "fnExactBitsOK", named := ["loop.example/g00019/impl.bitMasks"], apart := false, laid := [("loop.example/g00019/impl.bitMasks", laid_loop_example_g00019_impl_bitMasks)], narrowed := true }
def FnExactBitsOKUptoSaid : Prop := fnExactBitsOKUptoRow.holds Tryd.pinned (OpenSpec.upto fnExactBitsOKSpec)

/-- 'laws.FnExactBitsJoin', WHERE WHAT IT READS IS OF BULK AT MOST 1048576: true; the input reads as it did. -/
def fnExactBitsJoinUptoRow : OpenClaim := { program := "ytbljelopgalkgaadoor", sum := "8c83dcaa7370a7d872f9e3ff75e29ae0dcae676b0e34c8a8b72890dce9182ce1", func := "loop.example/g00019/laws.FnExactBitsJoin", spec := "fnExactBitsJoin", named := ["loop.example/g00019/impl.bitMasks"], apart := false, laid := [("loop.example/g00019/impl.bitMasks", laid_loop_example_g00019_impl_bitMasks)], narrowed := true }
def FnExactBitsJoinUptoSaid : Prop := fnExactBitsJoinUptoRow.holds Tryd.pinned (OpenSpec.upto fnExactBitsJoinSpec)

/-- 'laws.FnExactBitsCut', WHERE WHAT IT READS IS OF BULK AT MOST 1048576: true; the input reads as it did. -/
def fnExactBitsCutUptoRow : OpenClaim := { program := "ytbljelopgalkgaadoor", sum := "8c83dcaa7370a7d872f9e3ff75e29ae0dcae676b0e34c8a8b72890dce9182ce1", func := "loop.example/g00019/laws.FnExactBitsCut", spec := "fnExactBitsCut", named := ["loop.example/g00019/impl.bitMasks"], apart := false, laid := [("loop.example/g00019/impl.bitMasks", laid_loop_example_g00019_impl_bitMasks)], narrowed := true }
def FnExactBitsCutUptoSaid : Prop := fnExactBitsCutUptoRow.holds Tryd.pinned (OpenSpec.upto fnExactBitsCutSpec)

/-- 'laws.FnExactBitPut', WHERE WHAT IT READS IS OF BULK AT MOST 1048576: true; the input reads as it did. -/
def fnExactBitPutUptoRow : OpenClaim := { program := "ytbljelopgalkgaadoor", sum := "8c83dcaa7370a7d872f9e3ff75e29ae0dcae676b0e34c8a8b72890dce9182ce1", func := "loop.example/g00019/laws.FnExactBitPut", spec := "fnExactBitPut", named := ["loop.example/g00019/impl.bitMasks"], apart := false, laid := [("loop.example/g00019/impl.bitMasks", laid_loop_example_g00019_impl_bitMasks)], narrowed := true }
def FnExactBitPutUptoSaid : Prop := fnExactBitPutUptoRow.holds Tryd.pinned (OpenSpec.upto fnExactBitPutSpec)

/-- 'laws.FnExactBitGet', WHERE WHAT IT READS IS OF BULK AT MOST 1048576: true; the input reads as it did. -/
def fnExactBitGetUptoRow : OpenClaim := { program := "ytbljelopgalkgaadoor", sum := "8c83dcaa7370a7d872f9e3ff75e29ae0dcae676b0e34c8a8b72890dce9182ce1", func := "loop.example/g00019/laws.FnExactBitGet", spec := "fnExactBitGet", recurses := true, named := ["loop.example/g00019/impl.bitMasks"], apart := false, laid := [("loop.example/g00019/impl.bitMasks", laid_loop_example_g00019_impl_bitMasks)], narrowed := true }
def FnExactBitGetUptoSaid : Prop := fnExactBitGetUptoRow.holds Tryd.pinned (OpenSpec.upto fnExactBitGetSpec)

end Rows
end Go.Proofs.YtbljelopgalkgaaDoor
