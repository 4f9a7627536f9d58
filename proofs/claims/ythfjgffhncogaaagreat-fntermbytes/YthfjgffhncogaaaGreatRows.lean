/-
  NARROWER THAN 'FOR EVERY INPUT', by the rows' own cells (each row's printed sentence says how): FnExactTermShow: loops.
  DERIVED. THE GIVEN ROWS OF THIS SEAT. 5 by the template 'for every input the law returns true; each argument reads behind the call as it read before'; 0 by the template 'total and deterministic' (their statements: YthfjgffhncogaaaGreatTotals.lean).
  GIVEN WITH THE SEED: the statements are not yours to turn. If you find one false, say at which input.
  Laid BY PROGRAM, IN A SANDBOX (cutbox-rows.mjs): the forced cells as the released guide's own fill.sh prints them over the translation c28aaa2b3cccf7e9… (all of the seat's roots in one cut). By AI agents, Wed Nov 11 2026. No macro, syntax, notation, axiom, sorry.
-/
import Derived.Test.YthfjgffhncogaaaGreatChecked
import GoSem.Claim
import GoSem.ClaimJoined
import GoSem.ClaimMapViews
import Derived.JoinedTies
import Derived.KernelRfl
namespace Go.Proofs.YthfjgffhncogaaaGreat
/- THE CELL 'sum', in the pinned program and in every row, IS THE sha256 OF THE DUMP (.gsa) THAT YthfjgffhncogaaaGreatProg.lean LOADS. Nothing in Lean hashes anything: it is a label: what it is worth is what the hold of that sum in a sandbox is worth. -/
noncomputable def Tryz.pinned : Pinned := { name := "ythfjgffhncogaaagreat", sum := "c28aaa2b3cccf7e9609d34ea536666876e74ba5c6f1b128678530bd721587c22", checked := Tryz.checked }
namespace Rows
def none {H : Type} : Left H := { results := [], args := [] }

/-- 'laws.FnTermText': WHATEVER THE INPUT: true; the input reads as it did. -/
def fnTermTextSpec : ChangeSpec := { name := "fnTermText", fn := fun _ => fun
  | [d] => { results := [.lit (.bool true)], args := [d] }
  | _ => none }
def fnTermTextRow : OpenClaim := { program := "ythfjgffhncogaaagreat", sum := "c28aaa2b3cccf7e9609d34ea536666876e74ba5c6f1b128678530bd721587c22", func := "loop.example/g00019/laws.FnTermText", spec := "fnTermText", unfollowed := true, recurses := true, apart := false }
def FnTermTextSaid : Prop := fnTermTextRow.holds Tryz.pinned (OpenSpec.ofChange fnTermTextSpec)

/-- ITS FALSE NEIGHBOUR: 'it returns false'. Refute it at one input. -/
def fnTermTextWrong : ChangeSpec := { name := "fnTermText", fn := fun _ => fun
  | [d] => { results := [.lit (.bool false)], args := [d] }
  | _ => none }
def FnTermTextWrongFalsely : Prop := fnTermTextRow.holds Tryz.pinned (OpenSpec.ofChange fnTermTextWrong)

/-- 'laws.FnTermBytes': WHATEVER THE INPUT: true; the input reads as it did. -/
def fnTermBytesSpec : ChangeSpec := { name := "fnTermBytes", fn := fun _ => fun
  | [d] => { results := [.lit (.bool true)], args := [d] }
  | _ => none }
def fnTermBytesRow : OpenClaim := { program := "ythfjgffhncogaaagreat", sum := "c28aaa2b3cccf7e9609d34ea536666876e74ba5c6f1b128678530bd721587c22", func := "loop.example/g00019/laws.FnTermBytes", spec := "fnTermBytes", unfollowed := true, recurses := true, apart := false }
def FnTermBytesSaid : Prop := fnTermBytesRow.holds Tryz.pinned (OpenSpec.ofChange fnTermBytesSpec)

/-- ITS FALSE NEIGHBOUR: 'it returns false'. Refute it at one input. -/
def fnTermBytesWrong : ChangeSpec := { name := "fnTermBytes", fn := fun _ => fun
  | [d] => { results := [.lit (.bool false)], args := [d] }
  | _ => none }
def FnTermBytesWrongFalsely : Prop := fnTermBytesRow.holds Tryz.pinned (OpenSpec.ofChange fnTermBytesWrong)

/-- 'laws.FnExactTermShow': WHATEVER THE INPUT: true; the input reads as it did. -/
def fnExactTermShowSpec : ChangeSpec := { name := "fnExactTermShow", fn := fun _ => fun
  | [d] => { results := [.lit (.bool true)], args := [d] }
  | _ => none }
def fnExactTermShowRow : OpenClaim := { program := "ythfjgffhncogaaagreat", sum := "c28aaa2b3cccf7e9609d34ea536666876e74ba5c6f1b128678530bd721587c22", func := "loop.example/g00019/laws.FnExactTermShow", spec := "fnExactTermShow", unfollowed := true, recurses := true, loops := true, apart := false }
def FnExactTermShowSaid : Prop := fnExactTermShowRow.holds Tryz.pinned (OpenSpec.ofChange fnExactTermShowSpec)

/-- ITS FALSE NEIGHBOUR: 'it returns false'. Refute it at one input. -/
def fnExactTermShowWrong : ChangeSpec := { name := "fnExactTermShow", fn := fun _ => fun
  | [d] => { results := [.lit (.bool false)], args := [d] }
  | _ => none }
def FnExactTermShowWrongFalsely : Prop := fnExactTermShowRow.holds Tryz.pinned (OpenSpec.ofChange fnExactTermShowWrong)

/-- 'laws.FnExactTermRead': WHATEVER THE INPUT: true; the input reads as it did. -/
def fnExactTermReadSpec : ChangeSpec := { name := "fnExactTermRead", fn := fun _ => fun
  | [d] => { results := [.lit (.bool true)], args := [d] }
  | _ => none }
def fnExactTermReadRow : OpenClaim := { program := "ythfjgffhncogaaagreat", sum := "c28aaa2b3cccf7e9609d34ea536666876e74ba5c6f1b128678530bd721587c22", func := "loop.example/g00019/laws.FnExactTermRead", spec := "fnExactTermRead", unfollowed := true, recurses := true, apart := false }
def FnExactTermReadSaid : Prop := fnExactTermReadRow.holds Tryz.pinned (OpenSpec.ofChange fnExactTermReadSpec)

/-- ITS FALSE NEIGHBOUR: 'it returns false'. Refute it at one input. -/
def fnExactTermReadWrong : ChangeSpec := { name := "fnExactTermRead", fn := fun _ => fun
  | [d] => { results := [.lit (.bool false)], args := [d] }
  | _ => none }
def FnExactTermReadWrongFalsely : Prop := fnExactTermReadRow.holds Tryz.pinned (OpenSpec.ofChange fnExactTermReadWrong)

/-- 'laws.FnExactTermUnpack': WHATEVER THE INPUT: true; the input reads as it did. -/
def fnExactTermUnpackSpec : ChangeSpec := { name := "fnExactTermUnpack", fn := fun _ => fun
  | [d] => { results := [.lit (.bool true)], args := [d] }
  | _ => none }
def fnExactTermUnpackRow : OpenClaim := { program := "ythfjgffhncogaaagreat", sum := "c28aaa2b3cccf7e9609d34ea536666876e74ba5c6f1b128678530bd721587c22", func := "loop.example/g00019/laws.FnExactTermUnpack", spec := "fnExactTermUnpack", unfollowed := true, recurses := true, apart := false }
def FnExactTermUnpackSaid : Prop := fnExactTermUnpackRow.holds Tryz.pinned (OpenSpec.ofChange fnExactTermUnpackSpec)

/-- ITS FALSE NEIGHBOUR: 'it returns false'. Refute it at one input. -/
def fnExactTermUnpackWrong : ChangeSpec := { name := "fnExactTermUnpack", fn := fun _ => fun
  | [d] => { results := [.lit (.bool false)], args := [d] }
  | _ => none }
def FnExactTermUnpackWrongFalsely : Prop := fnExactTermUnpackRow.holds Tryz.pinned (OpenSpec.ofChange fnExactTermUnpackWrong)

/- THE SECOND FORM. 'bulk': how many values and letters a reading holds, each counted each time it is reached (what is shared counts as often as it is met; a slice's spare places count too). A statement '..UptoSaid' is the law's where the arguments, and the package variables that the reading takes, are together of bulk at most 1048576: NARROWER than '..Said'. Prove '..Said' where nothing that the law and all that it calls make is longer than what came in: it says more and counts as full. Else prove '..UptoSaid'. A law counts once. -/
mutual
def uptoBulk {H : Type} : DataW H → Nat
  | .lit (.string bytes) => bytes.length + 1
  | .lit _ => 1
  | .nil => 1
  | .ptr d => uptoBulk d + 1
  | .slice elems spare => uptoBulkAll elems + uptoBulkAll spare + 1
  | .agg parts => uptoBulkAll parts + 1
  | .iface _ d => uptoBulk d + 1
  | .map entries => uptoBulkEntries entries + 1
  | .held _ => 1
def uptoBulkAll {H : Type} : List (DataW H) → Nat
  | [] => 0
  | d :: r => uptoBulk d + uptoBulkAll r
def uptoBulkEntries {H : Type} : List (Lit × DataW H) → Nat
  | [] => 0
  | x :: r => uptoBulkEntry x + uptoBulkEntries r
def uptoBulkEntry {H : Type} : Lit × DataW H → Nat
  | (.string bytes, d) => bytes.length + uptoBulk d + 1
  | (_, d) => uptoBulk d + 1
 end
def uptoSmall : (H : Type) → List (DataW H) → Bool := fun _ ds => decide (uptoBulkAll ds ≤ 1048576)
def OpenSpec.upto (s : _root_.Go.ChangeSpec) : _root_.Go.OpenSpec := { _root_.Go.OpenSpec.ofChange s with cond := some uptoSmall }

/-- 'laws.FnTermText', WHERE WHAT IT READS IS OF BULK AT MOST 1048576: true; the input reads as it did. -/
def fnTermTextUptoRow : OpenClaim := { program := "ythfjgffhncogaaagreat", sum := "c28aaa2b3cccf7e9609d34ea536666876e74ba5c6f1b128678530bd721587c22", func := "loop.example/g00019/laws.FnTermText", spec := "fnTermText", unfollowed := true, recurses := true, apart := false, narrowed := true }
def FnTermTextUptoSaid : Prop := fnTermTextUptoRow.holds Tryz.pinned (OpenSpec.upto fnTermTextSpec)

/-- 'laws.FnTermBytes', WHERE WHAT IT READS IS OF BULK AT MOST 1048576: true; the input reads as it did. -/
def fnTermBytesUptoRow : OpenClaim := { program := "ythfjgffhncogaaagreat", sum := "c28aaa2b3cccf7e9609d34ea536666876e74ba5c6f1b128678530bd721587c22", func := "loop.example/g00019/laws.FnTermBytes", spec := "fnTermBytes", unfollowed := true, recurses := true, apart := false, narrowed := true }
def FnTermBytesUptoSaid : Prop := fnTermBytesUptoRow.holds Tryz.pinned (OpenSpec.upto fnTermBytesSpec)

/-- 'laws.FnExactTermShow', WHERE WHAT IT READS IS OF BULK AT MOST 1048576: true; the input reads as it did. -/
def fnExactTermShowUptoRow : OpenClaim := { program := "ythfjgffhncogaaagreat", sum := "c28aaa2b3cccf7e9609d34ea536666876e74ba5c6f1b128678530bd721587c22", func := "loop.example/g00019/laws.FnExactTermShow", spec := "fnExactTermShow", unfollowed := true, recurses := true, loops := true, apart := false, narrowed := true }
def FnExactTermShowUptoSaid : Prop := fnExactTermShowUptoRow.holds Tryz.pinned (OpenSpec.upto fnExactTermShowSpec)

/-- 'laws.FnExactTermRead', WHERE WHAT IT READS IS OF BULK AT MOST 1048576: true; the input reads as it did. -/
def fnExactTermReadUptoRow : OpenClaim := { program := "ythfjgffhncogaaagreat", sum := "c28aaa2b3cccf7e9609d34ea536666876e74ba5c6f1b128678530bd721587c22", func := "loop.example/g00019/laws.FnExactTermRead", spec := "fnExactTermRead", unfollowed := true, recurses := true, apart := false, narrowed := true }
def FnExactTermReadUptoSaid : Prop := fnExactTermReadUptoRow.holds Tryz.pinned (OpenSpec.upto fnExactTermReadSpec)

/-- 'laws.FnExactTermUnpack', WHERE WHAT IT READS IS OF BULK AT MOST 1048576: true; the input reads as it did. -/
def fnExactTermUnpackUptoRow : OpenClaim := { program := "ythfjgffhncogaaagreat", sum := "c28aaa2b3cccf7e9609d34ea536666876e74ba5c6f1b128678530bd721587c22", func := "loop.example/g00019/laws.FnExactTermUnpack", spec := "fnExactTermUnpack", unfollowed := true, recurses := true, apart := false, narrowed := true }
def FnExactTermUnpackUptoSaid : Prop := fnExactTermUnpackUptoRow.holds Tryz.pinned (OpenSpec.upto fnExactTermUnpackSpec)

end Rows
end Go.Proofs.YthfjgffhncogaaaGreat
