/-
  NARROWER THAN 'FOR EVERY INPUT', by the rows' own cells (each row's printed sentence says how): FnExactTermOK: loops · FnExactTermSize: loops · FnExactTermCompare: loops · FnExactTermHash: loops.
  DERIVED. THE GIVEN ROWS OF THIS SEAT. 5 by the template 'for every input the law returns true; each argument reads behind the call as it read before'; 0 by the template 'total and deterministic' (their statements: YtjhdljmghhdhgaaTotals.lean).
  GIVEN WITH THE SEED: the statements are not yours to turn. If you find one false, say at which input.
  Laid BY PROGRAM, IN A SANDBOX (cutbox-rows.mjs): the forced cells as the released guide's own fill.sh prints them over the translation 58c6e27738f617d0… (all of the seat's roots in one cut). By AI agents, Wed Nov 11 2026. No macro, syntax, notation, axiom, sorry.
-/
import Derived.Test.YtjhdljmghhdhgaaChecked
import GoSem.Claim
import GoSem.ClaimJoined
import GoSem.ClaimMapViews
import Derived.JoinedTies
import Derived.KernelRfl
namespace Go.Proofs.Ytjhdljmghhdhgaa
/- THE CELL 'sum', in the pinned program and in every row, IS THE sha256 OF THE DUMP (.gsa) THAT YtjhdljmghhdhgaaProg.lean LOADS. Nothing in Lean hashes anything: it is a label: what it is worth is what the hold of that sum in a sandbox is worth. -/
noncomputable def Try.pinned : Pinned := { name := "ytjhdljmghhdhgaa", sum := "58c6e27738f617d07cc6d0573f32bc47a4f050e8ea0f83e8b7e3d339528ca914", checked := Try.checked }
namespace Rows
def none {H : Type} : Left H := { results := [], args := [] }

/-- 'laws.FnOrder': WHATEVER THE INPUT: true; the input reads as it did. -/
def fnOrderSpec : ChangeSpec := { name := "fnOrder", fn := fun _ => fun
  | [d] => { results := [.lit (.bool true)], args := [d] }
  | _ => none }
def fnOrderRow : OpenClaim := { program := "ytjhdljmghhdhgaa", sum := "58c6e27738f617d07cc6d0573f32bc47a4f050e8ea0f83e8b7e3d339528ca914", func := "loop.example/g00019/laws.FnOrder", spec := "fnOrder", unfollowed := true, recurses := true, apart := false }
def FnOrderSaid : Prop := fnOrderRow.holds Try.pinned (OpenSpec.ofChange fnOrderSpec)

/-- ITS FALSE NEIGHBOUR: 'it returns false'. Refute it at one input. -/
def fnOrderWrong : ChangeSpec := { name := "fnOrder", fn := fun _ => fun
  | [d] => { results := [.lit (.bool false)], args := [d] }
  | _ => none }
def FnOrderWrongFalsely : Prop := fnOrderRow.holds Try.pinned (OpenSpec.ofChange fnOrderWrong)

/-- 'laws.FnExactTermOK': WHATEVER THE INPUT: true; the input reads as it did. -/
def fnExactTermOKSpec : ChangeSpec := { name := "fnExactTermOK", fn := fun _ => fun
  | [d] => { results := [.lit (.bool true)], args := [d] }
  | _ => none }
def fnExactTermOKRow : OpenClaim := { program := "ytjhdljmghhdhgaa", sum := "58c6e27738f617d07cc6d0573f32bc47a4f050e8ea0f83e8b7e3d339528ca914", func := "loop.example/g00019/laws.FnExactTermOK", spec := "fnExactTermOK", unfollowed := true, recurses := true, loops := true, apart := false }
def FnExactTermOKSaid : Prop := fnExactTermOKRow.holds Try.pinned (OpenSpec.ofChange fnExactTermOKSpec)

/-- ITS FALSE NEIGHBOUR: 'it returns false'. Refute it at one input. -/
def fnExactTermOKWrong : ChangeSpec := { name := "fnExactTermOK", fn := fun _ => fun
  | [d] => { results := [.lit (.bool false)], args := [d] }
  | _ => none }
def FnExactTermOKWrongFalsely : Prop := fnExactTermOKRow.holds Try.pinned (OpenSpec.ofChange fnExactTermOKWrong)

/-- 'laws.FnExactTermSize': WHATEVER THE INPUT: true; the input reads as it did. -/
def fnExactTermSizeSpec : ChangeSpec := { name := "fnExactTermSize", fn := fun _ => fun
  | [d] => { results := [.lit (.bool true)], args := [d] }
  | _ => none }
def fnExactTermSizeRow : OpenClaim := { program := "ytjhdljmghhdhgaa", sum := "58c6e27738f617d07cc6d0573f32bc47a4f050e8ea0f83e8b7e3d339528ca914", func := "loop.example/g00019/laws.FnExactTermSize", spec := "fnExactTermSize", unfollowed := true, recurses := true, loops := true, apart := false }
def FnExactTermSizeSaid : Prop := fnExactTermSizeRow.holds Try.pinned (OpenSpec.ofChange fnExactTermSizeSpec)

/-- ITS FALSE NEIGHBOUR: 'it returns false'. Refute it at one input. -/
def fnExactTermSizeWrong : ChangeSpec := { name := "fnExactTermSize", fn := fun _ => fun
  | [d] => { results := [.lit (.bool false)], args := [d] }
  | _ => none }
def FnExactTermSizeWrongFalsely : Prop := fnExactTermSizeRow.holds Try.pinned (OpenSpec.ofChange fnExactTermSizeWrong)

/-- 'laws.FnExactTermCompare': WHATEVER THE INPUT: true; the input reads as it did. -/
def fnExactTermCompareSpec : ChangeSpec := { name := "fnExactTermCompare", fn := fun _ => fun
  | [d1, d2] => { results := [.lit (.bool true)], args := [d1, d2] }
  | _ => none }
def fnExactTermCompareRow : OpenClaim := { program := "ytjhdljmghhdhgaa", sum := "58c6e27738f617d07cc6d0573f32bc47a4f050e8ea0f83e8b7e3d339528ca914", func := "loop.example/g00019/laws.FnExactTermCompare", spec := "fnExactTermCompare", unfollowed := true, recurses := true, loops := true, apart := false }
def FnExactTermCompareSaid : Prop := fnExactTermCompareRow.holds Try.pinned (OpenSpec.ofChange fnExactTermCompareSpec)

/-- ITS FALSE NEIGHBOUR: 'it returns false'. Refute it at one input. -/
def fnExactTermCompareWrong : ChangeSpec := { name := "fnExactTermCompare", fn := fun _ => fun
  | [d1, d2] => { results := [.lit (.bool false)], args := [d1, d2] }
  | _ => none }
def FnExactTermCompareWrongFalsely : Prop := fnExactTermCompareRow.holds Try.pinned (OpenSpec.ofChange fnExactTermCompareWrong)

/-- 'laws.FnExactTermHash': WHATEVER THE INPUT: true; the input reads as it did. -/
def fnExactTermHashSpec : ChangeSpec := { name := "fnExactTermHash", fn := fun _ => fun
  | [d] => { results := [.lit (.bool true)], args := [d] }
  | _ => none }
def fnExactTermHashRow : OpenClaim := { program := "ytjhdljmghhdhgaa", sum := "58c6e27738f617d07cc6d0573f32bc47a4f050e8ea0f83e8b7e3d339528ca914", func := "loop.example/g00019/laws.FnExactTermHash", spec := "fnExactTermHash", unfollowed := true, recurses := true, loops := true, apart := false }
def FnExactTermHashSaid : Prop := fnExactTermHashRow.holds Try.pinned (OpenSpec.ofChange fnExactTermHashSpec)

/-- ITS FALSE NEIGHBOUR: 'it returns false'. Refute it at one input. -/
def fnExactTermHashWrong : ChangeSpec := { name := "fnExactTermHash", fn := fun _ => fun
  | [d] => { results := [.lit (.bool false)], args := [d] }
  | _ => none }
def FnExactTermHashWrongFalsely : Prop := fnExactTermHashRow.holds Try.pinned (OpenSpec.ofChange fnExactTermHashWrong)

/- THE SECOND FORM. 'bulk': how many values and letters a reading holds, each counted each time it is reached (what is shared counts as often as it is met; a slice's spare places count too). A statement '..UptoSaid' is the law's where the arguments, and the package variables that the reading takes, are together of bulk at most 1048576: NARROWER than '..Said'. Prove '..Said' where nothing that the law and all that it calls make is longer than what came in: it says more and counts as full. Else prove '..UptoSaid'. A law counts once. -/
mutual
def uptoBulk {H : Type} : DataW H → Nat
  | .lit (.string bytes) => bytes.length + 1
  | .lit _ => 1
  | .nil => 1
  | .ptr d => uptoBulk d + 1
  | .slice elems spare => uptoBulkAll elems + uptoBulkAll spare + 1
  | .agg parts => uptoBulkAll parts + 1
  | .iface _ d => uptoBulk d + 1
  | .map entries => uptoBulkEntries entries + 1
  | .held _ => 1
def uptoBulkAll {H : Type} : List (DataW H) → Nat
  | [] => 0
  | d :: r => uptoBulk d + uptoBulkAll r
def uptoBulkEntries {H : Type} : List (Lit × DataW H) → Nat
  | [] => 0
  | x :: r => uptoBulkEntry x + uptoBulkEntries r
def uptoBulkEntry {H : Type} : Lit × DataW H → Nat
  | (.string bytes, d) => bytes.length + uptoBulk d + 1
  | (_, d) => uptoBulk d + 1
 end
def uptoSmall : (H : Type) → List (DataW H) → Bool := fun _ ds => decide (uptoBulkAll ds ≤ 1048576)
def OpenSpec.upto (s : _root_.Go.ChangeSpec) : _root_.Go.OpenSpec := { _root_.Go.OpenSpec.ofChange s with cond := some uptoSmall }

/-- 'laws.FnOrder', WHERE WHAT IT READS IS OF BULK AT MOST 1048576: true; the input reads as it did. -/
def fnOrderUptoRow : OpenClaim := { program := "ytjhdljmghhdhgaa", sum := "58c6e27738f617d07cc6d0573f32bc47a4f050e8ea0f83e8b7e3d339528ca914", func := "loop.example/g00019/laws.FnOrder", spec := "fnOrder", unfollowed := true, recurses := true, apart := false, narrowed := true }
def FnOrderUptoSaid : Prop := fnOrderUptoRow.holds Try.pinned (OpenSpec.upto fnOrderSpec)

/-- 'laws.FnExactTermOK', WHERE WHAT IT READS IS OF BULK AT MOST 1048576: true; the input reads as it did. -/
def fnExactTermOKUptoRow : OpenClaim := { program := "ytjhdljmghhdhgaa", sum := "58c6e27738f617d07cc6d0573f32bc47a4f050e8ea0f83e8b7e3d339528ca914", func := "loop.example/g00019/laws.FnExactTermOK", spec := "fnExactTermOK", unfollowed := true, recurses := true, loops := true, apart := false, narrowed := true }
def FnExactTermOKUptoSaid : Prop := fnExactTermOKUptoRow.holds Try.pinned (OpenSpec.upto fnExactTermOKSpec)

/-- 'laws.FnExactTermSize', WHERE WHAT IT READS IS OF BULK AT MOST 1048576: true; the input reads as it did. -/
def fnExactTermSizeUptoRow : OpenClaim := { program := "ytjhdljmghhdhgaa", sum := "58c6e27738f617d07cc6d0573f32bc47a4f050e8ea0f83e8b7e3d339528ca914", func := "loop.example/g00019/laws.FnExactTermSize", spec := "fnExactTermSize", unfollowed := true, recurses := true, loops := true, apart := false, narrowed := true }
def FnExactTermSizeUptoSaid : Prop := fnExactTermSizeUptoRow.holds Try.pinned (OpenSpec.upto fnExactTermSizeSpec)

/-- 'laws.FnExactTermCompare', WHERE WHAT IT READS IS OF BULK AT MOST 1048576: true; the input reads as it did. -/
def fnExactTermCompareUptoRow : OpenClaim := { program := "ytjhdljmghhdhgaa", sum := "58c6e27738f617d07cc6d0573f32bc47a4f050e8ea0f83e8b7e3d339528ca914", func := "loop.example/g00019/laws.FnExactTermCompare", spec := "fnExactTermCompare", unfollowed := true, recurses := true, loops := true, apart := false, narrowed := true }
def FnExactTermCompareUptoSaid : Prop := fnExactTermCompareUptoRow.holds Try.pinned (OpenSpec.upto fnExactTermCompareSpec)

/-- 'laws.FnExactTermHash', WHERE WHAT IT READS IS OF BULK AT MOST 1048576: true; the input reads as it did. -/
def fnExactTermHashUptoRow : OpenClaim := { program := "ytjhdljmghhdhgaa", sum := "58c6e27738f617d07cc6d0573f32bc47a4f050e8ea0f83e8b7e3d339528ca914", func := "loop.example/g00019/laws.FnExactTermHash", spec := "fnExactTermHash", unfollowed := true, recurses := true, loops := true, apart := false, narrowed := true }
def FnExactTermHashUptoSaid : Prop := fnExactTermHashUptoRow.holds Try.pinned (OpenSpec.upto fnExactTermHashSpec)

end Rows
end Go.Proofs.Ytjhdljmghhdhgaa
