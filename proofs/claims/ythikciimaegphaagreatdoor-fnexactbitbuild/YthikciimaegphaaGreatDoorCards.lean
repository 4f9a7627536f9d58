/-
  DERIVED. GIVEN WITH THE SEED: THE CARDS: each row of YthikciimaegphaaGreatDoorRows.lean that lists a variable, with what it lists TIED to the program's text (the seventh form; the later family's looks); each row that meets fmt, with fmt's text TOLD by the authors' own Lean function (tested against real Go, not proved from fmt's source: count such statements apart). THE CARD IS WHAT COUNTS. Prove the row's statement (the work); the ties are given (YthikciimaegphaaGreatDoorTie.lean); close each card by the builder's one call (the guide's Derived/Test/ToyasCard.lean, 'card_holds'). Laid BY PROGRAM, IN A SANDBOX (cutbox-door.mjs). By AI agents, Wed Nov 11 2026. No macro, syntax, notation, axiom, sorry.
-/
import Derived.Test.YthikciimaegphaaGreatDoorRows
import GoSem.ClaimSeven
namespace Go.Proofs.YthikciimaegphaaGreatDoor
namespace Rows

/-- THE TIED CARD OF 'laws.FnExactBitBuild'. -/
def fnExactBitBuildCard : Claim7 := { stood := { row := fnExactBitBuildRow, standIns := [], harness := (true, "c5010dd24f511832611a5319a7e9bb33f0ad47086524a7a70ed6cb1307e5da9c"), looks := true }, kinds := [], alts := [], laidByText := true, laidKinds := [.data], laidTests := true, laidLooks := .later }
def FnExactBitBuildCardSaid : Prop := Claim7.holds Tryz.pinned (.plain (OpenSpec.ofChange fnExactBitBuildSpec)) fnExactBitBuildCard

/-- THE TIED CARD OF 'laws.FnBitsBack'. -/
def fnBitsBackCard : Claim7 := { stood := { row := fnBitsBackRow, standIns := [], harness := (true, "c5010dd24f511832611a5319a7e9bb33f0ad47086524a7a70ed6cb1307e5da9c"), looks := true }, kinds := [], alts := [], laidByText := true, laidKinds := [.data], laidTests := true, laidLooks := .later }
def FnBitsBackCardSaid : Prop := Claim7.holds Tryz.pinned (.plain (OpenSpec.ofChange fnBitsBackSpec)) fnBitsBackCard

/-- THE SECOND FORM's CARD OF 'laws.FnExactBitBuild'. -/
def fnExactBitBuildUptoCard : Claim7 := { stood := { row := fnExactBitBuildUptoRow, standIns := [], harness := (true, "c5010dd24f511832611a5319a7e9bb33f0ad47086524a7a70ed6cb1307e5da9c"), looks := true }, kinds := [], alts := [], laidByText := true, laidKinds := [.data], laidTests := true, laidLooks := .later }
def FnExactBitBuildUptoCardSaid : Prop := Claim7.holds Tryz.pinned (.plain (OpenSpec.upto fnExactBitBuildSpec)) fnExactBitBuildUptoCard

/-- THE SECOND FORM's CARD OF 'laws.FnBitsBack'. -/
def fnBitsBackUptoCard : Claim7 := { stood := { row := fnBitsBackUptoRow, standIns := [], harness := (true, "c5010dd24f511832611a5319a7e9bb33f0ad47086524a7a70ed6cb1307e5da9c"), looks := true }, kinds := [], alts := [], laidByText := true, laidKinds := [.data], laidTests := true, laidLooks := .later }
def FnBitsBackUptoCardSaid : Prop := Claim7.holds Tryz.pinned (.plain (OpenSpec.upto fnBitsBackSpec)) fnBitsBackUptoCard
end Rows
end Go.Proofs.YthikciimaegphaaGreatDoor
