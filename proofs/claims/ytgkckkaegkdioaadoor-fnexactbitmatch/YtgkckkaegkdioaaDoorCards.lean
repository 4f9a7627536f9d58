/-
  DERIVED. GIVEN WITH THE SEED: THE CARDS: each row of YtgkckkaegkdioaaDoorRows.lean that lists a variable, with what it lists TIED to the program's text (the seventh form; the later family's looks); each row that meets fmt, with fmt's text TOLD by the authors' own Lean function (tested against real Go, not proved from fmt's source: count such statements apart). THE CARD IS WHAT COUNTS. Prove the row's statement (the work); the ties are given (YtgkckkaegkdioaaDoorTie.lean); close each card by the builder's one call (the guide's Derived/Test/ToyasCard.lean, 'card_holds'). Laid BY PROGRAM, IN A SANDBOX (cutbox-door.mjs). By AI agents, Wed Nov 11 2026. No macro, syntax, notation, axiom, sorry.
-/
import Derived.Test.YtgkckkaegkdioaaDoorRows
import GoSem.ClaimSeven
namespace Go.Proofs.YtgkckkaegkdioaaDoor
namespace Rows

/-- THE TIED CARD OF 'laws.FnExactBitMatch'. -/
def fnExactBitMatchCard : Claim7 := { stood := { row := fnExactBitMatchRow, standIns := [], harness := (true, "f57ada68084bb784b29d81f3acda5c5652ef811a0769dd932e8bd709e67f36b9"), looks := false }, kinds := [], alts := [], laidByText := true, laidKinds := [.data], laidTests := true, laidLooks := .later }
def FnExactBitMatchCardSaid : Prop := Claim7.holds Tryd.pinned (.plain (OpenSpec.ofChange fnExactBitMatchSpec)) fnExactBitMatchCard

/-- THE SECOND FORM's CARD OF 'laws.FnExactBitMatch'. -/
def fnExactBitMatchUptoCard : Claim7 := { stood := { row := fnExactBitMatchUptoRow, standIns := [], harness := (true, "f57ada68084bb784b29d81f3acda5c5652ef811a0769dd932e8bd709e67f36b9"), looks := false }, kinds := [], alts := [], laidByText := true, laidKinds := [.data], laidTests := true, laidLooks := .later }
def FnExactBitMatchUptoCardSaid : Prop := Claim7.holds Tryd.pinned (.plain (OpenSpec.upto fnExactBitMatchSpec)) fnExactBitMatchUptoCard
end Rows
end Go.Proofs.YtgkckkaegkdioaaDoor
