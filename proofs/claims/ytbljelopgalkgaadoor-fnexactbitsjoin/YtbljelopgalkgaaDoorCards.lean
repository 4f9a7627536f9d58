/-
  DERIVED. GIVEN WITH THE SEED: THE CARDS: each row of YtbljelopgalkgaaDoorRows.lean that lists a variable, with what it lists TIED to the program's text (the seventh form; the later family's looks); each row that meets fmt, with fmt's text TOLD by the authors' own Lean function (tested against real Go, not proved from fmt's source: count such statements apart). THE CARD IS WHAT COUNTS. Prove the row's statement (the work); the ties are given (YtbljelopgalkgaaDoorTie.lean); close each card by the builder's one call (the guide's Derived/Test/ToyasCard.lean, 'card_holds'). Laid BY PROGRAM, IN A SANDBOX (cutbox-door.mjs). By AI agents, Wed Nov 11 2026. No macro, syntax, notation, axiom, sorry.
-/
import Derived.Test.YtbljelopgalkgaaDoorRows
import GoSem.ClaimSeven
namespace Go.Proofs.YtbljelopgalkgaaDoor
namespace Rows

/-- THE TIED CARD OF 'laws.FnExactBitsOK'. -/
def fnExactBitsOKCard : Claim7 := { stood := { row := fnExactBitsOKRow, standIns := [], harness := (true, "78b51ee01f618d1a608b2a4a9949ea21c073ffbba599abf32fe4aa6728fdbe23"), looks := false }, kinds := [], alts := [], laidByText := true, laidKinds := [.data], laidTests := true, laidLooks := .later }
def FnExactBitsOKCardSaid : Prop := Claim7.holds Tryd.pinned (.plain (OpenSpec.ofChange fnExactBitsOKSpec)) fnExactBitsOKCard

/-- THE TIED CARD OF 'laws.FnExactBitsJoin'. -/
def fnExactBitsJoinCard : Claim7 := { stood := { row := fnExactBitsJoinRow, standIns := [], harness := (true, "78b51ee01f618d1a608b2a4a9949ea21c073ffbba599abf32fe4aa6728fdbe23"), looks := false }, kinds := [], alts := [], laidByText := true, laidKinds := [.data], laidTests := true, laidLooks := .later }
def FnExactBitsJoinCardSaid : Prop := Claim7.holds Tryd.pinned (.plain (OpenSpec.ofChange fnExactBitsJoinSpec)) fnExactBitsJoinCard

/-- THE TIED CARD OF 'laws.FnExactBitsCut'. -/
def fnExactBitsCutCard : Claim7 := { stood := { row := fnExactBitsCutRow, standIns := [], harness := (true, "78b51ee01f618d1a608b2a4a9949ea21c073ffbba599abf32fe4aa6728fdbe23"), looks := false }, kinds := [], alts := [], laidByText := true, laidKinds := [.data], laidTests := true, laidLooks := .later }
def FnExactBitsCutCardSaid : Prop := Claim7.holds Tryd.pinned (.plain (OpenSpec.ofChange fnExactBitsCutSpec)) fnExactBitsCutCard

/-- THE TIED CARD OF 'laws.FnExactBitPut'. -/
def fnExactBitPutCard : Claim7 := { stood := { row := fnExactBitPutRow, standIns := [], harness := (true, "78b51ee01f618d1a608b2a4a9949ea21c073ffbba599abf32fe4aa6728fdbe23"), looks := false }, kinds := [], alts := [], laidByText := true, laidKinds := [.data], laidTests := true, laidLooks := .later }
def FnExactBitPutCardSaid : Prop := Claim7.holds Tryd.pinned (.plain (OpenSpec.ofChange fnExactBitPutSpec)) fnExactBitPutCard

/-- THE TIED CARD OF 'laws.FnExactBitGet'. -/
def fnExactBitGetCard : Claim7 := { stood := { row := fnExactBitGetRow, standIns := [], harness := (true, "78b51ee01f618d1a608b2a4a9949ea21c073ffbba599abf32fe4aa6728fdbe23"), looks := false }, kinds := [], alts := [], laidByText := true, laidKinds := [.data], laidTests := true, laidLooks := .later }
def FnExactBitGetCardSaid : Prop := Claim7.holds Tryd.pinned (.plain (OpenSpec.ofChange fnExactBitGetSpec)) fnExactBitGetCard

/-- THE SECOND FORM's CARD OF 'laws.FnExactBitsOK'. -/
def fnExactBitsOKUptoCard : Claim7 := { stood := { row := fnExactBitsOKUptoRow, standIns := [], harness := (true, "78b51ee01f618d1a608b2a4a9949ea21c073ffbba599abf32fe4aa6728fdbe23"), looks := false }, kinds := [], alts := [], laidByText := true, laidKinds := [.data], laidTests := true, laidLooks := .later }
def FnExactBitsOKUptoCardSaid : Prop := Claim7.holds Tryd.pinned (.plain (OpenSpec.upto fnExactBitsOKSpec)) fnExactBitsOKUptoCard

/-- THE SECOND FORM's CARD OF 'laws.FnExactBitsJoin'. -/
def fnExactBitsJoinUptoCard : Claim7 := { stood := { row := fnExactBitsJoinUptoRow, standIns := [], harness := (true, "78b51ee01f618d1a608b2a4a9949ea21c073ffbba599abf32fe4aa6728fdbe23"), looks := false }, kinds := [], alts := [], laidByText := true, laidKinds := [.data], laidTests := true, laidLooks := .later }
def FnExactBitsJoinUptoCardSaid : Prop := Claim7.holds Tryd.pinned (.plain (OpenSpec.upto fnExactBitsJoinSpec)) fnExactBitsJoinUptoCard

/-- THE SECOND FORM's CARD OF 'laws.FnExactBitsCut'. -/
def fnExactBitsCutUptoCard : Claim7 := { stood := { row := fnExactBitsCutUptoRow, standIns := [], harness := (true, "78b51ee01f618d1a608b2a4a9949ea21c073ffbba599abf32fe4aa6728fdbe23"), looks := false }, kinds := [], alts := [], laidByText := true, laidKinds := [.data], laidTests := true, laidLooks := .later }
def FnExactBitsCutUptoCardSaid : Prop := Claim7.holds Tryd.pinned (.plain (OpenSpec.upto fnExactBitsCutSpec)) fnExactBitsCutUptoCard

/-- THE SECOND FORM's CARD OF 'laws.FnExactBitPut'. -/
def fnExactBitPutUptoCard : Claim7 := { stood := { row := fnExactBitPutUptoRow, standIns := [], harness := (true, "78b51ee01f618d1a608b2a4a9949ea21c073ffbba599abf32fe4aa6728fdbe23"), looks := false }, kinds := [], alts := [], laidByText := true, laidKinds := [.data], laidTests := true, laidLooks := .later }
def FnExactBitPutUptoCardSaid : Prop := Claim7.holds Tryd.pinned (.plain (OpenSpec.upto fnExactBitPutSpec)) fnExactBitPutUptoCard

/-- THE SECOND FORM's CARD OF 'laws.FnExactBitGet'. -/
def fnExactBitGetUptoCard : Claim7 := { stood := { row := fnExactBitGetUptoRow, standIns := [], harness := (true, "78b51ee01f618d1a608b2a4a9949ea21c073ffbba599abf32fe4aa6728fdbe23"), looks := false }, kinds := [], alts := [], laidByText := true, laidKinds := [.data], laidTests := true, laidLooks := .later }
def FnExactBitGetUptoCardSaid : Prop := Claim7.holds Tryd.pinned (.plain (OpenSpec.upto fnExactBitGetSpec)) fnExactBitGetUptoCard
end Rows
end Go.Proofs.YtbljelopgalkgaaDoor
