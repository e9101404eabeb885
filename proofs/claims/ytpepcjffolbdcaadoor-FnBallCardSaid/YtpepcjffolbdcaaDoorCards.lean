/-
  DERIVED. GIVEN WITH THE SEED: THE CARDS: each row of YtpepcjffolbdcaaDoorRows.lean that lists a variable, with what it lists TIED to the program's text (the seventh form; the later family's looks); each row that meets fmt, with fmt's text TOLD by the authors' own Lean function (tested against real Go, not proved from fmt's source: count such statements apart). THE CARD IS WHAT COUNTS. Prove the row's statement (the work); the ties are given (YtpepcjffolbdcaaDoorTie.lean); close each card by the builder's one call (the guide's Derived/Test/ToyasCard.lean, 'card_holds'). Laid BY PROGRAM, IN A SANDBOX (cutbox-door.mjs). By AI agents, Wed Nov 11 2026. No macro, syntax, notation, axiom, sorry.
-/
import Derived.Test.YtpepcjffolbdcaaDoorRows
import GoSem.ClaimSeven
namespace Go.Proofs.YtpepcjffolbdcaaDoor
namespace Rows

/-- THE TIED CARD OF 'laws.FnPressAll'. -/
def fnPressAllCard : Claim7 := { stood := { row := fnPressAllRow, standIns := [], harness := (true, "563803de8929cacd8d6c7bccbf572feac60fef99e6ba7080a2a8de7241ecf5c8"), looks := true }, kinds := [], alts := [], laidByText := true, laidKinds := [.data, .data], laidTests := true, laidLooks := .later }
def FnPressAllCardSaid : Prop := Claim7.holds Tryd.pinned (.plain (OpenSpec.ofChange fnPressAllSpec)) fnPressAllCard

/-- THE TIED CARD OF 'laws.FnEdges'. -/
def fnEdgesCard : Claim7 := { stood := { row := fnEdgesRow, standIns := [], harness := (true, "563803de8929cacd8d6c7bccbf572feac60fef99e6ba7080a2a8de7241ecf5c8"), looks := true }, kinds := [], alts := [], laidByText := true, laidKinds := [.data, .data], laidTests := true, laidLooks := .later }
def FnEdgesCardSaid : Prop := Claim7.holds Tryd.pinned (.plain (OpenSpec.ofChange fnEdgesSpec)) fnEdgesCard

/-- THE TIED CARD OF 'laws.FnInnerEdges'. -/
def fnInnerEdgesCard : Claim7 := { stood := { row := fnInnerEdgesRow, standIns := [], harness := (true, "563803de8929cacd8d6c7bccbf572feac60fef99e6ba7080a2a8de7241ecf5c8"), looks := true }, kinds := [], alts := [], laidByText := true, laidKinds := [.data, .data], laidTests := true, laidLooks := .later }
def FnInnerEdgesCardSaid : Prop := Claim7.holds Tryd.pinned (.plain (OpenSpec.ofChange fnInnerEdgesSpec)) fnInnerEdgesCard

/-- THE TIED CARD OF 'laws.FnBall'. -/
def fnBallCard : Claim7 := { stood := { row := fnBallRow, standIns := [], harness := (true, "563803de8929cacd8d6c7bccbf572feac60fef99e6ba7080a2a8de7241ecf5c8"), looks := true }, kinds := [], alts := [], laidByText := true, laidKinds := [.data, .data], laidTests := true, laidLooks := .later }
def FnBallCardSaid : Prop := Claim7.holds Tryd.pinned (.plain (OpenSpec.ofChange fnBallSpec)) fnBallCard

/-- THE TIED CARD OF 'laws.FnFirstSets'. -/
def fnFirstSetsCard : Claim7 := { stood := { row := fnFirstSetsRow, standIns := [], harness := (true, "563803de8929cacd8d6c7bccbf572feac60fef99e6ba7080a2a8de7241ecf5c8"), looks := true }, kinds := [], alts := [], laidByText := true, laidKinds := [.data, .data], laidTests := true, laidLooks := .later }
def FnFirstSetsCardSaid : Prop := Claim7.holds Tryd.pinned (.plain (OpenSpec.ofChange fnFirstSetsSpec)) fnFirstSetsCard

/-- THE TIED CARD OF 'laws.FnBinary'. -/
def fnBinaryCard : Claim7 := { stood := { row := fnBinaryRow, standIns := [], harness := (true, "563803de8929cacd8d6c7bccbf572feac60fef99e6ba7080a2a8de7241ecf5c8"), looks := true }, kinds := [], alts := [], laidByText := true, laidKinds := [.data, .data], laidTests := true, laidLooks := .later }
def FnBinaryCardSaid : Prop := Claim7.holds Tryd.pinned (.plain (OpenSpec.ofChange fnBinarySpec)) fnBinaryCard

/-- THE SECOND FORM's CARD OF 'laws.FnPressAll'. -/
def fnPressAllUptoCard : Claim7 := { stood := { row := fnPressAllUptoRow, standIns := [], harness := (true, "563803de8929cacd8d6c7bccbf572feac60fef99e6ba7080a2a8de7241ecf5c8"), looks := true }, kinds := [], alts := [], laidByText := true, laidKinds := [.data, .data], laidTests := true, laidLooks := .later }
def FnPressAllUptoCardSaid : Prop := Claim7.holds Tryd.pinned (.plain (OpenSpec.upto fnPressAllSpec)) fnPressAllUptoCard

/-- THE SECOND FORM's CARD OF 'laws.FnEdges'. -/
def fnEdgesUptoCard : Claim7 := { stood := { row := fnEdgesUptoRow, standIns := [], harness := (true, "563803de8929cacd8d6c7bccbf572feac60fef99e6ba7080a2a8de7241ecf5c8"), looks := true }, kinds := [], alts := [], laidByText := true, laidKinds := [.data, .data], laidTests := true, laidLooks := .later }
def FnEdgesUptoCardSaid : Prop := Claim7.holds Tryd.pinned (.plain (OpenSpec.upto fnEdgesSpec)) fnEdgesUptoCard

/-- THE SECOND FORM's CARD OF 'laws.FnInnerEdges'. -/
def fnInnerEdgesUptoCard : Claim7 := { stood := { row := fnInnerEdgesUptoRow, standIns := [], harness := (true, "563803de8929cacd8d6c7bccbf572feac60fef99e6ba7080a2a8de7241ecf5c8"), looks := true }, kinds := [], alts := [], laidByText := true, laidKinds := [.data, .data], laidTests := true, laidLooks := .later }
def FnInnerEdgesUptoCardSaid : Prop := Claim7.holds Tryd.pinned (.plain (OpenSpec.upto fnInnerEdgesSpec)) fnInnerEdgesUptoCard

/-- THE SECOND FORM's CARD OF 'laws.FnBall'. -/
def fnBallUptoCard : Claim7 := { stood := { row := fnBallUptoRow, standIns := [], harness := (true, "563803de8929cacd8d6c7bccbf572feac60fef99e6ba7080a2a8de7241ecf5c8"), looks := true }, kinds := [], alts := [], laidByText := true, laidKinds := [.data, .data], laidTests := true, laidLooks := .later }
def FnBallUptoCardSaid : Prop := Claim7.holds Tryd.pinned (.plain (OpenSpec.upto fnBallSpec)) fnBallUptoCard

/-- THE SECOND FORM's CARD OF 'laws.FnFirstSets'. -/
def fnFirstSetsUptoCard : Claim7 := { stood := { row := fnFirstSetsUptoRow, standIns := [], harness := (true, "563803de8929cacd8d6c7bccbf572feac60fef99e6ba7080a2a8de7241ecf5c8"), looks := true }, kinds := [], alts := [], laidByText := true, laidKinds := [.data, .data], laidTests := true, laidLooks := .later }
def FnFirstSetsUptoCardSaid : Prop := Claim7.holds Tryd.pinned (.plain (OpenSpec.upto fnFirstSetsSpec)) fnFirstSetsUptoCard

/-- THE SECOND FORM's CARD OF 'laws.FnBinary'. -/
def fnBinaryUptoCard : Claim7 := { stood := { row := fnBinaryUptoRow, standIns := [], harness := (true, "563803de8929cacd8d6c7bccbf572feac60fef99e6ba7080a2a8de7241ecf5c8"), looks := true }, kinds := [], alts := [], laidByText := true, laidKinds := [.data, .data], laidTests := true, laidLooks := .later }
def FnBinaryUptoCardSaid : Prop := Claim7.holds Tryd.pinned (.plain (OpenSpec.upto fnBinarySpec)) fnBinaryUptoCard
end Rows
end Go.Proofs.YtpepcjffolbdcaaDoor
