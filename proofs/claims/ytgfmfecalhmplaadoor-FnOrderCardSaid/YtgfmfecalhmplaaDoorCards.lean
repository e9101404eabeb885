/-
  DERIVED. GIVEN WITH THE SEED: THE CARDS: each row of YtgfmfecalhmplaaDoorRows.lean that lists a variable, with what it lists TIED to the program's text (the seventh form; the later family's looks); each row that meets fmt, with fmt's text TOLD by the authors' own Lean function (tested against real Go, not proved from fmt's source: count such statements apart). THE CARD IS WHAT COUNTS. Prove the row's statement (the work); the ties are given (YtgfmfecalhmplaaDoorTie.lean); close each card by the builder's one call (the guide's Derived/Test/ToyasCard.lean, 'card_holds'). Laid BY PROGRAM, IN A SANDBOX (cutbox-door.mjs). By AI agents, Wed Nov 11 2026. No macro, syntax, notation, axiom, sorry.
-/
import Derived.Test.YtgfmfecalhmplaaDoorRows
import GoSem.ClaimSeven
namespace Go.Proofs.YtgfmfecalhmplaaDoor
namespace Rows

/-- THE TIED CARD OF 'laws.FnOrder'. -/
def fnOrderCard : Claim7 := { stood := { row := fnOrderRow, standIns := [], harness := (true, "a246279b0ef6e0a0570086ec9adceeb4e4feb42ca82a2676cf5ba424bbd78b32"), looks := true }, kinds := [], alts := [], laidByText := true, laidKinds := [.data, .data], laidTests := true, laidLooks := .later }
def FnOrderCardSaid : Prop := Claim7.holds Tryd.pinned (.plain (OpenSpec.ofChange fnOrderSpec)) fnOrderCard

/-- THE TIED CARD OF 'laws.FnExactBoundaryOf'. -/
def fnExactBoundaryOfCard : Claim7 := { stood := { row := fnExactBoundaryOfRow, standIns := [], harness := (true, "a246279b0ef6e0a0570086ec9adceeb4e4feb42ca82a2676cf5ba424bbd78b32"), looks := true }, kinds := [], alts := [], laidByText := true, laidKinds := [.data, .data], laidTests := true, laidLooks := .later }
def FnExactBoundaryOfCardSaid : Prop := Claim7.holds Tryd.pinned (.plain (OpenSpec.ofChange fnExactBoundaryOfSpec)) fnExactBoundaryOfCard

/-- THE TIED CARD OF 'laws.FnExactBoundaryEdges'. -/
def fnExactBoundaryEdgesCard : Claim7 := { stood := { row := fnExactBoundaryEdgesRow, standIns := [], harness := (true, "a246279b0ef6e0a0570086ec9adceeb4e4feb42ca82a2676cf5ba424bbd78b32"), looks := true }, kinds := [], alts := [], laidByText := true, laidKinds := [.data, .data], laidTests := true, laidLooks := .later }
def FnExactBoundaryEdgesCardSaid : Prop := Claim7.holds Tryd.pinned (.plain (OpenSpec.ofChange fnExactBoundaryEdgesSpec)) fnExactBoundaryEdgesCard

/-- THE TIED CARD OF 'laws.FnExactBoundaryInner'. -/
def fnExactBoundaryInnerCard : Claim7 := { stood := { row := fnExactBoundaryInnerRow, standIns := [], harness := (true, "a246279b0ef6e0a0570086ec9adceeb4e4feb42ca82a2676cf5ba424bbd78b32"), looks := true }, kinds := [], alts := [], laidByText := true, laidKinds := [.data, .data], laidTests := true, laidLooks := .later }
def FnExactBoundaryInnerCardSaid : Prop := Claim7.holds Tryd.pinned (.plain (OpenSpec.ofChange fnExactBoundaryInnerSpec)) fnExactBoundaryInnerCard

/-- THE TIED CARD OF 'laws.FnExactBoundaryOrder'. -/
def fnExactBoundaryOrderCard : Claim7 := { stood := { row := fnExactBoundaryOrderRow, standIns := [], harness := (true, "a246279b0ef6e0a0570086ec9adceeb4e4feb42ca82a2676cf5ba424bbd78b32"), looks := true }, kinds := [], alts := [], laidByText := true, laidKinds := [.data, .data], laidTests := true, laidLooks := .later }
def FnExactBoundaryOrderCardSaid : Prop := Claim7.holds Tryd.pinned (.plain (OpenSpec.ofChange fnExactBoundaryOrderSpec)) fnExactBoundaryOrderCard

/-- THE TIED CARD OF 'laws.FnExactBoundaryFirst'. -/
def fnExactBoundaryFirstCard : Claim7 := { stood := { row := fnExactBoundaryFirstRow, standIns := [], harness := (true, "a246279b0ef6e0a0570086ec9adceeb4e4feb42ca82a2676cf5ba424bbd78b32"), looks := true }, kinds := [], alts := [], laidByText := true, laidKinds := [.data, .data], laidTests := true, laidLooks := .later }
def FnExactBoundaryFirstCardSaid : Prop := Claim7.holds Tryd.pinned (.plain (OpenSpec.ofChange fnExactBoundaryFirstSpec)) fnExactBoundaryFirstCard

/-- THE TIED CARD OF 'laws.FnExactBoundaryBinary'. -/
def fnExactBoundaryBinaryCard : Claim7 := { stood := { row := fnExactBoundaryBinaryRow, standIns := [], harness := (true, "a246279b0ef6e0a0570086ec9adceeb4e4feb42ca82a2676cf5ba424bbd78b32"), looks := true }, kinds := [], alts := [], laidByText := true, laidKinds := [.data, .data], laidTests := true, laidLooks := .later }
def FnExactBoundaryBinaryCardSaid : Prop := Claim7.holds Tryd.pinned (.plain (OpenSpec.ofChange fnExactBoundaryBinarySpec)) fnExactBoundaryBinaryCard

/-- THE SECOND FORM's CARD OF 'laws.FnOrder'. -/
def fnOrderUptoCard : Claim7 := { stood := { row := fnOrderUptoRow, standIns := [], harness := (true, "a246279b0ef6e0a0570086ec9adceeb4e4feb42ca82a2676cf5ba424bbd78b32"), looks := true }, kinds := [], alts := [], laidByText := true, laidKinds := [.data, .data], laidTests := true, laidLooks := .later }
def FnOrderUptoCardSaid : Prop := Claim7.holds Tryd.pinned (.plain (OpenSpec.upto fnOrderSpec)) fnOrderUptoCard

/-- THE SECOND FORM's CARD OF 'laws.FnExactBoundaryOf'. -/
def fnExactBoundaryOfUptoCard : Claim7 := { stood := { row := fnExactBoundaryOfUptoRow, standIns := [], harness := (true, "a246279b0ef6e0a0570086ec9adceeb4e4feb42ca82a2676cf5ba424bbd78b32"), looks := true }, kinds := [], alts := [], laidByText := true, laidKinds := [.data, .data], laidTests := true, laidLooks := .later }
def FnExactBoundaryOfUptoCardSaid : Prop := Claim7.holds Tryd.pinned (.plain (OpenSpec.upto fnExactBoundaryOfSpec)) fnExactBoundaryOfUptoCard

/-- THE SECOND FORM's CARD OF 'laws.FnExactBoundaryEdges'. -/
def fnExactBoundaryEdgesUptoCard : Claim7 := { stood := { row := fnExactBoundaryEdgesUptoRow, standIns := [], harness := (true, "a246279b0ef6e0a0570086ec9adceeb4e4feb42ca82a2676cf5ba424bbd78b32"), looks := true }, kinds := [], alts := [], laidByText := true, laidKinds := [.data, .data], laidTests := true, laidLooks := .later }
def FnExactBoundaryEdgesUptoCardSaid : Prop := Claim7.holds Tryd.pinned (.plain (OpenSpec.upto fnExactBoundaryEdgesSpec)) fnExactBoundaryEdgesUptoCard

/-- THE SECOND FORM's CARD OF 'laws.FnExactBoundaryInner'. -/
def fnExactBoundaryInnerUptoCard : Claim7 := { stood := { row := fnExactBoundaryInnerUptoRow, standIns := [], harness := (true, "a246279b0ef6e0a0570086ec9adceeb4e4feb42ca82a2676cf5ba424bbd78b32"), looks := true }, kinds := [], alts := [], laidByText := true, laidKinds := [.data, .data], laidTests := true, laidLooks := .later }
def FnExactBoundaryInnerUptoCardSaid : Prop := Claim7.holds Tryd.pinned (.plain (OpenSpec.upto fnExactBoundaryInnerSpec)) fnExactBoundaryInnerUptoCard

/-- THE SECOND FORM's CARD OF 'laws.FnExactBoundaryOrder'. -/
def fnExactBoundaryOrderUptoCard : Claim7 := { stood := { row := fnExactBoundaryOrderUptoRow, standIns := [], harness := (true, "a246279b0ef6e0a0570086ec9adceeb4e4feb42ca82a2676cf5ba424bbd78b32"), looks := true }, kinds := [], alts := [], laidByText := true, laidKinds := [.data, .data], laidTests := true, laidLooks := .later }
def FnExactBoundaryOrderUptoCardSaid : Prop := Claim7.holds Tryd.pinned (.plain (OpenSpec.upto fnExactBoundaryOrderSpec)) fnExactBoundaryOrderUptoCard

/-- THE SECOND FORM's CARD OF 'laws.FnExactBoundaryFirst'. -/
def fnExactBoundaryFirstUptoCard : Claim7 := { stood := { row := fnExactBoundaryFirstUptoRow, standIns := [], harness := (true, "a246279b0ef6e0a0570086ec9adceeb4e4feb42ca82a2676cf5ba424bbd78b32"), looks := true }, kinds := [], alts := [], laidByText := true, laidKinds := [.data, .data], laidTests := true, laidLooks := .later }
def FnExactBoundaryFirstUptoCardSaid : Prop := Claim7.holds Tryd.pinned (.plain (OpenSpec.upto fnExactBoundaryFirstSpec)) fnExactBoundaryFirstUptoCard

/-- THE SECOND FORM's CARD OF 'laws.FnExactBoundaryBinary'. -/
def fnExactBoundaryBinaryUptoCard : Claim7 := { stood := { row := fnExactBoundaryBinaryUptoRow, standIns := [], harness := (true, "a246279b0ef6e0a0570086ec9adceeb4e4feb42ca82a2676cf5ba424bbd78b32"), looks := true }, kinds := [], alts := [], laidByText := true, laidKinds := [.data, .data], laidTests := true, laidLooks := .later }
def FnExactBoundaryBinaryUptoCardSaid : Prop := Claim7.holds Tryd.pinned (.plain (OpenSpec.upto fnExactBoundaryBinarySpec)) fnExactBoundaryBinaryUptoCard
end Rows
end Go.Proofs.YtgfmfecalhmplaaDoor
