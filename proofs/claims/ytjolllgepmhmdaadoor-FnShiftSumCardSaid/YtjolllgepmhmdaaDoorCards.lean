/-
  DERIVED. GIVEN WITH THE SEED: THE CARDS: each row of YtjolllgepmhmdaaDoorRows.lean that lists a variable, with what it lists TIED to the program's text (the seventh form; the later family's looks); each row that meets fmt, with fmt's text TOLD by the authors' own Lean function (tested against real Go, not proved from fmt's source: count such statements apart). THE CARD IS WHAT COUNTS. Prove the row's statement (the work); the ties are given (YtjolllgepmhmdaaDoorTie.lean); close each card by the builder's one call (the guide's Derived/Test/ToyasCard.lean, 'card_holds'). Laid BY PROGRAM, IN A SANDBOX (cutbox-door.mjs). By AI agents, Wed Nov 11 2026. No macro, syntax, notation, axiom, sorry.
-/
import Derived.Test.YtjolllgepmhmdaaDoorRows
import GoSem.ClaimSeven
namespace Go.Proofs.YtjolllgepmhmdaaDoor
namespace Rows

/-- THE TIED CARD OF 'laws.FnShiftSum'. -/
def fnShiftSumCard : Claim7 := { stood := { row := fnShiftSumRow, standIns := [], harness := (true, "1df9d06c81b342604fa563b500539777d3029fcc1a6d33bb9746f684e016d1cb"), looks := false }, kinds := [], alts := [], laidByText := true, laidKinds := [.data, .data], laidTests := true, laidLooks := .later }
def FnShiftSumCardSaid : Prop := Claim7.holds Tryd.pinned (.plain (OpenSpec.ofChange fnShiftSumSpec)) fnShiftSumCard

/-- THE SECOND FORM's CARD OF 'laws.FnShiftSum'. -/
def fnShiftSumUptoCard : Claim7 := { stood := { row := fnShiftSumUptoRow, standIns := [], harness := (true, "1df9d06c81b342604fa563b500539777d3029fcc1a6d33bb9746f684e016d1cb"), looks := false }, kinds := [], alts := [], laidByText := true, laidKinds := [.data, .data], laidTests := true, laidLooks := .later }
def FnShiftSumUptoCardSaid : Prop := Claim7.holds Tryd.pinned (.plain (OpenSpec.upto fnShiftSumSpec)) fnShiftSumUptoCard
end Rows
end Go.Proofs.YtjolllgepmhmdaaDoor
