/-
  DERIVED. GIVEN WITH THE SEED: THE CARDS: each row of YtbfdgkeiokeehaaDoorRows.lean that lists a variable, with what it lists TIED to the program's text (the seventh form; the later family's looks); each row that meets fmt, with fmt's text TOLD by the authors' own Lean function (tested against real Go, not proved from fmt's source: count such statements apart). THE CARD IS WHAT COUNTS. Prove the row's statement (the work); the ties are given (YtbfdgkeiokeehaaDoorTie.lean); close each card by the builder's one call (the guide's Derived/Test/ToyasCard.lean, 'card_holds'). Laid BY PROGRAM, IN A SANDBOX (cutbox-door.mjs). By AI agents, Wed Nov 11 2026. No macro, syntax, notation, axiom, sorry.
-/
import Derived.Test.YtbfdgkeiokeehaaDoorRows
import GoSem.ClaimSeven
namespace Go.Proofs.YtbfdgkeiokeehaaDoor
namespace Rows

/-- THE TIED CARD OF 'laws.FnExactShiftSum'. -/
def fnExactShiftSumCard : Claim7 := { stood := { row := fnExactShiftSumRow, standIns := [], harness := (true, "650c11e8b51d4017e4ee7acb819b94a7dae4d6f4d3391b1ed7c992a07ddcab92"), looks := false }, kinds := [], alts := [], laidByText := true, laidKinds := [.data, .data], laidTests := true, laidLooks := .later }
def FnExactShiftSumCardSaid : Prop := Claim7.holds Tryd.pinned (.plain (OpenSpec.ofChange fnExactShiftSumSpec)) fnExactShiftSumCard

/-- THE SECOND FORM's CARD OF 'laws.FnExactShiftSum'. -/
def fnExactShiftSumUptoCard : Claim7 := { stood := { row := fnExactShiftSumUptoRow, standIns := [], harness := (true, "650c11e8b51d4017e4ee7acb819b94a7dae4d6f4d3391b1ed7c992a07ddcab92"), looks := false }, kinds := [], alts := [], laidByText := true, laidKinds := [.data, .data], laidTests := true, laidLooks := .later }
def FnExactShiftSumUptoCardSaid : Prop := Claim7.holds Tryd.pinned (.plain (OpenSpec.upto fnExactShiftSumSpec)) fnExactShiftSumUptoCard
end Rows
end Go.Proofs.YtbfdgkeiokeehaaDoor
