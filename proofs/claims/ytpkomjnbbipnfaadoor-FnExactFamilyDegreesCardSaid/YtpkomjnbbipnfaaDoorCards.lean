/-
  DERIVED. GIVEN WITH THE SEED: THE CARDS: each row of YtpkomjnbbipnfaaDoorRows.lean that lists a variable, with what it lists TIED to the program's text (the seventh form; the later family's looks); each row that meets fmt, with fmt's text TOLD by the authors' own Lean function (tested against real Go, not proved from fmt's source: count such statements apart). THE CARD IS WHAT COUNTS. Prove the row's statement (the work); the ties are given (YtpkomjnbbipnfaaDoorTie.lean); close each card by the builder's one call (the guide's Derived/Test/ToyasCard.lean, 'card_holds'). Laid BY PROGRAM, IN A SANDBOX (cutbox-door.mjs). By AI agents, Wed Nov 11 2026. No macro, syntax, notation, axiom, sorry.
-/
import Derived.Test.YtpkomjnbbipnfaaDoorRows
import GoSem.ClaimSeven
namespace Go.Proofs.YtpkomjnbbipnfaaDoor
namespace Rows

/-- THE TIED CARD OF 'laws.FnExactFamilyDegrees'. -/
def fnExactFamilyDegreesCard : Claim7 := { stood := { row := fnExactFamilyDegreesRow, standIns := [], harness := (true, "6a8ea638791d75ea6b244cb6d2ab0d2619678dd278e7b926944012e4d7c64fc1"), looks := false }, kinds := [], alts := [], laidByText := true, laidKinds := [.data, .data], laidTests := true, laidLooks := .later }
def FnExactFamilyDegreesCardSaid : Prop := Claim7.holds Tryd.pinned (.plain (OpenSpec.ofChange fnExactFamilyDegreesSpec)) fnExactFamilyDegreesCard

/-- THE SECOND FORM's CARD OF 'laws.FnExactFamilyDegrees'. -/
def fnExactFamilyDegreesUptoCard : Claim7 := { stood := { row := fnExactFamilyDegreesUptoRow, standIns := [], harness := (true, "6a8ea638791d75ea6b244cb6d2ab0d2619678dd278e7b926944012e4d7c64fc1"), looks := false }, kinds := [], alts := [], laidByText := true, laidKinds := [.data, .data], laidTests := true, laidLooks := .later }
def FnExactFamilyDegreesUptoCardSaid : Prop := Claim7.holds Tryd.pinned (.plain (OpenSpec.upto fnExactFamilyDegreesSpec)) fnExactFamilyDegreesUptoCard
end Rows
end Go.Proofs.YtpkomjnbbipnfaaDoor
