/-
  DERIVED. GIVEN WITH THE SEED: THE CARDS: each row of YtjhjmbiecihjhaaDoorRows.lean that lists a variable, with what it lists TIED to the program's text (the seventh form; the later family's looks); each row that meets fmt, with fmt's text TOLD by the authors' own Lean function (tested against real Go, not proved from fmt's source: count such statements apart). THE CARD IS WHAT COUNTS. Prove the row's statement (the work); the ties are given (YtjhjmbiecihjhaaDoorTie.lean); close each card by the builder's one call (the guide's Derived/Test/ToyasCard.lean, 'card_holds'). Laid BY PROGRAM, IN A SANDBOX (cutbox-door.mjs). By AI agents, Wed Nov 11 2026. No macro, syntax, notation, axiom, sorry.
-/
import Derived.Test.YtjhjmbiecihjhaaDoorRows
import GoSem.ClaimSeven
namespace Go.Proofs.YtjhjmbiecihjhaaDoor
namespace Rows

/-- THE TIED CARD OF 'laws.FnExactUnionOften'. -/
def fnExactUnionOftenCard : Claim7 := { stood := { row := fnExactUnionOftenRow, standIns := [], harness := (true, "f009d8bc0eec3c4809f9398a3e46a58b5a2d7a75ebb63dcd519f78100a629c3e"), looks := false }, kinds := [], alts := [], laidByText := true, laidKinds := [.data, .data], laidTests := true, laidLooks := .later }
def FnExactUnionOftenCardSaid : Prop := Claim7.holds Tryd.pinned (.plain (OpenSpec.ofChange fnExactUnionOftenSpec)) fnExactUnionOftenCard

/-- THE TIED CARD OF 'laws.FnExactKernelOf'. -/
def fnExactKernelOfCard : Claim7 := { stood := { row := fnExactKernelOfRow, standIns := [], harness := (true, "f009d8bc0eec3c4809f9398a3e46a58b5a2d7a75ebb63dcd519f78100a629c3e"), looks := false }, kinds := [], alts := [], laidByText := true, laidKinds := [.data, .data], laidTests := true, laidLooks := .later }
def FnExactKernelOfCardSaid : Prop := Claim7.holds Tryd.pinned (.plain (OpenSpec.ofChange fnExactKernelOfSpec)) fnExactKernelOfCard

/-- THE TIED CARD OF 'laws.FnExactKernelSame'. -/
def fnExactKernelSameCard : Claim7 := { stood := { row := fnExactKernelSameRow, standIns := [], harness := (true, "f009d8bc0eec3c4809f9398a3e46a58b5a2d7a75ebb63dcd519f78100a629c3e"), looks := false }, kinds := [], alts := [], laidByText := true, laidKinds := [.data, .data], laidTests := true, laidLooks := .later }
def FnExactKernelSameCardSaid : Prop := Claim7.holds Tryd.pinned (.plain (OpenSpec.ofChange fnExactKernelSameSpec)) fnExactKernelSameCard

/-- THE TIED CARD OF 'laws.FnOften'. -/
def fnOftenCard : Claim7 := { stood := { row := fnOftenRow, standIns := [], harness := (true, "f009d8bc0eec3c4809f9398a3e46a58b5a2d7a75ebb63dcd519f78100a629c3e"), looks := false }, kinds := [], alts := [], laidByText := true, laidKinds := [.data, .data], laidTests := true, laidLooks := .later }
def FnOftenCardSaid : Prop := Claim7.holds Tryd.pinned (.plain (OpenSpec.ofChange fnOftenSpec)) fnOftenCard

/-- THE TIED CARD OF 'laws.FnKernel'. -/
def fnKernelCard : Claim7 := { stood := { row := fnKernelRow, standIns := [], harness := (true, "f009d8bc0eec3c4809f9398a3e46a58b5a2d7a75ebb63dcd519f78100a629c3e"), looks := false }, kinds := [], alts := [], laidByText := true, laidKinds := [.data, .data], laidTests := true, laidLooks := .later }
def FnKernelCardSaid : Prop := Claim7.holds Tryd.pinned (.plain (OpenSpec.ofChange fnKernelSpec)) fnKernelCard

/-- THE TIED CARD OF 'laws.FnKernelSame'. -/
def fnKernelSameCard : Claim7 := { stood := { row := fnKernelSameRow, standIns := [], harness := (true, "f009d8bc0eec3c4809f9398a3e46a58b5a2d7a75ebb63dcd519f78100a629c3e"), looks := false }, kinds := [], alts := [], laidByText := true, laidKinds := [.data, .data], laidTests := true, laidLooks := .later }
def FnKernelSameCardSaid : Prop := Claim7.holds Tryd.pinned (.plain (OpenSpec.ofChange fnKernelSameSpec)) fnKernelSameCard

/-- THE SECOND FORM's CARD OF 'laws.FnExactUnionOften'. -/
def fnExactUnionOftenUptoCard : Claim7 := { stood := { row := fnExactUnionOftenUptoRow, standIns := [], harness := (true, "f009d8bc0eec3c4809f9398a3e46a58b5a2d7a75ebb63dcd519f78100a629c3e"), looks := false }, kinds := [], alts := [], laidByText := true, laidKinds := [.data, .data], laidTests := true, laidLooks := .later }
def FnExactUnionOftenUptoCardSaid : Prop := Claim7.holds Tryd.pinned (.plain (OpenSpec.upto fnExactUnionOftenSpec)) fnExactUnionOftenUptoCard

/-- THE SECOND FORM's CARD OF 'laws.FnExactKernelOf'. -/
def fnExactKernelOfUptoCard : Claim7 := { stood := { row := fnExactKernelOfUptoRow, standIns := [], harness := (true, "f009d8bc0eec3c4809f9398a3e46a58b5a2d7a75ebb63dcd519f78100a629c3e"), looks := false }, kinds := [], alts := [], laidByText := true, laidKinds := [.data, .data], laidTests := true, laidLooks := .later }
def FnExactKernelOfUptoCardSaid : Prop := Claim7.holds Tryd.pinned (.plain (OpenSpec.upto fnExactKernelOfSpec)) fnExactKernelOfUptoCard

/-- THE SECOND FORM's CARD OF 'laws.FnExactKernelSame'. -/
def fnExactKernelSameUptoCard : Claim7 := { stood := { row := fnExactKernelSameUptoRow, standIns := [], harness := (true, "f009d8bc0eec3c4809f9398a3e46a58b5a2d7a75ebb63dcd519f78100a629c3e"), looks := false }, kinds := [], alts := [], laidByText := true, laidKinds := [.data, .data], laidTests := true, laidLooks := .later }
def FnExactKernelSameUptoCardSaid : Prop := Claim7.holds Tryd.pinned (.plain (OpenSpec.upto fnExactKernelSameSpec)) fnExactKernelSameUptoCard

/-- THE SECOND FORM's CARD OF 'laws.FnOften'. -/
def fnOftenUptoCard : Claim7 := { stood := { row := fnOftenUptoRow, standIns := [], harness := (true, "f009d8bc0eec3c4809f9398a3e46a58b5a2d7a75ebb63dcd519f78100a629c3e"), looks := false }, kinds := [], alts := [], laidByText := true, laidKinds := [.data, .data], laidTests := true, laidLooks := .later }
def FnOftenUptoCardSaid : Prop := Claim7.holds Tryd.pinned (.plain (OpenSpec.upto fnOftenSpec)) fnOftenUptoCard

/-- THE SECOND FORM's CARD OF 'laws.FnKernel'. -/
def fnKernelUptoCard : Claim7 := { stood := { row := fnKernelUptoRow, standIns := [], harness := (true, "f009d8bc0eec3c4809f9398a3e46a58b5a2d7a75ebb63dcd519f78100a629c3e"), looks := false }, kinds := [], alts := [], laidByText := true, laidKinds := [.data, .data], laidTests := true, laidLooks := .later }
def FnKernelUptoCardSaid : Prop := Claim7.holds Tryd.pinned (.plain (OpenSpec.upto fnKernelSpec)) fnKernelUptoCard

/-- THE SECOND FORM's CARD OF 'laws.FnKernelSame'. -/
def fnKernelSameUptoCard : Claim7 := { stood := { row := fnKernelSameUptoRow, standIns := [], harness := (true, "f009d8bc0eec3c4809f9398a3e46a58b5a2d7a75ebb63dcd519f78100a629c3e"), looks := false }, kinds := [], alts := [], laidByText := true, laidKinds := [.data, .data], laidTests := true, laidLooks := .later }
def FnKernelSameUptoCardSaid : Prop := Claim7.holds Tryd.pinned (.plain (OpenSpec.upto fnKernelSameSpec)) fnKernelSameUptoCard
end Rows
end Go.Proofs.YtjhjmbiecihjhaaDoor
