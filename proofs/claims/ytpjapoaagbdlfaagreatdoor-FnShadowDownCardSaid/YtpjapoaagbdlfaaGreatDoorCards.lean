/-
  DERIVED. GIVEN WITH THE SEED: THE CARDS: each row of YtpjapoaagbdlfaaGreatDoorRows.lean that lists a variable, with what it lists TIED to the program's text (the seventh form; the later family's looks); each row that meets fmt, with fmt's text TOLD by the authors' own Lean function (tested against real Go, not proved from fmt's source: count such statements apart). THE CARD IS WHAT COUNTS. Prove the row's statement (the work); the ties are given (YtpjapoaagbdlfaaGreatDoorTie.lean); close each card by the builder's one call (the guide's Derived/Test/ToyasCard.lean, 'card_holds'). Laid BY PROGRAM, IN A SANDBOX (cutbox-door.mjs). By AI agents, Wed Nov 11 2026. No macro, syntax, notation, axiom, sorry.
-/
import Derived.Test.YtpjapoaagbdlfaaGreatDoorRows
import GoSem.ClaimSeven
namespace Go.Proofs.YtpjapoaagbdlfaaGreatDoor
namespace Rows

/-- THE TIED CARD OF 'laws.FnShadowProfile'. -/
def fnShadowProfileCard : Claim7 := { stood := { row := fnShadowProfileRow, standIns := [], harness := (true, "480251eb0121826018471e3c97b554cdd49cff60d16d5cae98238125f78332d0"), looks := true }, kinds := [], alts := [], laidByText := true, laidKinds := [.data, .data], laidTests := true, laidLooks := .later }
def FnShadowProfileCardSaid : Prop := Claim7.holds Tryz.pinned (.plain (OpenSpec.ofChange fnShadowProfileSpec)) fnShadowProfileCard

/-- THE TIED CARD OF 'laws.FnShadowDown'. -/
def fnShadowDownCard : Claim7 := { stood := { row := fnShadowDownRow, standIns := [], harness := (true, "480251eb0121826018471e3c97b554cdd49cff60d16d5cae98238125f78332d0"), looks := true }, kinds := [], alts := [], laidByText := true, laidKinds := [.data, .data], laidTests := true, laidLooks := .later }
def FnShadowDownCardSaid : Prop := Claim7.holds Tryz.pinned (.plain (OpenSpec.ofChange fnShadowDownSpec)) fnShadowDownCard

/-- THE TIED CARD OF 'laws.FnBoundary'. -/
def fnBoundaryCard : Claim7 := { stood := { row := fnBoundaryRow, standIns := [], harness := (true, "480251eb0121826018471e3c97b554cdd49cff60d16d5cae98238125f78332d0"), looks := true }, kinds := [], alts := [], laidByText := true, laidKinds := [.data, .data], laidTests := true, laidLooks := .later }
def FnBoundaryCardSaid : Prop := Claim7.holds Tryz.pinned (.plain (OpenSpec.ofChange fnBoundarySpec)) fnBoundaryCard

/-- THE SECOND FORM's CARD OF 'laws.FnShadowProfile'. -/
def fnShadowProfileUptoCard : Claim7 := { stood := { row := fnShadowProfileUptoRow, standIns := [], harness := (true, "480251eb0121826018471e3c97b554cdd49cff60d16d5cae98238125f78332d0"), looks := true }, kinds := [], alts := [], laidByText := true, laidKinds := [.data, .data], laidTests := true, laidLooks := .later }
def FnShadowProfileUptoCardSaid : Prop := Claim7.holds Tryz.pinned (.plain (OpenSpec.upto fnShadowProfileSpec)) fnShadowProfileUptoCard

/-- THE SECOND FORM's CARD OF 'laws.FnShadowDown'. -/
def fnShadowDownUptoCard : Claim7 := { stood := { row := fnShadowDownUptoRow, standIns := [], harness := (true, "480251eb0121826018471e3c97b554cdd49cff60d16d5cae98238125f78332d0"), looks := true }, kinds := [], alts := [], laidByText := true, laidKinds := [.data, .data], laidTests := true, laidLooks := .later }
def FnShadowDownUptoCardSaid : Prop := Claim7.holds Tryz.pinned (.plain (OpenSpec.upto fnShadowDownSpec)) fnShadowDownUptoCard

/-- THE SECOND FORM's CARD OF 'laws.FnBoundary'. -/
def fnBoundaryUptoCard : Claim7 := { stood := { row := fnBoundaryUptoRow, standIns := [], harness := (true, "480251eb0121826018471e3c97b554cdd49cff60d16d5cae98238125f78332d0"), looks := true }, kinds := [], alts := [], laidByText := true, laidKinds := [.data, .data], laidTests := true, laidLooks := .later }
def FnBoundaryUptoCardSaid : Prop := Claim7.holds Tryz.pinned (.plain (OpenSpec.upto fnBoundarySpec)) fnBoundaryUptoCard
end Rows
end Go.Proofs.YtpjapoaagbdlfaaGreatDoor
