/-
  DERIVED. GIVEN WITH THE SEED: THE CARDS: each row of YtgkbaenjniapiaaGreatDoorRows.lean that lists a variable, with what it lists TIED to the program's text (the seventh form; the later family's looks); each row that meets fmt, with fmt's text TOLD by the authors' own Lean function (tested against real Go, not proved from fmt's source: count such statements apart). THE CARD IS WHAT COUNTS. Prove the row's statement (the work); the ties are given (YtgkbaenjniapiaaGreatDoorTie.lean); close each card by the builder's one call (the guide's Derived/Test/ToyasCard.lean, 'card_holds'). Laid BY PROGRAM, IN A SANDBOX (cutbox-door.mjs). By AI agents, Wed Nov 11 2026. No macro, syntax, notation, axiom, sorry.
-/
import Derived.Test.YtgkbaenjniapiaaGreatDoorRows
import GoSem.ClaimSeven
namespace Go.Proofs.YtgkbaenjniapiaaGreatDoor
namespace Rows

/-- THE TIED CARD OF 'laws.FnShift'. -/
def fnShiftCard : Claim7 := { stood := { row := fnShiftRow, standIns := [], harness := (true, "e2e9154c9b72a4538987d44b3388392dbd36916e0dc385825142f2febb268614"), looks := false }, kinds := [], alts := [], laidByText := true, laidKinds := [.data, .data], laidTests := true, laidLooks := .later }
def FnShiftCardSaid : Prop := Claim7.holds Tryz.pinned (.plain (OpenSpec.ofChange fnShiftSpec)) fnShiftCard

/-- THE TIED CARD OF 'laws.FnShadowProfile'. -/
def fnShadowProfileCard : Claim7 := { stood := { row := fnShadowProfileRow, standIns := [], harness := (true, "e2e9154c9b72a4538987d44b3388392dbd36916e0dc385825142f2febb268614"), looks := false }, kinds := [], alts := [], laidByText := true, laidKinds := [.data, .data], laidTests := true, laidLooks := .later }
def FnShadowProfileCardSaid : Prop := Claim7.holds Tryz.pinned (.plain (OpenSpec.ofChange fnShadowProfileSpec)) fnShadowProfileCard

/-- THE TIED CARD OF 'laws.FnShadowDown'. -/
def fnShadowDownCard : Claim7 := { stood := { row := fnShadowDownRow, standIns := [], harness := (true, "e2e9154c9b72a4538987d44b3388392dbd36916e0dc385825142f2febb268614"), looks := false }, kinds := [], alts := [], laidByText := true, laidKinds := [.data, .data], laidTests := true, laidLooks := .later }
def FnShadowDownCardSaid : Prop := Claim7.holds Tryz.pinned (.plain (OpenSpec.ofChange fnShadowDownSpec)) fnShadowDownCard

/-- THE SECOND FORM's CARD OF 'laws.FnShift'. -/
def fnShiftUptoCard : Claim7 := { stood := { row := fnShiftUptoRow, standIns := [], harness := (true, "e2e9154c9b72a4538987d44b3388392dbd36916e0dc385825142f2febb268614"), looks := false }, kinds := [], alts := [], laidByText := true, laidKinds := [.data, .data], laidTests := true, laidLooks := .later }
def FnShiftUptoCardSaid : Prop := Claim7.holds Tryz.pinned (.plain (OpenSpec.upto fnShiftSpec)) fnShiftUptoCard

/-- THE SECOND FORM's CARD OF 'laws.FnShadowProfile'. -/
def fnShadowProfileUptoCard : Claim7 := { stood := { row := fnShadowProfileUptoRow, standIns := [], harness := (true, "e2e9154c9b72a4538987d44b3388392dbd36916e0dc385825142f2febb268614"), looks := false }, kinds := [], alts := [], laidByText := true, laidKinds := [.data, .data], laidTests := true, laidLooks := .later }
def FnShadowProfileUptoCardSaid : Prop := Claim7.holds Tryz.pinned (.plain (OpenSpec.upto fnShadowProfileSpec)) fnShadowProfileUptoCard

/-- THE SECOND FORM's CARD OF 'laws.FnShadowDown'. -/
def fnShadowDownUptoCard : Claim7 := { stood := { row := fnShadowDownUptoRow, standIns := [], harness := (true, "e2e9154c9b72a4538987d44b3388392dbd36916e0dc385825142f2febb268614"), looks := false }, kinds := [], alts := [], laidByText := true, laidKinds := [.data, .data], laidTests := true, laidLooks := .later }
def FnShadowDownUptoCardSaid : Prop := Claim7.holds Tryz.pinned (.plain (OpenSpec.upto fnShadowDownSpec)) fnShadowDownUptoCard
end Rows
end Go.Proofs.YtgkbaenjniapiaaGreatDoor
