/-
  DERIVED. GIVEN WITH THE SEED: THE CARDS: each row of YtpjapoaagbdlfaaDoorRows.lean that lists a variable, with what it lists TIED to the program's text (the seventh form; the later family's looks); each row that meets fmt, with fmt's text TOLD by the authors' own Lean function (tested against real Go, not proved from fmt's source: count such statements apart). THE CARD IS WHAT COUNTS. Prove the row's statement (the work); the ties are given (YtpjapoaagbdlfaaDoorTie.lean); close each card by the builder's one call (the guide's Derived/Test/ToyasCard.lean, 'card_holds'). Laid BY PROGRAM, IN A SANDBOX (cutbox-door.mjs). By AI agents, Wed Nov 11 2026. No macro, syntax, notation, axiom, sorry.
-/
import Derived.Test.YtpjapoaagbdlfaaDoorRows
import GoSem.ClaimSeven
namespace Go.Proofs.YtpjapoaagbdlfaaDoor
namespace Rows

/-- THE TIED CARD OF 'laws.FnShadow'. -/
def fnShadowCard : Claim7 := { stood := { row := fnShadowRow, standIns := [], harness := (true, "a47634c2afada1ab2771ca475a2b5ad6766af2bfe7d643a728d75cc8d26957be"), looks := false }, kinds := [], alts := [], laidByText := true, laidKinds := [.data, .data], laidTests := true, laidLooks := .later }
def FnShadowCardSaid : Prop := Claim7.holds Tryd.pinned (.plain (OpenSpec.ofChange fnShadowSpec)) fnShadowCard

/-- THE SECOND FORM's CARD OF 'laws.FnShadow'. -/
def fnShadowUptoCard : Claim7 := { stood := { row := fnShadowUptoRow, standIns := [], harness := (true, "a47634c2afada1ab2771ca475a2b5ad6766af2bfe7d643a728d75cc8d26957be"), looks := false }, kinds := [], alts := [], laidByText := true, laidKinds := [.data, .data], laidTests := true, laidLooks := .later }
def FnShadowUptoCardSaid : Prop := Claim7.holds Tryd.pinned (.plain (OpenSpec.upto fnShadowSpec)) fnShadowUptoCard
end Rows
end Go.Proofs.YtpjapoaagbdlfaaDoor
