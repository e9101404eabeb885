/-
  DERIVED. GIVEN WITH THE SEED: THE CARDS: each row of YtfcegnnajpflmaaDoorRows.lean that lists a variable, with what it lists TIED to the program's text (the seventh form; the later family's looks); each row that meets fmt, with fmt's text TOLD by the authors' own Lean function (tested against real Go, not proved from fmt's source: count such statements apart). THE CARD IS WHAT COUNTS. Prove the row's statement (the work); the ties are given (YtfcegnnajpflmaaDoorTie.lean); close each card by the builder's one call (the guide's Derived/Test/ToyasCard.lean, 'card_holds'). Laid BY PROGRAM, IN A SANDBOX (cutbox-door.mjs). By AI agents, Wed Nov 11 2026. No macro, syntax, notation, axiom, sorry.
-/
import Derived.Test.YtfcegnnajpflmaaDoorRows
import GoSem.ClaimSeven
namespace Go.Proofs.YtfcegnnajpflmaaDoor
namespace Rows

/-- THE TIED CARD OF 'laws.FnExactIntersectRank'. -/
def fnExactIntersectRankCard : Claim7 := { stood := { row := fnExactIntersectRankRow, standIns := [], harness := (true, "ddc2c98abaec9fe0a9c804c8ceb798375dbf5a065f48a6302e2a3241a6741630"), looks := true }, kinds := [], alts := [], laidByText := true, laidKinds := [.data, .data, .handle], laidTests := true, laidLooks := .later }
def FnExactIntersectRankCardSaid : Prop := Claim7.holds Tryd.pinned (.plain (OpenSpec.ofChange fnExactIntersectRankSpec)) fnExactIntersectRankCard

/-- THE SECOND FORM's CARD OF 'laws.FnExactIntersectRank'. -/
def fnExactIntersectRankUptoCard : Claim7 := { stood := { row := fnExactIntersectRankUptoRow, standIns := [], harness := (true, "ddc2c98abaec9fe0a9c804c8ceb798375dbf5a065f48a6302e2a3241a6741630"), looks := true }, kinds := [], alts := [], laidByText := true, laidKinds := [.data, .data, .handle], laidTests := true, laidLooks := .later }
def FnExactIntersectRankUptoCardSaid : Prop := Claim7.holds Tryd.pinned (.plain (OpenSpec.upto fnExactIntersectRankSpec)) fnExactIntersectRankUptoCard
end Rows
end Go.Proofs.YtfcegnnajpflmaaDoor
