/-
  DERIVED. GIVEN WITH THE SEED: THE CARDS: each row of YtgimceanhmhgkaaDoorRows.lean that lists a variable, with what it lists TIED to the program's text (the seventh form; the later family's looks); each row that meets fmt, with fmt's text TOLD by the authors' own Lean function (tested against real Go, not proved from fmt's source: count such statements apart). THE CARD IS WHAT COUNTS. Prove the row's statement (the work); the ties are given (YtgimceanhmhgkaaDoorTie.lean); close each card by the builder's one call (the guide's Derived/Test/ToyasCard.lean, 'card_holds'). Laid BY PROGRAM, IN A SANDBOX (cutbox-door.mjs). By AI agents, Wed Nov 11 2026. No macro, syntax, notation, axiom, sorry.
-/
import Derived.Test.YtgimceanhmhgkaaDoorRows
import GoSem.ClaimSeven
namespace Go.Proofs.YtgimceanhmhgkaaDoor
namespace Rows

/-- THE TIED CARD OF 'laws.FnExactSetPoints'. -/
def fnExactSetPointsCard : Claim7 := { stood := { row := fnExactSetPointsRow, standIns := [], harness := (true, "597c9fa265a9e7e437085520eadb5162d810b517d28a0cc817b2919efb1a5cd1"), looks := false }, kinds := [], alts := [], laidByText := true, laidKinds := [.data, .data], laidTests := true, laidLooks := .later }
def FnExactSetPointsCardSaid : Prop := Claim7.holds Tryd.pinned (.plain (OpenSpec.ofChange fnExactSetPointsSpec)) fnExactSetPointsCard

/-- THE TIED CARD OF 'laws.FnExactSetRank'. -/
def fnExactSetRankCard : Claim7 := { stood := { row := fnExactSetRankRow, standIns := [], harness := (true, "597c9fa265a9e7e437085520eadb5162d810b517d28a0cc817b2919efb1a5cd1"), looks := false }, kinds := [], alts := [], laidByText := true, laidKinds := [.data, .data], laidTests := true, laidLooks := .later }
def FnExactSetRankCardSaid : Prop := Claim7.holds Tryd.pinned (.plain (OpenSpec.ofChange fnExactSetRankSpec)) fnExactSetRankCard

/-- THE TIED CARD OF 'laws.FnExactSetText'. -/
def fnExactSetTextCard : Claim7 := { stood := { row := fnExactSetTextRow, standIns := [], harness := (true, "597c9fa265a9e7e437085520eadb5162d810b517d28a0cc817b2919efb1a5cd1"), looks := false }, kinds := [], alts := [], laidByText := true, laidKinds := [.data, .data], laidTests := true, laidLooks := .later }
def FnExactSetTextCardSaid : Prop := Claim7.holds Tryd.pinned (.plain (OpenSpec.ofChange fnExactSetTextSpec)) fnExactSetTextCard

/-- THE SECOND FORM's CARD OF 'laws.FnExactSetPoints'. -/
def fnExactSetPointsUptoCard : Claim7 := { stood := { row := fnExactSetPointsUptoRow, standIns := [], harness := (true, "597c9fa265a9e7e437085520eadb5162d810b517d28a0cc817b2919efb1a5cd1"), looks := false }, kinds := [], alts := [], laidByText := true, laidKinds := [.data, .data], laidTests := true, laidLooks := .later }
def FnExactSetPointsUptoCardSaid : Prop := Claim7.holds Tryd.pinned (.plain (OpenSpec.upto fnExactSetPointsSpec)) fnExactSetPointsUptoCard

/-- THE SECOND FORM's CARD OF 'laws.FnExactSetRank'. -/
def fnExactSetRankUptoCard : Claim7 := { stood := { row := fnExactSetRankUptoRow, standIns := [], harness := (true, "597c9fa265a9e7e437085520eadb5162d810b517d28a0cc817b2919efb1a5cd1"), looks := false }, kinds := [], alts := [], laidByText := true, laidKinds := [.data, .data], laidTests := true, laidLooks := .later }
def FnExactSetRankUptoCardSaid : Prop := Claim7.holds Tryd.pinned (.plain (OpenSpec.upto fnExactSetRankSpec)) fnExactSetRankUptoCard

/-- THE SECOND FORM's CARD OF 'laws.FnExactSetText'. -/
def fnExactSetTextUptoCard : Claim7 := { stood := { row := fnExactSetTextUptoRow, standIns := [], harness := (true, "597c9fa265a9e7e437085520eadb5162d810b517d28a0cc817b2919efb1a5cd1"), looks := false }, kinds := [], alts := [], laidByText := true, laidKinds := [.data, .data], laidTests := true, laidLooks := .later }
def FnExactSetTextUptoCardSaid : Prop := Claim7.holds Tryd.pinned (.plain (OpenSpec.upto fnExactSetTextSpec)) fnExactSetTextUptoCard
end Rows
end Go.Proofs.YtgimceanhmhgkaaDoor
