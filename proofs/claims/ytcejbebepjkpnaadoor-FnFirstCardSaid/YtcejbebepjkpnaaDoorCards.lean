/-
  DERIVED. GIVEN WITH THE SEED: THE CARDS: each row of YtcejbebepjkpnaaDoorRows.lean that lists a variable, with what it lists TIED to the program's text (the seventh form; the later family's looks); each row that meets fmt, with fmt's text TOLD by the authors' own Lean function (tested against real Go, not proved from fmt's source: count such statements apart). THE CARD IS WHAT COUNTS. Prove the row's statement (the work); the ties are given (YtcejbebepjkpnaaDoorTie.lean); close each card by the builder's one call (the guide's Derived/Test/ToyasCard.lean, 'card_holds'). Laid BY PROGRAM, IN A SANDBOX (cutbox-door.mjs). By AI agents, Wed Nov 11 2026. No macro, syntax, notation, axiom, sorry.
-/
import Derived.Test.YtcejbebepjkpnaaDoorRows
import GoSem.ClaimSeven
namespace Go.Proofs.YtcejbebepjkpnaaDoor
namespace Rows

/-- THE TIED CARD OF 'laws.FnFirst'. -/
def fnFirstCard : Claim7 := { stood := { row := fnFirstRow, standIns := [], harness := (true, "0f20427f649d1fa24c5406a145725b5994689c29c3cfa4f8c01aaede52ad2646"), looks := false }, kinds := [], alts := [], laidByText := true, laidKinds := [.data, .data], laidTests := true, laidLooks := .later }
def FnFirstCardSaid : Prop := Claim7.holds Tryd.pinned (.plain (OpenSpec.ofChange fnFirstSpec)) fnFirstCard

/-- THE TIED CARD OF 'laws.FnExactShadowOf'. -/
def fnExactShadowOfCard : Claim7 := { stood := { row := fnExactShadowOfRow, standIns := [], harness := (true, "0f20427f649d1fa24c5406a145725b5994689c29c3cfa4f8c01aaede52ad2646"), looks := false }, kinds := [], alts := [], laidByText := true, laidKinds := [.data, .data], laidTests := true, laidLooks := .later }
def FnExactShadowOfCardSaid : Prop := Claim7.holds Tryd.pinned (.plain (OpenSpec.ofChange fnExactShadowOfSpec)) fnExactShadowOfCard

/-- THE TIED CARD OF 'laws.FnExactShadowUp'. -/
def fnExactShadowUpCard : Claim7 := { stood := { row := fnExactShadowUpRow, standIns := [], harness := (true, "0f20427f649d1fa24c5406a145725b5994689c29c3cfa4f8c01aaede52ad2646"), looks := false }, kinds := [], alts := [], laidByText := true, laidKinds := [.data, .data], laidTests := true, laidLooks := .later }
def FnExactShadowUpCardSaid : Prop := Claim7.holds Tryd.pinned (.plain (OpenSpec.ofChange fnExactShadowUpSpec)) fnExactShadowUpCard

/-- THE TIED CARD OF 'laws.FnExactShadowTimes'. -/
def fnExactShadowTimesCard : Claim7 := { stood := { row := fnExactShadowTimesRow, standIns := [], harness := (true, "0f20427f649d1fa24c5406a145725b5994689c29c3cfa4f8c01aaede52ad2646"), looks := false }, kinds := [], alts := [], laidByText := true, laidKinds := [.data, .data], laidTests := true, laidLooks := .later }
def FnExactShadowTimesCardSaid : Prop := Claim7.holds Tryd.pinned (.plain (OpenSpec.ofChange fnExactShadowTimesSpec)) fnExactShadowTimesCard

/-- THE SECOND FORM's CARD OF 'laws.FnFirst'. -/
def fnFirstUptoCard : Claim7 := { stood := { row := fnFirstUptoRow, standIns := [], harness := (true, "0f20427f649d1fa24c5406a145725b5994689c29c3cfa4f8c01aaede52ad2646"), looks := false }, kinds := [], alts := [], laidByText := true, laidKinds := [.data, .data], laidTests := true, laidLooks := .later }
def FnFirstUptoCardSaid : Prop := Claim7.holds Tryd.pinned (.plain (OpenSpec.upto fnFirstSpec)) fnFirstUptoCard

/-- THE SECOND FORM's CARD OF 'laws.FnExactShadowOf'. -/
def fnExactShadowOfUptoCard : Claim7 := { stood := { row := fnExactShadowOfUptoRow, standIns := [], harness := (true, "0f20427f649d1fa24c5406a145725b5994689c29c3cfa4f8c01aaede52ad2646"), looks := false }, kinds := [], alts := [], laidByText := true, laidKinds := [.data, .data], laidTests := true, laidLooks := .later }
def FnExactShadowOfUptoCardSaid : Prop := Claim7.holds Tryd.pinned (.plain (OpenSpec.upto fnExactShadowOfSpec)) fnExactShadowOfUptoCard

/-- THE SECOND FORM's CARD OF 'laws.FnExactShadowUp'. -/
def fnExactShadowUpUptoCard : Claim7 := { stood := { row := fnExactShadowUpUptoRow, standIns := [], harness := (true, "0f20427f649d1fa24c5406a145725b5994689c29c3cfa4f8c01aaede52ad2646"), looks := false }, kinds := [], alts := [], laidByText := true, laidKinds := [.data, .data], laidTests := true, laidLooks := .later }
def FnExactShadowUpUptoCardSaid : Prop := Claim7.holds Tryd.pinned (.plain (OpenSpec.upto fnExactShadowUpSpec)) fnExactShadowUpUptoCard

/-- THE SECOND FORM's CARD OF 'laws.FnExactShadowTimes'. -/
def fnExactShadowTimesUptoCard : Claim7 := { stood := { row := fnExactShadowTimesUptoRow, standIns := [], harness := (true, "0f20427f649d1fa24c5406a145725b5994689c29c3cfa4f8c01aaede52ad2646"), looks := false }, kinds := [], alts := [], laidByText := true, laidKinds := [.data, .data], laidTests := true, laidLooks := .later }
def FnExactShadowTimesUptoCardSaid : Prop := Claim7.holds Tryd.pinned (.plain (OpenSpec.upto fnExactShadowTimesSpec)) fnExactShadowTimesUptoCard
end Rows
end Go.Proofs.YtcejbebepjkpnaaDoor
