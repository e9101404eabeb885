/-
  DERIVED. GIVEN WITH THE SEED: THE CARDS: each row of YtgkbaenjniapiaaDoorRows.lean that lists a variable, with what it lists TIED to the program's text (the seventh form; the later family's looks); each row that meets fmt, with fmt's text TOLD by the authors' own Lean function (tested against real Go, not proved from fmt's source: count such statements apart). THE CARD IS WHAT COUNTS. Prove the row's statement (the work); the ties are given (YtgkbaenjniapiaaDoorTie.lean); close each card by the builder's one call (the guide's Derived/Test/ToyasCard.lean, 'card_holds'). Laid BY PROGRAM, IN A SANDBOX (cutbox-door.mjs). By AI agents, Wed Nov 11 2026. No macro, syntax, notation, axiom, sorry.
-/
import Derived.Test.YtgkbaenjniapiaaDoorRows
import GoSem.ClaimSeven
namespace Go.Proofs.YtgkbaenjniapiaaDoor
namespace Rows

/-- THE TIED CARD OF 'laws.FnUp'. -/
def fnUpCard : Claim7 := { stood := { row := fnUpRow, standIns := [], harness := (true, "48cad00e13bbce254224554f05dc836dbe10a2388cf6b38c37776de92bda777c"), looks := true }, kinds := [], alts := [], laidByText := true, laidKinds := [.data, .data], laidTests := true, laidLooks := .later }
def FnUpCardSaid : Prop := Claim7.holds Tryd.pinned (.plain (OpenSpec.ofChange fnUpSpec)) fnUpCard

/-- THE TIED CARD OF 'laws.FnTimes'. -/
def fnTimesCard : Claim7 := { stood := { row := fnTimesRow, standIns := [], harness := (true, "48cad00e13bbce254224554f05dc836dbe10a2388cf6b38c37776de92bda777c"), looks := true }, kinds := [], alts := [], laidByText := true, laidKinds := [.data, .data], laidTests := true, laidLooks := .later }
def FnTimesCardSaid : Prop := Claim7.holds Tryd.pinned (.plain (OpenSpec.ofChange fnTimesSpec)) fnTimesCard

/-- THE TIED CARD OF 'laws.FnDown'. -/
def fnDownCard : Claim7 := { stood := { row := fnDownRow, standIns := [], harness := (true, "48cad00e13bbce254224554f05dc836dbe10a2388cf6b38c37776de92bda777c"), looks := true }, kinds := [], alts := [], laidByText := true, laidKinds := [.data, .data], laidTests := true, laidLooks := .later }
def FnDownCardSaid : Prop := Claim7.holds Tryd.pinned (.plain (OpenSpec.ofChange fnDownSpec)) fnDownCard

/-- THE TIED CARD OF 'laws.FnShiftAll'. -/
def fnShiftAllCard : Claim7 := { stood := { row := fnShiftAllRow, standIns := [], harness := (true, "48cad00e13bbce254224554f05dc836dbe10a2388cf6b38c37776de92bda777c"), looks := true }, kinds := [], alts := [], laidByText := true, laidKinds := [.data, .data], laidTests := true, laidLooks := .later }
def FnShiftAllCardSaid : Prop := Claim7.holds Tryd.pinned (.plain (OpenSpec.ofChange fnShiftAllSpec)) fnShiftAllCard

/-- THE TIED CARD OF 'laws.FnIntersectRank'. -/
def fnIntersectRankCard : Claim7 := { stood := { row := fnIntersectRankRow, standIns := [], harness := (true, "48cad00e13bbce254224554f05dc836dbe10a2388cf6b38c37776de92bda777c"), looks := true }, kinds := [], alts := [], laidByText := true, laidKinds := [.data, .data, .handle], laidTests := true, laidLooks := .later }
def FnIntersectRankCardSaid : Prop := Claim7.holds Tryd.pinned (.plain (OpenSpec.ofChange fnIntersectRankSpec)) fnIntersectRankCard

/-- THE SECOND FORM's CARD OF 'laws.FnUp'. -/
def fnUpUptoCard : Claim7 := { stood := { row := fnUpUptoRow, standIns := [], harness := (true, "48cad00e13bbce254224554f05dc836dbe10a2388cf6b38c37776de92bda777c"), looks := true }, kinds := [], alts := [], laidByText := true, laidKinds := [.data, .data], laidTests := true, laidLooks := .later }
def FnUpUptoCardSaid : Prop := Claim7.holds Tryd.pinned (.plain (OpenSpec.upto fnUpSpec)) fnUpUptoCard

/-- THE SECOND FORM's CARD OF 'laws.FnTimes'. -/
def fnTimesUptoCard : Claim7 := { stood := { row := fnTimesUptoRow, standIns := [], harness := (true, "48cad00e13bbce254224554f05dc836dbe10a2388cf6b38c37776de92bda777c"), looks := true }, kinds := [], alts := [], laidByText := true, laidKinds := [.data, .data], laidTests := true, laidLooks := .later }
def FnTimesUptoCardSaid : Prop := Claim7.holds Tryd.pinned (.plain (OpenSpec.upto fnTimesSpec)) fnTimesUptoCard

/-- THE SECOND FORM's CARD OF 'laws.FnDown'. -/
def fnDownUptoCard : Claim7 := { stood := { row := fnDownUptoRow, standIns := [], harness := (true, "48cad00e13bbce254224554f05dc836dbe10a2388cf6b38c37776de92bda777c"), looks := true }, kinds := [], alts := [], laidByText := true, laidKinds := [.data, .data], laidTests := true, laidLooks := .later }
def FnDownUptoCardSaid : Prop := Claim7.holds Tryd.pinned (.plain (OpenSpec.upto fnDownSpec)) fnDownUptoCard

/-- THE SECOND FORM's CARD OF 'laws.FnShiftAll'. -/
def fnShiftAllUptoCard : Claim7 := { stood := { row := fnShiftAllUptoRow, standIns := [], harness := (true, "48cad00e13bbce254224554f05dc836dbe10a2388cf6b38c37776de92bda777c"), looks := true }, kinds := [], alts := [], laidByText := true, laidKinds := [.data, .data], laidTests := true, laidLooks := .later }
def FnShiftAllUptoCardSaid : Prop := Claim7.holds Tryd.pinned (.plain (OpenSpec.upto fnShiftAllSpec)) fnShiftAllUptoCard

/-- THE SECOND FORM's CARD OF 'laws.FnIntersectRank'. -/
def fnIntersectRankUptoCard : Claim7 := { stood := { row := fnIntersectRankUptoRow, standIns := [], harness := (true, "48cad00e13bbce254224554f05dc836dbe10a2388cf6b38c37776de92bda777c"), looks := true }, kinds := [], alts := [], laidByText := true, laidKinds := [.data, .data, .handle], laidTests := true, laidLooks := .later }
def FnIntersectRankUptoCardSaid : Prop := Claim7.holds Tryd.pinned (.plain (OpenSpec.upto fnIntersectRankSpec)) fnIntersectRankUptoCard
end Rows
end Go.Proofs.YtgkbaenjniapiaaDoor
