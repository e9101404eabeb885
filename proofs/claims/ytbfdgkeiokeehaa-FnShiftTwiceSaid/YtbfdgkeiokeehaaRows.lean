/-
  No cell of these rows narrows 'for every input' (looked for: loops, veiled, ifaces, maps, wideKeys, modest, calm, conditions, laid).
  DERIVED. THE GIVEN ROWS OF THIS SEAT. 8 by the template 'for every input the law returns true; each argument reads behind the call as it read before'; 0 by the template 'total and deterministic' (their statements: YtbfdgkeiokeehaaTotals.lean).
  GIVEN WITH THE SEED: the statements are not yours to turn. If you find one false, say at which input.
  Laid BY PROGRAM, IN A SANDBOX (cutbox-rows.mjs): the forced cells as the released guide's own fill.sh prints them over the translation 5fe863bfff06880d… (all of the seat's roots in one cut). By AI agents, Wed Nov 11 2026. No macro, syntax, notation, axiom, sorry.
-/
import Derived.Test.YtbfdgkeiokeehaaChecked
import GoSem.Claim
import GoSem.ClaimJoined
import GoSem.ClaimMapViews
import Derived.JoinedTies
import Derived.KernelRfl
namespace Go.Proofs.Ytbfdgkeiokeehaa
/- THE CELL 'sum', in the pinned program and in every row, IS THE sha256 OF THE DUMP (.gsa) THAT YtbfdgkeiokeehaaProg.lean LOADS. Nothing in Lean hashes anything: it is a label: what it is worth is what the hold of that sum in a sandbox is worth. -/
noncomputable def Try.pinned : Pinned := { name := "ytbfdgkeiokeehaa", sum := "5fe863bfff06880d30640fa1cdb486a8596d8513d768648942f502c009bfcd65", checked := Try.checked }
namespace Rows
def none {H : Type} : Left H := { results := [], args := [] }

/-- 'laws.FnShiftTwice': WHATEVER THE INPUT: true; the input reads as it did. -/
def fnShiftTwiceSpec : ChangeSpec := { name := "fnShiftTwice", fn := fun _ => fun
  | [d] => { results := [.lit (.bool true)], args := [d] }
  | _ => none }
def fnShiftTwiceRow : OpenClaim := { program := "ytbfdgkeiokeehaa", sum := "5fe863bfff06880d30640fa1cdb486a8596d8513d768648942f502c009bfcd65", func := "loop.example/setshadows/laws.FnShiftTwice", spec := "fnShiftTwice", inPlace := ["slices.overlaps[loop.example/setshadows/impl.set]"], unfollowed := true, recurses := true, apart := false }
def FnShiftTwiceSaid : Prop := fnShiftTwiceRow.holds Try.pinned (OpenSpec.ofChange fnShiftTwiceSpec)

/-- ITS FALSE NEIGHBOUR: 'it returns false'. Refute it at one input. -/
def fnShiftTwiceWrong : ChangeSpec := { name := "fnShiftTwice", fn := fun _ => fun
  | [d] => { results := [.lit (.bool false)], args := [d] }
  | _ => none }
def FnShiftTwiceWrongFalsely : Prop := fnShiftTwiceRow.holds Try.pinned (OpenSpec.ofChange fnShiftTwiceWrong)

/-- 'laws.FnExactSetMoved': WHATEVER THE INPUT: true; the input reads as it did. -/
def fnExactSetMovedSpec : ChangeSpec := { name := "fnExactSetMoved", fn := fun _ => fun
  | [d1, d2, d3, d4] => { results := [.lit (.bool true)], args := [d1, d2, d3, d4] }
  | _ => none }
def fnExactSetMovedRow : OpenClaim := { program := "ytbfdgkeiokeehaa", sum := "5fe863bfff06880d30640fa1cdb486a8596d8513d768648942f502c009bfcd65", func := "loop.example/setshadows/laws.FnExactSetMoved", spec := "fnExactSetMoved", apart := false }
def FnExactSetMovedSaid : Prop := fnExactSetMovedRow.holds Try.pinned (OpenSpec.ofChange fnExactSetMovedSpec)

/-- ITS FALSE NEIGHBOUR: 'it returns false'. Refute it at one input. -/
def fnExactSetMovedWrong : ChangeSpec := { name := "fnExactSetMoved", fn := fun _ => fun
  | [d1, d2, d3, d4] => { results := [.lit (.bool false)], args := [d1, d2, d3, d4] }
  | _ => none }
def FnExactSetMovedWrongFalsely : Prop := fnExactSetMovedRow.holds Try.pinned (OpenSpec.ofChange fnExactSetMovedWrong)

/-- 'laws.FnExactShiftOf': WHATEVER THE INPUT: true; the input reads as it did. -/
def fnExactShiftOfSpec : ChangeSpec := { name := "fnExactShiftOf", fn := fun _ => fun
  | [d1, d2, d3, d4] => { results := [.lit (.bool true)], args := [d1, d2, d3, d4] }
  | _ => none }
def fnExactShiftOfRow : OpenClaim := { program := "ytbfdgkeiokeehaa", sum := "5fe863bfff06880d30640fa1cdb486a8596d8513d768648942f502c009bfcd65", func := "loop.example/setshadows/laws.FnExactShiftOf", spec := "fnExactShiftOf", inPlace := ["slices.overlaps[loop.example/setshadows/impl.set]"], unfollowed := true, recurses := true, apart := false }
def FnExactShiftOfSaid : Prop := fnExactShiftOfRow.holds Try.pinned (OpenSpec.ofChange fnExactShiftOfSpec)

/-- ITS FALSE NEIGHBOUR: 'it returns false'. Refute it at one input. -/
def fnExactShiftOfWrong : ChangeSpec := { name := "fnExactShiftOf", fn := fun _ => fun
  | [d1, d2, d3, d4] => { results := [.lit (.bool false)], args := [d1, d2, d3, d4] }
  | _ => none }
def FnExactShiftOfWrongFalsely : Prop := fnExactShiftOfRow.holds Try.pinned (OpenSpec.ofChange fnExactShiftOfWrong)

/-- 'laws.FnExactShiftPress': WHATEVER THE INPUT: true; the input reads as it did. -/
def fnExactShiftPressSpec : ChangeSpec := { name := "fnExactShiftPress", fn := fun _ => fun
  | [d1, d2, d3] => { results := [.lit (.bool true)], args := [d1, d2, d3] }
  | _ => none }
def fnExactShiftPressRow : OpenClaim := { program := "ytbfdgkeiokeehaa", sum := "5fe863bfff06880d30640fa1cdb486a8596d8513d768648942f502c009bfcd65", func := "loop.example/setshadows/laws.FnExactShiftPress", spec := "fnExactShiftPress", inPlace := ["slices.overlaps[loop.example/setshadows/impl.set]"], unfollowed := true, recurses := true, apart := false }
def FnExactShiftPressSaid : Prop := fnExactShiftPressRow.holds Try.pinned (OpenSpec.ofChange fnExactShiftPressSpec)

/-- ITS FALSE NEIGHBOUR: 'it returns false'. Refute it at one input. -/
def fnExactShiftPressWrong : ChangeSpec := { name := "fnExactShiftPress", fn := fun _ => fun
  | [d1, d2, d3] => { results := [.lit (.bool false)], args := [d1, d2, d3] }
  | _ => none }
def FnExactShiftPressWrongFalsely : Prop := fnExactShiftPressRow.holds Try.pinned (OpenSpec.ofChange fnExactShiftPressWrong)

/-- 'laws.FnExactShiftedIn': WHATEVER THE INPUT: true; the input reads as it did. -/
def fnExactShiftedInSpec : ChangeSpec := { name := "fnExactShiftedIn", fn := fun _ => fun
  | [d1, d2] => { results := [.lit (.bool true)], args := [d1, d2] }
  | _ => none }
def fnExactShiftedInRow : OpenClaim := { program := "ytbfdgkeiokeehaa", sum := "5fe863bfff06880d30640fa1cdb486a8596d8513d768648942f502c009bfcd65", func := "loop.example/setshadows/laws.FnExactShiftedIn", spec := "fnExactShiftedIn", inPlace := ["slices.overlaps[loop.example/setshadows/impl.set]"], unfollowed := true, recurses := true, apart := false }
def FnExactShiftedInSaid : Prop := fnExactShiftedInRow.holds Try.pinned (OpenSpec.ofChange fnExactShiftedInSpec)

/-- ITS FALSE NEIGHBOUR: 'it returns false'. Refute it at one input. -/
def fnExactShiftedInWrong : ChangeSpec := { name := "fnExactShiftedIn", fn := fun _ => fun
  | [d1, d2] => { results := [.lit (.bool false)], args := [d1, d2] }
  | _ => none }
def FnExactShiftedInWrongFalsely : Prop := fnExactShiftedInRow.holds Try.pinned (OpenSpec.ofChange fnExactShiftedInWrong)

/-- 'laws.FnExactPressedIn': WHATEVER THE INPUT: true; the input reads as it did. -/
def fnExactPressedInSpec : ChangeSpec := { name := "fnExactPressedIn", fn := fun _ => fun
  | [d1, d2] => { results := [.lit (.bool true)], args := [d1, d2] }
  | _ => none }
def fnExactPressedInRow : OpenClaim := { program := "ytbfdgkeiokeehaa", sum := "5fe863bfff06880d30640fa1cdb486a8596d8513d768648942f502c009bfcd65", func := "loop.example/setshadows/laws.FnExactPressedIn", spec := "fnExactPressedIn", inPlace := ["slices.overlaps[loop.example/setshadows/impl.set]"], unfollowed := true, recurses := true, apart := false }
def FnExactPressedInSaid : Prop := fnExactPressedInRow.holds Try.pinned (OpenSpec.ofChange fnExactPressedInSpec)

/-- ITS FALSE NEIGHBOUR: 'it returns false'. Refute it at one input. -/
def fnExactPressedInWrong : ChangeSpec := { name := "fnExactPressedIn", fn := fun _ => fun
  | [d1, d2] => { results := [.lit (.bool false)], args := [d1, d2] }
  | _ => none }
def FnExactPressedInWrongFalsely : Prop := fnExactPressedInRow.holds Try.pinned (OpenSpec.ofChange fnExactPressedInWrong)

/-- 'laws.FnExactShiftAll': WHATEVER THE INPUT: true; the input reads as it did. -/
def fnExactShiftAllSpec : ChangeSpec := { name := "fnExactShiftAll", fn := fun _ => fun
  | [d1, d2] => { results := [.lit (.bool true)], args := [d1, d2] }
  | _ => none }
def fnExactShiftAllRow : OpenClaim := { program := "ytbfdgkeiokeehaa", sum := "5fe863bfff06880d30640fa1cdb486a8596d8513d768648942f502c009bfcd65", func := "loop.example/setshadows/laws.FnExactShiftAll", spec := "fnExactShiftAll", inPlace := ["slices.overlaps[loop.example/setshadows/impl.set]"], unfollowed := true, recurses := true, apart := false }
def FnExactShiftAllSaid : Prop := fnExactShiftAllRow.holds Try.pinned (OpenSpec.ofChange fnExactShiftAllSpec)

/-- ITS FALSE NEIGHBOUR: 'it returns false'. Refute it at one input. -/
def fnExactShiftAllWrong : ChangeSpec := { name := "fnExactShiftAll", fn := fun _ => fun
  | [d1, d2] => { results := [.lit (.bool false)], args := [d1, d2] }
  | _ => none }
def FnExactShiftAllWrongFalsely : Prop := fnExactShiftAllRow.holds Try.pinned (OpenSpec.ofChange fnExactShiftAllWrong)

/-- 'laws.FnExactPressAll': WHATEVER THE INPUT: true; the input reads as it did. -/
def fnExactPressAllSpec : ChangeSpec := { name := "fnExactPressAll", fn := fun _ => fun
  | [d1, d2] => { results := [.lit (.bool true)], args := [d1, d2] }
  | _ => none }
def fnExactPressAllRow : OpenClaim := { program := "ytbfdgkeiokeehaa", sum := "5fe863bfff06880d30640fa1cdb486a8596d8513d768648942f502c009bfcd65", func := "loop.example/setshadows/laws.FnExactPressAll", spec := "fnExactPressAll", inPlace := ["slices.overlaps[loop.example/setshadows/impl.set]"], unfollowed := true, recurses := true, apart := false }
def FnExactPressAllSaid : Prop := fnExactPressAllRow.holds Try.pinned (OpenSpec.ofChange fnExactPressAllSpec)

/-- ITS FALSE NEIGHBOUR: 'it returns false'. Refute it at one input. -/
def fnExactPressAllWrong : ChangeSpec := { name := "fnExactPressAll", fn := fun _ => fun
  | [d1, d2] => { results := [.lit (.bool false)], args := [d1, d2] }
  | _ => none }
def FnExactPressAllWrongFalsely : Prop := fnExactPressAllRow.holds Try.pinned (OpenSpec.ofChange fnExactPressAllWrong)

/- THE SECOND FORM. 'bulk': how many values and letters a reading holds, each counted each time it is reached (what is shared counts as often as it is met; a slice's spare places count too). A statement '..UptoSaid' is the law's where the arguments, and the package variables that the reading takes, are together of bulk at most 1048576: NARROWER than '..Said'. Prove '..Said' where nothing that the law and all that it calls make is longer than what came in: it says more and counts as full. Else prove '..UptoSaid'. A law counts once. -/
mutual
def uptoBulk {H : Type} : DataW H → Nat
  | .lit (.string bytes) => bytes.length + 1
  | .lit _ => 1
  | .nil => 1
  | .ptr d => uptoBulk d + 1
  | .slice elems spare => uptoBulkAll elems + uptoBulkAll spare + 1
  | .agg parts => uptoBulkAll parts + 1
  | .iface _ d => uptoBulk d + 1
  | .map entries => uptoBulkEntries entries + 1
  | .held _ => 1
def uptoBulkAll {H : Type} : List (DataW H) → Nat
  | [] => 0
  | d :: r => uptoBulk d + uptoBulkAll r
def uptoBulkEntries {H : Type} : List (Lit × DataW H) → Nat
  | [] => 0
  | x :: r => uptoBulkEntry x + uptoBulkEntries r
def uptoBulkEntry {H : Type} : Lit × DataW H → Nat
  | (.string bytes, d) => bytes.length + uptoBulk d + 1
  | (_, d) => uptoBulk d + 1
 end
def uptoSmall : (H : Type) → List (DataW H) → Bool := fun _ ds => decide (uptoBulkAll ds ≤ 1048576)
def OpenSpec.upto (s : _root_.Go.ChangeSpec) : _root_.Go.OpenSpec := { _root_.Go.OpenSpec.ofChange s with cond := some uptoSmall }

/-- 'laws.FnShiftTwice', WHERE WHAT IT READS IS OF BULK AT MOST 1048576: true; the input reads as it did. -/
def fnShiftTwiceUptoRow : OpenClaim := { program := "ytbfdgkeiokeehaa", sum := "5fe863bfff06880d30640fa1cdb486a8596d8513d768648942f502c009bfcd65", func := "loop.example/setshadows/laws.FnShiftTwice", spec := "fnShiftTwice", inPlace := ["slices.overlaps[loop.example/setshadows/impl.set]"], unfollowed := true, recurses := true, apart := false, narrowed := true }
def FnShiftTwiceUptoSaid : Prop := fnShiftTwiceUptoRow.holds Try.pinned (OpenSpec.upto fnShiftTwiceSpec)

/-- 'laws.FnExactSetMoved', WHERE WHAT IT READS IS OF BULK AT MOST 1048576: true; the input reads as it did. -/
def fnExactSetMovedUptoRow : OpenClaim := { program := "ytbfdgkeiokeehaa", sum := "5fe863bfff06880d30640fa1cdb486a8596d8513d768648942f502c009bfcd65", func := "loop.example/setshadows/laws.FnExactSetMoved", spec := "fnExactSetMoved", apart := false, narrowed := true }
def FnExactSetMovedUptoSaid : Prop := fnExactSetMovedUptoRow.holds Try.pinned (OpenSpec.upto fnExactSetMovedSpec)

/-- 'laws.FnExactShiftOf', WHERE WHAT IT READS IS OF BULK AT MOST 1048576: true; the input reads as it did. -/
def fnExactShiftOfUptoRow : OpenClaim := { program := "ytbfdgkeiokeehaa", sum := "5fe863bfff06880d30640fa1cdb486a8596d8513d768648942f502c009bfcd65", func := "loop.example/setshadows/laws.FnExactShiftOf", spec := "fnExactShiftOf", inPlace := ["slices.overlaps[loop.example/setshadows/impl.set]"], unfollowed := true, recurses := true, apart := false, narrowed := true }
def FnExactShiftOfUptoSaid : Prop := fnExactShiftOfUptoRow.holds Try.pinned (OpenSpec.upto fnExactShiftOfSpec)

/-- 'laws.FnExactShiftPress', WHERE WHAT IT READS IS OF BULK AT MOST 1048576: true; the input reads as it did. -/
def fnExactShiftPressUptoRow : OpenClaim := { program := "ytbfdgkeiokeehaa", sum := "5fe863bfff06880d30640fa1cdb486a8596d8513d768648942f502c009bfcd65", func := "loop.example/setshadows/laws.FnExactShiftPress", spec := "fnExactShiftPress", inPlace := ["slices.overlaps[loop.example/setshadows/impl.set]"], unfollowed := true, recurses := true, apart := false, narrowed := true }
def FnExactShiftPressUptoSaid : Prop := fnExactShiftPressUptoRow.holds Try.pinned (OpenSpec.upto fnExactShiftPressSpec)

/-- 'laws.FnExactShiftedIn', WHERE WHAT IT READS IS OF BULK AT MOST 1048576: true; the input reads as it did. -/
def fnExactShiftedInUptoRow : OpenClaim := { program := "ytbfdgkeiokeehaa", sum := "5fe863bfff06880d30640fa1cdb486a8596d8513d768648942f502c009bfcd65", func := "loop.example/setshadows/laws.FnExactShiftedIn", spec := "fnExactShiftedIn", inPlace := ["slices.overlaps[loop.example/setshadows/impl.set]"], unfollowed := true, recurses := true, apart := false, narrowed := true }
def FnExactShiftedInUptoSaid : Prop := fnExactShiftedInUptoRow.holds Try.pinned (OpenSpec.upto fnExactShiftedInSpec)

/-- 'laws.FnExactPressedIn', WHERE WHAT IT READS IS OF BULK AT MOST 1048576: true; the input reads as it did. -/
def fnExactPressedInUptoRow : OpenClaim := { program := "ytbfdgkeiokeehaa", sum := "5fe863bfff06880d30640fa1cdb486a8596d8513d768648942f502c009bfcd65", func := "loop.example/setshadows/laws.FnExactPressedIn", spec := "fnExactPressedIn", inPlace := ["slices.overlaps[loop.example/setshadows/impl.set]"], unfollowed := true, recurses := true, apart := false, narrowed := true }
def FnExactPressedInUptoSaid : Prop := fnExactPressedInUptoRow.holds Try.pinned (OpenSpec.upto fnExactPressedInSpec)

/-- 'laws.FnExactShiftAll', WHERE WHAT IT READS IS OF BULK AT MOST 1048576: true; the input reads as it did. -/
def fnExactShiftAllUptoRow : OpenClaim := { program := "ytbfdgkeiokeehaa", sum := "5fe863bfff06880d30640fa1cdb486a8596d8513d768648942f502c009bfcd65", func := "loop.example/setshadows/laws.FnExactShiftAll", spec := "fnExactShiftAll", inPlace := ["slices.overlaps[loop.example/setshadows/impl.set]"], unfollowed := true, recurses := true, apart := false, narrowed := true }
def FnExactShiftAllUptoSaid : Prop := fnExactShiftAllUptoRow.holds Try.pinned (OpenSpec.upto fnExactShiftAllSpec)

/-- 'laws.FnExactPressAll', WHERE WHAT IT READS IS OF BULK AT MOST 1048576: true; the input reads as it did. -/
def fnExactPressAllUptoRow : OpenClaim := { program := "ytbfdgkeiokeehaa", sum := "5fe863bfff06880d30640fa1cdb486a8596d8513d768648942f502c009bfcd65", func := "loop.example/setshadows/laws.FnExactPressAll", spec := "fnExactPressAll", inPlace := ["slices.overlaps[loop.example/setshadows/impl.set]"], unfollowed := true, recurses := true, apart := false, narrowed := true }
def FnExactPressAllUptoSaid : Prop := fnExactPressAllUptoRow.holds Try.pinned (OpenSpec.upto fnExactPressAllSpec)

end Rows
end Go.Proofs.Ytbfdgkeiokeehaa
