/-
  No cell of these rows narrows 'for every input' (looked for: loops, veiled, ifaces, maps, wideKeys, modest, calm, conditions, laid).
  DERIVED. THE GIVEN ROWS OF THIS SEAT. 10 by the template 'for every input the law returns true; each argument reads behind the call as it read before'; 0 by the template 'total and deterministic' (their statements: YthljimmhgpbmbabTotals.lean).
  GIVEN WITH THE SEED: the statements are not yours to turn. If you find one false, say at which input.
  Laid BY PROGRAM, IN A SANDBOX (cutbox-rows.mjs): the forced cells as the released guide's own fill.sh prints them over the translation 4be4b12d0f330f03… (all of the seat's roots in one cut). By AI agents, Wed Nov 11 2026. No macro, syntax, notation, axiom, sorry.
-/
import Derived.Test.YthljimmhgpbmbabChecked
import GoSem.Claim
import GoSem.ClaimJoined
import GoSem.ClaimMapViews
import Derived.JoinedTies
import Derived.KernelRfl
namespace Go.Proofs.Ythljimmhgpbmbab
/- THE CELL 'sum', in the pinned program and in every row, IS THE sha256 OF THE DUMP (.gsa) THAT YthljimmhgpbmbabProg.lean LOADS. Nothing in Lean hashes anything: it is a label: what it is worth is what the hold of that sum in a sandbox is worth. -/
noncomputable def Try.pinned : Pinned := { name := "ythljimmhgpbmbab", sum := "4be4b12d0f330f0371f6a94a909d671da11fc7a30501d0283a14e50e282b6a74", checked := Try.checked }
namespace Rows
def none {H : Type} : Left H := { results := [], args := [] }

/-- 'laws.FnDifference': WHATEVER THE INPUT: true; the input reads as it did. -/
def fnDifferenceSpec : ChangeSpec := { name := "fnDifference", fn := fun _ => fun
  | [d] => { results := [.lit (.bool true)], args := [d] }
  | _ => none }
def fnDifferenceRow : OpenClaim := { program := "ythljimmhgpbmbab", sum := "4be4b12d0f330f0371f6a94a909d671da11fc7a30501d0283a14e50e282b6a74", func := "loop.example/setshadows/laws.FnDifference", spec := "fnDifference", inPlace := ["slices.overlaps[loop.example/setshadows/impl.set]"], unfollowed := true, recurses := true, apart := false }
def FnDifferenceSaid : Prop := fnDifferenceRow.holds Try.pinned (OpenSpec.ofChange fnDifferenceSpec)

/-- ITS FALSE NEIGHBOUR: 'it returns false'. Refute it at one input. -/
def fnDifferenceWrong : ChangeSpec := { name := "fnDifference", fn := fun _ => fun
  | [d] => { results := [.lit (.bool false)], args := [d] }
  | _ => none }
def FnDifferenceWrongFalsely : Prop := fnDifferenceRow.holds Try.pinned (OpenSpec.ofChange fnDifferenceWrong)

/-- 'laws.FnMeets': WHATEVER THE INPUT: true; the input reads as it did. -/
def fnMeetsSpec : ChangeSpec := { name := "fnMeets", fn := fun _ => fun
  | [d] => { results := [.lit (.bool true)], args := [d] }
  | _ => none }
def fnMeetsRow : OpenClaim := { program := "ythljimmhgpbmbab", sum := "4be4b12d0f330f0371f6a94a909d671da11fc7a30501d0283a14e50e282b6a74", func := "loop.example/setshadows/laws.FnMeets", spec := "fnMeets", inPlace := ["slices.overlaps[loop.example/setshadows/impl.set]"], unfollowed := true, recurses := true, apart := false }
def FnMeetsSaid : Prop := fnMeetsRow.holds Try.pinned (OpenSpec.ofChange fnMeetsSpec)

/-- ITS FALSE NEIGHBOUR: 'it returns false'. Refute it at one input. -/
def fnMeetsWrong : ChangeSpec := { name := "fnMeets", fn := fun _ => fun
  | [d] => { results := [.lit (.bool false)], args := [d] }
  | _ => none }
def FnMeetsWrongFalsely : Prop := fnMeetsRow.holds Try.pinned (OpenSpec.ofChange fnMeetsWrong)

/-- 'laws.FnJoins': WHATEVER THE INPUT: true; the input reads as it did. -/
def fnJoinsSpec : ChangeSpec := { name := "fnJoins", fn := fun _ => fun
  | [d] => { results := [.lit (.bool true)], args := [d] }
  | _ => none }
def fnJoinsRow : OpenClaim := { program := "ythljimmhgpbmbab", sum := "4be4b12d0f330f0371f6a94a909d671da11fc7a30501d0283a14e50e282b6a74", func := "loop.example/setshadows/laws.FnJoins", spec := "fnJoins", inPlace := ["slices.overlaps[loop.example/setshadows/impl.set]"], unfollowed := true, recurses := true, apart := false }
def FnJoinsSaid : Prop := fnJoinsRow.holds Try.pinned (OpenSpec.ofChange fnJoinsSpec)

/-- ITS FALSE NEIGHBOUR: 'it returns false'. Refute it at one input. -/
def fnJoinsWrong : ChangeSpec := { name := "fnJoins", fn := fun _ => fun
  | [d] => { results := [.lit (.bool false)], args := [d] }
  | _ => none }
def FnJoinsWrongFalsely : Prop := fnJoinsRow.holds Try.pinned (OpenSpec.ofChange fnJoinsWrong)

/-- 'laws.FnUnionIn': WHATEVER THE INPUT: true; the input reads as it did. -/
def fnUnionInSpec : ChangeSpec := { name := "fnUnionIn", fn := fun _ => fun
  | [d] => { results := [.lit (.bool true)], args := [d] }
  | _ => none }
def fnUnionInRow : OpenClaim := { program := "ythljimmhgpbmbab", sum := "4be4b12d0f330f0371f6a94a909d671da11fc7a30501d0283a14e50e282b6a74", func := "loop.example/setshadows/laws.FnUnionIn", spec := "fnUnionIn", inPlace := ["slices.overlaps[loop.example/setshadows/impl.set]"], unfollowed := true, recurses := true, apart := false }
def FnUnionInSaid : Prop := fnUnionInRow.holds Try.pinned (OpenSpec.ofChange fnUnionInSpec)

/-- ITS FALSE NEIGHBOUR: 'it returns false'. Refute it at one input. -/
def fnUnionInWrong : ChangeSpec := { name := "fnUnionIn", fn := fun _ => fun
  | [d] => { results := [.lit (.bool false)], args := [d] }
  | _ => none }
def FnUnionInWrongFalsely : Prop := fnUnionInRow.holds Try.pinned (OpenSpec.ofChange fnUnionInWrong)

/-- 'laws.FnMeetIn': WHATEVER THE INPUT: true; the input reads as it did. -/
def fnMeetInSpec : ChangeSpec := { name := "fnMeetIn", fn := fun _ => fun
  | [d] => { results := [.lit (.bool true)], args := [d] }
  | _ => none }
def fnMeetInRow : OpenClaim := { program := "ythljimmhgpbmbab", sum := "4be4b12d0f330f0371f6a94a909d671da11fc7a30501d0283a14e50e282b6a74", func := "loop.example/setshadows/laws.FnMeetIn", spec := "fnMeetIn", inPlace := ["slices.overlaps[loop.example/setshadows/impl.set]"], unfollowed := true, recurses := true, apart := false }
def FnMeetInSaid : Prop := fnMeetInRow.holds Try.pinned (OpenSpec.ofChange fnMeetInSpec)

/-- ITS FALSE NEIGHBOUR: 'it returns false'. Refute it at one input. -/
def fnMeetInWrong : ChangeSpec := { name := "fnMeetIn", fn := fun _ => fun
  | [d] => { results := [.lit (.bool false)], args := [d] }
  | _ => none }
def FnMeetInWrongFalsely : Prop := fnMeetInRow.holds Try.pinned (OpenSpec.ofChange fnMeetInWrong)

/-- 'laws.FnUnionOf': WHATEVER THE INPUT: true; the input reads as it did. -/
def fnUnionOfSpec : ChangeSpec := { name := "fnUnionOf", fn := fun _ => fun
  | [d] => { results := [.lit (.bool true)], args := [d] }
  | _ => none }
def fnUnionOfRow : OpenClaim := { program := "ythljimmhgpbmbab", sum := "4be4b12d0f330f0371f6a94a909d671da11fc7a30501d0283a14e50e282b6a74", func := "loop.example/setshadows/laws.FnUnionOf", spec := "fnUnionOf", inPlace := ["slices.overlaps[loop.example/setshadows/impl.set]"], unfollowed := true, recurses := true, apart := false }
def FnUnionOfSaid : Prop := fnUnionOfRow.holds Try.pinned (OpenSpec.ofChange fnUnionOfSpec)

/-- ITS FALSE NEIGHBOUR: 'it returns false'. Refute it at one input. -/
def fnUnionOfWrong : ChangeSpec := { name := "fnUnionOf", fn := fun _ => fun
  | [d] => { results := [.lit (.bool false)], args := [d] }
  | _ => none }
def FnUnionOfWrongFalsely : Prop := fnUnionOfRow.holds Try.pinned (OpenSpec.ofChange fnUnionOfWrong)

/-- 'laws.FnMeetOf': WHATEVER THE INPUT: true; the input reads as it did. -/
def fnMeetOfSpec : ChangeSpec := { name := "fnMeetOf", fn := fun _ => fun
  | [d] => { results := [.lit (.bool true)], args := [d] }
  | _ => none }
def fnMeetOfRow : OpenClaim := { program := "ythljimmhgpbmbab", sum := "4be4b12d0f330f0371f6a94a909d671da11fc7a30501d0283a14e50e282b6a74", func := "loop.example/setshadows/laws.FnMeetOf", spec := "fnMeetOf", inPlace := ["slices.overlaps[loop.example/setshadows/impl.set]"], unfollowed := true, recurses := true, apart := false }
def FnMeetOfSaid : Prop := fnMeetOfRow.holds Try.pinned (OpenSpec.ofChange fnMeetOfSpec)

/-- ITS FALSE NEIGHBOUR: 'it returns false'. Refute it at one input. -/
def fnMeetOfWrong : ChangeSpec := { name := "fnMeetOf", fn := fun _ => fun
  | [d] => { results := [.lit (.bool false)], args := [d] }
  | _ => none }
def FnMeetOfWrongFalsely : Prop := fnMeetOfRow.holds Try.pinned (OpenSpec.ofChange fnMeetOfWrong)

/-- 'laws.FnUpIn': WHATEVER THE INPUT: true; the input reads as it did. -/
def fnUpInSpec : ChangeSpec := { name := "fnUpIn", fn := fun _ => fun
  | [d] => { results := [.lit (.bool true)], args := [d] }
  | _ => none }
def fnUpInRow : OpenClaim := { program := "ythljimmhgpbmbab", sum := "4be4b12d0f330f0371f6a94a909d671da11fc7a30501d0283a14e50e282b6a74", func := "loop.example/setshadows/laws.FnUpIn", spec := "fnUpIn", inPlace := ["slices.overlaps[loop.example/setshadows/impl.set]"], unfollowed := true, recurses := true, apart := false }
def FnUpInSaid : Prop := fnUpInRow.holds Try.pinned (OpenSpec.ofChange fnUpInSpec)

/-- ITS FALSE NEIGHBOUR: 'it returns false'. Refute it at one input. -/
def fnUpInWrong : ChangeSpec := { name := "fnUpIn", fn := fun _ => fun
  | [d] => { results := [.lit (.bool false)], args := [d] }
  | _ => none }
def FnUpInWrongFalsely : Prop := fnUpInRow.holds Try.pinned (OpenSpec.ofChange fnUpInWrong)

/-- 'laws.FnUpCommon': WHATEVER THE INPUT: true; the input reads as it did. -/
def fnUpCommonSpec : ChangeSpec := { name := "fnUpCommon", fn := fun _ => fun
  | [d] => { results := [.lit (.bool true)], args := [d] }
  | _ => none }
def fnUpCommonRow : OpenClaim := { program := "ythljimmhgpbmbab", sum := "4be4b12d0f330f0371f6a94a909d671da11fc7a30501d0283a14e50e282b6a74", func := "loop.example/setshadows/laws.FnUpCommon", spec := "fnUpCommon", inPlace := ["slices.overlaps[loop.example/setshadows/impl.set]"], unfollowed := true, recurses := true, apart := false }
def FnUpCommonSaid : Prop := fnUpCommonRow.holds Try.pinned (OpenSpec.ofChange fnUpCommonSpec)

/-- ITS FALSE NEIGHBOUR: 'it returns false'. Refute it at one input. -/
def fnUpCommonWrong : ChangeSpec := { name := "fnUpCommon", fn := fun _ => fun
  | [d] => { results := [.lit (.bool false)], args := [d] }
  | _ => none }
def FnUpCommonWrongFalsely : Prop := fnUpCommonRow.holds Try.pinned (OpenSpec.ofChange fnUpCommonWrong)

/-- 'laws.FnPressed': WHATEVER THE INPUT: true; the input reads as it did. -/
def fnPressedSpec : ChangeSpec := { name := "fnPressed", fn := fun _ => fun
  | [d] => { results := [.lit (.bool true)], args := [d] }
  | _ => none }
def fnPressedRow : OpenClaim := { program := "ythljimmhgpbmbab", sum := "4be4b12d0f330f0371f6a94a909d671da11fc7a30501d0283a14e50e282b6a74", func := "loop.example/setshadows/laws.FnPressed", spec := "fnPressed", inPlace := ["slices.overlaps[loop.example/setshadows/impl.set]"], unfollowed := true, recurses := true, apart := false }
def FnPressedSaid : Prop := fnPressedRow.holds Try.pinned (OpenSpec.ofChange fnPressedSpec)

/-- ITS FALSE NEIGHBOUR: 'it returns false'. Refute it at one input. -/
def fnPressedWrong : ChangeSpec := { name := "fnPressed", fn := fun _ => fun
  | [d] => { results := [.lit (.bool false)], args := [d] }
  | _ => none }
def FnPressedWrongFalsely : Prop := fnPressedRow.holds Try.pinned (OpenSpec.ofChange fnPressedWrong)

/- THE SECOND FORM. 'bulk': how many values and letters a reading holds, each counted each time it is reached (what is shared counts as often as it is met; a slice's spare places count too). A statement '..UptoSaid' is the law's where the arguments, and the package variables that the reading takes, are together of bulk at most 1048576: NARROWER than '..Said'. Prove '..Said' where nothing that the law and all that it calls make is longer than what came in: it says more and counts as full. Else prove '..UptoSaid'. A law counts once. -/
mutual
def uptoBulk {H : Type} : DataW H → Nat
  | .lit (.string bytes) => bytes.length + 1
  | .lit _ => 1
  | .nil => 1
  | .ptr d => uptoBulk d + 1
  | .slice elems spare => uptoBulkAll elems + uptoBulkAll spare + 1
  | .agg parts => uptoBulkAll parts + 1
  | .iface _ d => uptoBulk d + 1
  | .map entries => uptoBulkEntries entries + 1
  | .held _ => 1
def uptoBulkAll {H : Type} : List (DataW H) → Nat
  | [] => 0
  | d :: r => uptoBulk d + uptoBulkAll r
def uptoBulkEntries {H : Type} : List (Lit × DataW H) → Nat
  | [] => 0
  | x :: r => uptoBulkEntry x + uptoBulkEntries r
def uptoBulkEntry {H : Type} : Lit × DataW H → Nat
  | (.string bytes, d) => bytes.length + uptoBulk d + 1
  | (_, d) => uptoBulk d + 1
 end
def uptoSmall : (H : Type) → List (DataW H) → Bool := fun _ ds => decide (uptoBulkAll ds ≤ 1048576)
def OpenSpec.upto (s : _root_.Go.ChangeSpec) : _root_.Go.OpenSpec := { _root_.Go.OpenSpec.ofChange s with cond := some uptoSmall }

/-- 'laws.FnDifference', WHERE WHAT IT READS IS OF BULK AT MOST 1048576: true; the input reads as it did. -/
def fnDifferenceUptoRow : OpenClaim := { program := "ythljimmhgpbmbab", sum := "4be4b12d0f330f0371f6a94a909d671da11fc7a30501d0283a14e50e282b6a74", func := "loop.example/setshadows/laws.FnDifference", spec := "fnDifference", inPlace := ["slices.overlaps[loop.example/setshadows/impl.set]"], unfollowed := true, recurses := true, apart := false, narrowed := true }
def FnDifferenceUptoSaid : Prop := fnDifferenceUptoRow.holds Try.pinned (OpenSpec.upto fnDifferenceSpec)

/-- 'laws.FnMeets', WHERE WHAT IT READS IS OF BULK AT MOST 1048576: true; the input reads as it did. -/
def fnMeetsUptoRow : OpenClaim := { program := "ythljimmhgpbmbab", sum := "4be4b12d0f330f0371f6a94a909d671da11fc7a30501d0283a14e50e282b6a74", func := "loop.example/setshadows/laws.FnMeets", spec := "fnMeets", inPlace := ["slices.overlaps[loop.example/setshadows/impl.set]"], unfollowed := true, recurses := true, apart := false, narrowed := true }
def FnMeetsUptoSaid : Prop := fnMeetsUptoRow.holds Try.pinned (OpenSpec.upto fnMeetsSpec)

/-- 'laws.FnJoins', WHERE WHAT IT READS IS OF BULK AT MOST 1048576: true; the input reads as it did. -/
def fnJoinsUptoRow : OpenClaim := { program := "ythljimmhgpbmbab", sum := "4be4b12d0f330f0371f6a94a909d671da11fc7a30501d0283a14e50e282b6a74", func := "loop.example/setshadows/laws.FnJoins", spec := "fnJoins", inPlace := ["slices.overlaps[loop.example/setshadows/impl.set]"], unfollowed := true, recurses := true, apart := false, narrowed := true }
def FnJoinsUptoSaid : Prop := fnJoinsUptoRow.holds Try.pinned (OpenSpec.upto fnJoinsSpec)

/-- 'laws.FnUnionIn', WHERE WHAT IT READS IS OF BULK AT MOST 1048576: true; the input reads as it did. -/
def fnUnionInUptoRow : OpenClaim := { program := "ythljimmhgpbmbab", sum := "4be4b12d0f330f0371f6a94a909d671da11fc7a30501d0283a14e50e282b6a74", func := "loop.example/setshadows/laws.FnUnionIn", spec := "fnUnionIn", inPlace := ["slices.overlaps[loop.example/setshadows/impl.set]"], unfollowed := true, recurses := true, apart := false, narrowed := true }
def FnUnionInUptoSaid : Prop := fnUnionInUptoRow.holds Try.pinned (OpenSpec.upto fnUnionInSpec)

/-- 'laws.FnMeetIn', WHERE WHAT IT READS IS OF BULK AT MOST 1048576: true; the input reads as it did. -/
def fnMeetInUptoRow : OpenClaim := { program := "ythljimmhgpbmbab", sum := "4be4b12d0f330f0371f6a94a909d671da11fc7a30501d0283a14e50e282b6a74", func := "loop.example/setshadows/laws.FnMeetIn", spec := "fnMeetIn", inPlace := ["slices.overlaps[loop.example/setshadows/impl.set]"], unfollowed := true, recurses := true, apart := false, narrowed := true }
def FnMeetInUptoSaid : Prop := fnMeetInUptoRow.holds Try.pinned (OpenSpec.upto fnMeetInSpec)

/-- 'laws.FnUnionOf', WHERE WHAT IT READS IS OF BULK AT MOST 1048576: true; the input reads as it did. -/
def fnUnionOfUptoRow : OpenClaim := { program := "ythljimmhgpbmbab", sum := "4be4b12d0f330f0371f6a94a909d671da11fc7a30501d0283a14e50e282b6a74", func := "loop.example/setshadows/laws.FnUnionOf", spec := "fnUnionOf", inPlace := ["slices.overlaps[loop.example/setshadows/impl.set]"], unfollowed := true, recurses := true, apart := false, narrowed := true }
def FnUnionOfUptoSaid : Prop := fnUnionOfUptoRow.holds Try.pinned (OpenSpec.upto fnUnionOfSpec)

/-- 'laws.FnMeetOf', WHERE WHAT IT READS IS OF BULK AT MOST 1048576: true; the input reads as it did. -/
def fnMeetOfUptoRow : OpenClaim := { program := "ythljimmhgpbmbab", sum := "4be4b12d0f330f0371f6a94a909d671da11fc7a30501d0283a14e50e282b6a74", func := "loop.example/setshadows/laws.FnMeetOf", spec := "fnMeetOf", inPlace := ["slices.overlaps[loop.example/setshadows/impl.set]"], unfollowed := true, recurses := true, apart := false, narrowed := true }
def FnMeetOfUptoSaid : Prop := fnMeetOfUptoRow.holds Try.pinned (OpenSpec.upto fnMeetOfSpec)

/-- 'laws.FnUpIn', WHERE WHAT IT READS IS OF BULK AT MOST 1048576: true; the input reads as it did. -/
def fnUpInUptoRow : OpenClaim := { program := "ythljimmhgpbmbab", sum := "4be4b12d0f330f0371f6a94a909d671da11fc7a30501d0283a14e50e282b6a74", func := "loop.example/setshadows/laws.FnUpIn", spec := "fnUpIn", inPlace := ["slices.overlaps[loop.example/setshadows/impl.set]"], unfollowed := true, recurses := true, apart := false, narrowed := true }
def FnUpInUptoSaid : Prop := fnUpInUptoRow.holds Try.pinned (OpenSpec.upto fnUpInSpec)

/-- 'laws.FnUpCommon', WHERE WHAT IT READS IS OF BULK AT MOST 1048576: true; the input reads as it did. -/
def fnUpCommonUptoRow : OpenClaim := { program := "ythljimmhgpbmbab", sum := "4be4b12d0f330f0371f6a94a909d671da11fc7a30501d0283a14e50e282b6a74", func := "loop.example/setshadows/laws.FnUpCommon", spec := "fnUpCommon", inPlace := ["slices.overlaps[loop.example/setshadows/impl.set]"], unfollowed := true, recurses := true, apart := false, narrowed := true }
def FnUpCommonUptoSaid : Prop := fnUpCommonUptoRow.holds Try.pinned (OpenSpec.upto fnUpCommonSpec)

/-- 'laws.FnPressed', WHERE WHAT IT READS IS OF BULK AT MOST 1048576: true; the input reads as it did. -/
def fnPressedUptoRow : OpenClaim := { program := "ythljimmhgpbmbab", sum := "4be4b12d0f330f0371f6a94a909d671da11fc7a30501d0283a14e50e282b6a74", func := "loop.example/setshadows/laws.FnPressed", spec := "fnPressed", inPlace := ["slices.overlaps[loop.example/setshadows/impl.set]"], unfollowed := true, recurses := true, apart := false, narrowed := true }
def FnPressedUptoSaid : Prop := fnPressedUptoRow.holds Try.pinned (OpenSpec.upto fnPressedSpec)

end Rows
end Go.Proofs.Ythljimmhgpbmbab
