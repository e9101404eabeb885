/-
  No cell of these rows narrows 'for every input' (looked for: loops, veiled, ifaces, maps, wideKeys, modest, calm, conditions, laid).
  DERIVED. THE GIVEN ROWS OF THIS SEAT. 12 by the template 'for every input the law returns true; each argument reads behind the call as it read before'; 0 by the template 'total and deterministic' (their statements: YthljimmhgpbmbaaTotals.lean).
  GIVEN WITH THE SEED: the statements are not yours to turn. If you find one false, say at which input.
  Laid BY PROGRAM, IN A SANDBOX (cutbox-rows.mjs): the forced cells as the released guide's own fill.sh prints them over the translation 5a3e9c72fc0cc66a… (all of the seat's roots in one cut). By AI agents, Wed Nov 11 2026. No macro, syntax, notation, axiom, sorry.
-/
import Derived.Test.YthljimmhgpbmbaaChecked
import GoSem.Claim
import GoSem.ClaimJoined
import GoSem.ClaimMapViews
import Derived.JoinedTies
import Derived.KernelRfl
namespace Go.Proofs.Ythljimmhgpbmbaa
/- THE CELL 'sum', in the pinned program and in every row, IS THE sha256 OF THE DUMP (.gsa) THAT YthljimmhgpbmbaaProg.lean LOADS. Nothing in Lean hashes anything: it is a label: what it is worth is what the hold of that sum in a sandbox is worth. -/
noncomputable def Try.pinned : Pinned := { name := "ythljimmhgpbmbaa", sum := "5a3e9c72fc0cc66a2e164431466a4e460a0c8fe57331b0449b83bd856d5ebf03", checked := Try.checked }
namespace Rows
def none {H : Type} : Left H := { results := [], args := [] }

/-- 'laws.FnPrimes': WHATEVER THE INPUT: true; the input reads as it did. -/
def fnPrimesSpec : ChangeSpec := { name := "fnPrimes", fn := fun _ => fun
  | [d] => { results := [.lit (.bool true)], args := [d] }
  | _ => none }
def fnPrimesRow : OpenClaim := { program := "ythljimmhgpbmbaa", sum := "5a3e9c72fc0cc66a2e164431466a4e460a0c8fe57331b0449b83bd856d5ebf03", func := "loop.example/setshadows/laws.FnPrimes", spec := "fnPrimes", inPlace := ["slices.overlaps[loop.example/setshadows/impl.set]"], unfollowed := true, recurses := true, apart := false }
def FnPrimesSaid : Prop := fnPrimesRow.holds Try.pinned (OpenSpec.ofChange fnPrimesSpec)

/-- ITS FALSE NEIGHBOUR: 'it returns false'. Refute it at one input. -/
def fnPrimesWrong : ChangeSpec := { name := "fnPrimes", fn := fun _ => fun
  | [d] => { results := [.lit (.bool false)], args := [d] }
  | _ => none }
def FnPrimesWrongFalsely : Prop := fnPrimesRow.holds Try.pinned (OpenSpec.ofChange fnPrimesWrong)

/-- 'laws.FnExactUnionIn': WHATEVER THE INPUT: true; the input reads as it did. -/
def fnExactUnionInSpec : ChangeSpec := { name := "fnExactUnionIn", fn := fun _ => fun
  | [d1, d2] => { results := [.lit (.bool true)], args := [d1, d2] }
  | _ => none }
def fnExactUnionInRow : OpenClaim := { program := "ythljimmhgpbmbaa", sum := "5a3e9c72fc0cc66a2e164431466a4e460a0c8fe57331b0449b83bd856d5ebf03", func := "loop.example/setshadows/laws.FnExactUnionIn", spec := "fnExactUnionIn", inPlace := ["slices.overlaps[loop.example/setshadows/impl.set]"], unfollowed := true, recurses := true, apart := false }
def FnExactUnionInSaid : Prop := fnExactUnionInRow.holds Try.pinned (OpenSpec.ofChange fnExactUnionInSpec)

/-- ITS FALSE NEIGHBOUR: 'it returns false'. Refute it at one input. -/
def fnExactUnionInWrong : ChangeSpec := { name := "fnExactUnionIn", fn := fun _ => fun
  | [d1, d2] => { results := [.lit (.bool false)], args := [d1, d2] }
  | _ => none }
def FnExactUnionInWrongFalsely : Prop := fnExactUnionInRow.holds Try.pinned (OpenSpec.ofChange fnExactUnionInWrong)

/-- 'laws.FnExactMeetIn': WHATEVER THE INPUT: true; the input reads as it did. -/
def fnExactMeetInSpec : ChangeSpec := { name := "fnExactMeetIn", fn := fun _ => fun
  | [d1, d2] => { results := [.lit (.bool true)], args := [d1, d2] }
  | _ => none }
def fnExactMeetInRow : OpenClaim := { program := "ythljimmhgpbmbaa", sum := "5a3e9c72fc0cc66a2e164431466a4e460a0c8fe57331b0449b83bd856d5ebf03", func := "loop.example/setshadows/laws.FnExactMeetIn", spec := "fnExactMeetIn", inPlace := ["slices.overlaps[loop.example/setshadows/impl.set]"], unfollowed := true, recurses := true, apart := false }
def FnExactMeetInSaid : Prop := fnExactMeetInRow.holds Try.pinned (OpenSpec.ofChange fnExactMeetInSpec)

/-- ITS FALSE NEIGHBOUR: 'it returns false'. Refute it at one input. -/
def fnExactMeetInWrong : ChangeSpec := { name := "fnExactMeetIn", fn := fun _ => fun
  | [d1, d2] => { results := [.lit (.bool false)], args := [d1, d2] }
  | _ => none }
def FnExactMeetInWrongFalsely : Prop := fnExactMeetInRow.holds Try.pinned (OpenSpec.ofChange fnExactMeetInWrong)

/-- 'laws.FnExactUnionOf': WHATEVER THE INPUT: true; the input reads as it did. -/
def fnExactUnionOfSpec : ChangeSpec := { name := "fnExactUnionOf", fn := fun _ => fun
  | [d1, d2] => { results := [.lit (.bool true)], args := [d1, d2] }
  | _ => none }
def fnExactUnionOfRow : OpenClaim := { program := "ythljimmhgpbmbaa", sum := "5a3e9c72fc0cc66a2e164431466a4e460a0c8fe57331b0449b83bd856d5ebf03", func := "loop.example/setshadows/laws.FnExactUnionOf", spec := "fnExactUnionOf", inPlace := ["slices.overlaps[loop.example/setshadows/impl.set]"], unfollowed := true, recurses := true, apart := false }
def FnExactUnionOfSaid : Prop := fnExactUnionOfRow.holds Try.pinned (OpenSpec.ofChange fnExactUnionOfSpec)

/-- ITS FALSE NEIGHBOUR: 'it returns false'. Refute it at one input. -/
def fnExactUnionOfWrong : ChangeSpec := { name := "fnExactUnionOf", fn := fun _ => fun
  | [d1, d2] => { results := [.lit (.bool false)], args := [d1, d2] }
  | _ => none }
def FnExactUnionOfWrongFalsely : Prop := fnExactUnionOfRow.holds Try.pinned (OpenSpec.ofChange fnExactUnionOfWrong)

/-- 'laws.FnExactMeetOf': WHATEVER THE INPUT: true; the input reads as it did. -/
def fnExactMeetOfSpec : ChangeSpec := { name := "fnExactMeetOf", fn := fun _ => fun
  | [d1, d2] => { results := [.lit (.bool true)], args := [d1, d2] }
  | _ => none }
def fnExactMeetOfRow : OpenClaim := { program := "ythljimmhgpbmbaa", sum := "5a3e9c72fc0cc66a2e164431466a4e460a0c8fe57331b0449b83bd856d5ebf03", func := "loop.example/setshadows/laws.FnExactMeetOf", spec := "fnExactMeetOf", inPlace := ["slices.overlaps[loop.example/setshadows/impl.set]"], unfollowed := true, recurses := true, apart := false }
def FnExactMeetOfSaid : Prop := fnExactMeetOfRow.holds Try.pinned (OpenSpec.ofChange fnExactMeetOfSpec)

/-- ITS FALSE NEIGHBOUR: 'it returns false'. Refute it at one input. -/
def fnExactMeetOfWrong : ChangeSpec := { name := "fnExactMeetOf", fn := fun _ => fun
  | [d1, d2] => { results := [.lit (.bool false)], args := [d1, d2] }
  | _ => none }
def FnExactMeetOfWrongFalsely : Prop := fnExactMeetOfRow.holds Try.pinned (OpenSpec.ofChange fnExactMeetOfWrong)

/-- 'laws.FnExactUnionPrimes': WHATEVER THE INPUT: true; the input reads as it did. -/
def fnExactUnionPrimesSpec : ChangeSpec := { name := "fnExactUnionPrimes", fn := fun _ => fun
  | [d1, d2] => { results := [.lit (.bool true)], args := [d1, d2] }
  | _ => none }
def fnExactUnionPrimesRow : OpenClaim := { program := "ythljimmhgpbmbaa", sum := "5a3e9c72fc0cc66a2e164431466a4e460a0c8fe57331b0449b83bd856d5ebf03", func := "loop.example/setshadows/laws.FnExactUnionPrimes", spec := "fnExactUnionPrimes", inPlace := ["slices.overlaps[loop.example/setshadows/impl.set]"], unfollowed := true, recurses := true, apart := false }
def FnExactUnionPrimesSaid : Prop := fnExactUnionPrimesRow.holds Try.pinned (OpenSpec.ofChange fnExactUnionPrimesSpec)

/-- ITS FALSE NEIGHBOUR: 'it returns false'. Refute it at one input. -/
def fnExactUnionPrimesWrong : ChangeSpec := { name := "fnExactUnionPrimes", fn := fun _ => fun
  | [d1, d2] => { results := [.lit (.bool false)], args := [d1, d2] }
  | _ => none }
def FnExactUnionPrimesWrongFalsely : Prop := fnExactUnionPrimesRow.holds Try.pinned (OpenSpec.ofChange fnExactUnionPrimesWrong)

/-- 'laws.FnExactUpIn': WHATEVER THE INPUT: true; the input reads as it did. -/
def fnExactUpInSpec : ChangeSpec := { name := "fnExactUpIn", fn := fun _ => fun
  | [d1, d2] => { results := [.lit (.bool true)], args := [d1, d2] }
  | _ => none }
def fnExactUpInRow : OpenClaim := { program := "ythljimmhgpbmbaa", sum := "5a3e9c72fc0cc66a2e164431466a4e460a0c8fe57331b0449b83bd856d5ebf03", func := "loop.example/setshadows/laws.FnExactUpIn", spec := "fnExactUpIn", inPlace := ["slices.overlaps[loop.example/setshadows/impl.set]"], unfollowed := true, recurses := true, apart := false }
def FnExactUpInSaid : Prop := fnExactUpInRow.holds Try.pinned (OpenSpec.ofChange fnExactUpInSpec)

/-- ITS FALSE NEIGHBOUR: 'it returns false'. Refute it at one input. -/
def fnExactUpInWrong : ChangeSpec := { name := "fnExactUpIn", fn := fun _ => fun
  | [d1, d2] => { results := [.lit (.bool false)], args := [d1, d2] }
  | _ => none }
def FnExactUpInWrongFalsely : Prop := fnExactUpInRow.holds Try.pinned (OpenSpec.ofChange fnExactUpInWrong)

/-- 'laws.FnExactDownIn': WHATEVER THE INPUT: true; the input reads as it did. -/
def fnExactDownInSpec : ChangeSpec := { name := "fnExactDownIn", fn := fun _ => fun
  | [d1, d2] => { results := [.lit (.bool true)], args := [d1, d2] }
  | _ => none }
def fnExactDownInRow : OpenClaim := { program := "ythljimmhgpbmbaa", sum := "5a3e9c72fc0cc66a2e164431466a4e460a0c8fe57331b0449b83bd856d5ebf03", func := "loop.example/setshadows/laws.FnExactDownIn", spec := "fnExactDownIn", inPlace := ["slices.overlaps[loop.example/setshadows/impl.set]"], unfollowed := true, recurses := true, apart := false }
def FnExactDownInSaid : Prop := fnExactDownInRow.holds Try.pinned (OpenSpec.ofChange fnExactDownInSpec)

/-- ITS FALSE NEIGHBOUR: 'it returns false'. Refute it at one input. -/
def fnExactDownInWrong : ChangeSpec := { name := "fnExactDownIn", fn := fun _ => fun
  | [d1, d2] => { results := [.lit (.bool false)], args := [d1, d2] }
  | _ => none }
def FnExactDownInWrongFalsely : Prop := fnExactDownInRow.holds Try.pinned (OpenSpec.ofChange fnExactDownInWrong)

/-- 'laws.FnExactUpCommon': WHATEVER THE INPUT: true; the input reads as it did. -/
def fnExactUpCommonSpec : ChangeSpec := { name := "fnExactUpCommon", fn := fun _ => fun
  | [d1, d2, d3] => { results := [.lit (.bool true)], args := [d1, d2, d3] }
  | _ => none }
def fnExactUpCommonRow : OpenClaim := { program := "ythljimmhgpbmbaa", sum := "5a3e9c72fc0cc66a2e164431466a4e460a0c8fe57331b0449b83bd856d5ebf03", func := "loop.example/setshadows/laws.FnExactUpCommon", spec := "fnExactUpCommon", inPlace := ["slices.overlaps[loop.example/setshadows/impl.set]"], unfollowed := true, recurses := true, apart := false }
def FnExactUpCommonSaid : Prop := fnExactUpCommonRow.holds Try.pinned (OpenSpec.ofChange fnExactUpCommonSpec)

/-- ITS FALSE NEIGHBOUR: 'it returns false'. Refute it at one input. -/
def fnExactUpCommonWrong : ChangeSpec := { name := "fnExactUpCommon", fn := fun _ => fun
  | [d1, d2, d3] => { results := [.lit (.bool false)], args := [d1, d2, d3] }
  | _ => none }
def FnExactUpCommonWrongFalsely : Prop := fnExactUpCommonRow.holds Try.pinned (OpenSpec.ofChange fnExactUpCommonWrong)

/-- 'laws.FnExactDifferenceOf': WHATEVER THE INPUT: true; the input reads as it did. -/
def fnExactDifferenceOfSpec : ChangeSpec := { name := "fnExactDifferenceOf", fn := fun _ => fun
  | [d1, d2] => { results := [.lit (.bool true)], args := [d1, d2] }
  | _ => none }
def fnExactDifferenceOfRow : OpenClaim := { program := "ythljimmhgpbmbaa", sum := "5a3e9c72fc0cc66a2e164431466a4e460a0c8fe57331b0449b83bd856d5ebf03", func := "loop.example/setshadows/laws.FnExactDifferenceOf", spec := "fnExactDifferenceOf", inPlace := ["slices.overlaps[loop.example/setshadows/impl.set]"], unfollowed := true, recurses := true, apart := false }
def FnExactDifferenceOfSaid : Prop := fnExactDifferenceOfRow.holds Try.pinned (OpenSpec.ofChange fnExactDifferenceOfSpec)

/-- ITS FALSE NEIGHBOUR: 'it returns false'. Refute it at one input. -/
def fnExactDifferenceOfWrong : ChangeSpec := { name := "fnExactDifferenceOf", fn := fun _ => fun
  | [d1, d2] => { results := [.lit (.bool false)], args := [d1, d2] }
  | _ => none }
def FnExactDifferenceOfWrongFalsely : Prop := fnExactDifferenceOfRow.holds Try.pinned (OpenSpec.ofChange fnExactDifferenceOfWrong)

/-- 'laws.FnExactFamilyMeets': WHATEVER THE INPUT: true; the input reads as it did. -/
def fnExactFamilyMeetsSpec : ChangeSpec := { name := "fnExactFamilyMeets", fn := fun _ => fun
  | [d1, d2, d3] => { results := [.lit (.bool true)], args := [d1, d2, d3] }
  | _ => none }
def fnExactFamilyMeetsRow : OpenClaim := { program := "ythljimmhgpbmbaa", sum := "5a3e9c72fc0cc66a2e164431466a4e460a0c8fe57331b0449b83bd856d5ebf03", func := "loop.example/setshadows/laws.FnExactFamilyMeets", spec := "fnExactFamilyMeets", inPlace := ["slices.overlaps[loop.example/setshadows/impl.set]"], unfollowed := true, recurses := true, apart := false }
def FnExactFamilyMeetsSaid : Prop := fnExactFamilyMeetsRow.holds Try.pinned (OpenSpec.ofChange fnExactFamilyMeetsSpec)

/-- ITS FALSE NEIGHBOUR: 'it returns false'. Refute it at one input. -/
def fnExactFamilyMeetsWrong : ChangeSpec := { name := "fnExactFamilyMeets", fn := fun _ => fun
  | [d1, d2, d3] => { results := [.lit (.bool false)], args := [d1, d2, d3] }
  | _ => none }
def FnExactFamilyMeetsWrongFalsely : Prop := fnExactFamilyMeetsRow.holds Try.pinned (OpenSpec.ofChange fnExactFamilyMeetsWrong)

/-- 'laws.FnExactFamilyJoins': WHATEVER THE INPUT: true; the input reads as it did. -/
def fnExactFamilyJoinsSpec : ChangeSpec := { name := "fnExactFamilyJoins", fn := fun _ => fun
  | [d1, d2, d3] => { results := [.lit (.bool true)], args := [d1, d2, d3] }
  | _ => none }
def fnExactFamilyJoinsRow : OpenClaim := { program := "ythljimmhgpbmbaa", sum := "5a3e9c72fc0cc66a2e164431466a4e460a0c8fe57331b0449b83bd856d5ebf03", func := "loop.example/setshadows/laws.FnExactFamilyJoins", spec := "fnExactFamilyJoins", inPlace := ["slices.overlaps[loop.example/setshadows/impl.set]"], unfollowed := true, recurses := true, apart := false }
def FnExactFamilyJoinsSaid : Prop := fnExactFamilyJoinsRow.holds Try.pinned (OpenSpec.ofChange fnExactFamilyJoinsSpec)

/-- ITS FALSE NEIGHBOUR: 'it returns false'. Refute it at one input. -/
def fnExactFamilyJoinsWrong : ChangeSpec := { name := "fnExactFamilyJoins", fn := fun _ => fun
  | [d1, d2, d3] => { results := [.lit (.bool false)], args := [d1, d2, d3] }
  | _ => none }
def FnExactFamilyJoinsWrongFalsely : Prop := fnExactFamilyJoinsRow.holds Try.pinned (OpenSpec.ofChange fnExactFamilyJoinsWrong)

/- THE SECOND FORM. 'bulk': how many values and letters a reading holds, each counted each time it is reached (what is shared counts as often as it is met; a slice's spare places count too). A statement '..UptoSaid' is the law's where the arguments, and the package variables that the reading takes, are together of bulk at most 1048576: NARROWER than '..Said'. Prove '..Said' where nothing that the law and all that it calls make is longer than what came in: it says more and counts as full. Else prove '..UptoSaid'. A law counts once. -/
mutual
def uptoBulk {H : Type} : DataW H → Nat
  | .lit (.string bytes) => bytes.length + 1
  | .lit _ => 1
  | .nil => 1
  | .ptr d => uptoBulk d + 1
  | .slice elems spare => uptoBulkAll elems + uptoBulkAll spare + 1
  | .agg parts => uptoBulkAll parts + 1
  | .iface _ d => uptoBulk d + 1
  | .map entries => uptoBulkEntries entries + 1
  | .held _ => 1
def uptoBulkAll {H : Type} : List (DataW H) → Nat
  | [] => 0
  | d :: r => uptoBulk d + uptoBulkAll r
def uptoBulkEntries {H : Type} : List (Lit × DataW H) → Nat
  | [] => 0
  | x :: r => uptoBulkEntry x + uptoBulkEntries r
def uptoBulkEntry {H : Type} : Lit × DataW H → Nat
  | (.string bytes, d) => bytes.length + uptoBulk d + 1
  | (_, d) => uptoBulk d + 1
 end
def uptoSmall : (H : Type) → List (DataW H) → Bool := fun _ ds => decide (uptoBulkAll ds ≤ 1048576)
def OpenSpec.upto (s : _root_.Go.ChangeSpec) : _root_.Go.OpenSpec := { _root_.Go.OpenSpec.ofChange s with cond := some uptoSmall }

/-- 'laws.FnPrimes', WHERE WHAT IT READS IS OF BULK AT MOST 1048576: true; the input reads as it did. -/
def fnPrimesUptoRow : OpenClaim := { program := "ythljimmhgpbmbaa", sum := "5a3e9c72fc0cc66a2e164431466a4e460a0c8fe57331b0449b83bd856d5ebf03", func := "loop.example/setshadows/laws.FnPrimes", spec := "fnPrimes", inPlace := ["slices.overlaps[loop.example/setshadows/impl.set]"], unfollowed := true, recurses := true, apart := false, narrowed := true }
def FnPrimesUptoSaid : Prop := fnPrimesUptoRow.holds Try.pinned (OpenSpec.upto fnPrimesSpec)

/-- 'laws.FnExactUnionIn', WHERE WHAT IT READS IS OF BULK AT MOST 1048576: true; the input reads as it did. -/
def fnExactUnionInUptoRow : OpenClaim := { program := "ythljimmhgpbmbaa", sum := "5a3e9c72fc0cc66a2e164431466a4e460a0c8fe57331b0449b83bd856d5ebf03", func := "loop.example/setshadows/laws.FnExactUnionIn", spec := "fnExactUnionIn", inPlace := ["slices.overlaps[loop.example/setshadows/impl.set]"], unfollowed := true, recurses := true, apart := false, narrowed := true }
def FnExactUnionInUptoSaid : Prop := fnExactUnionInUptoRow.holds Try.pinned (OpenSpec.upto fnExactUnionInSpec)

/-- 'laws.FnExactMeetIn', WHERE WHAT IT READS IS OF BULK AT MOST 1048576: true; the input reads as it did. -/
def fnExactMeetInUptoRow : OpenClaim := { program := "ythljimmhgpbmbaa", sum := "5a3e9c72fc0cc66a2e164431466a4e460a0c8fe57331b0449b83bd856d5ebf03", func := "loop.example/setshadows/laws.FnExactMeetIn", spec := "fnExactMeetIn", inPlace := ["slices.overlaps[loop.example/setshadows/impl.set]"], unfollowed := true, recurses := true, apart := false, narrowed := true }
def FnExactMeetInUptoSaid : Prop := fnExactMeetInUptoRow.holds Try.pinned (OpenSpec.upto fnExactMeetInSpec)

/-- 'laws.FnExactUnionOf', WHERE WHAT IT READS IS OF BULK AT MOST 1048576: true; the input reads as it did. -/
def fnExactUnionOfUptoRow : OpenClaim := { program := "ythljimmhgpbmbaa", sum := "5a3e9c72fc0cc66a2e164431466a4e460a0c8fe57331b0449b83bd856d5ebf03", func := "loop.example/setshadows/laws.FnExactUnionOf", spec := "fnExactUnionOf", inPlace := ["slices.overlaps[loop.example/setshadows/impl.set]"], unfollowed := true, recurses := true, apart := false, narrowed := true }
def FnExactUnionOfUptoSaid : Prop := fnExactUnionOfUptoRow.holds Try.pinned (OpenSpec.upto fnExactUnionOfSpec)

/-- 'laws.FnExactMeetOf', WHERE WHAT IT READS IS OF BULK AT MOST 1048576: true; the input reads as it did. -/
def fnExactMeetOfUptoRow : OpenClaim := { program := "ythljimmhgpbmbaa", sum := "5a3e9c72fc0cc66a2e164431466a4e460a0c8fe57331b0449b83bd856d5ebf03", func := "loop.example/setshadows/laws.FnExactMeetOf", spec := "fnExactMeetOf", inPlace := ["slices.overlaps[loop.example/setshadows/impl.set]"], unfollowed := true, recurses := true, apart := false, narrowed := true }
def FnExactMeetOfUptoSaid : Prop := fnExactMeetOfUptoRow.holds Try.pinned (OpenSpec.upto fnExactMeetOfSpec)

/-- 'laws.FnExactUnionPrimes', WHERE WHAT IT READS IS OF BULK AT MOST 1048576: true; the input reads as it did. -/
def fnExactUnionPrimesUptoRow : OpenClaim := { program := "ythljimmhgpbmbaa", sum := "5a3e9c72fc0cc66a2e164431466a4e460a0c8fe57331b0449b83bd856d5ebf03", func := "loop.example/setshadows/laws.FnExactUnionPrimes", spec := "fnExactUnionPrimes", inPlace := ["slices.overlaps[loop.example/setshadows/impl.set]"], unfollowed := true, recurses := true, apart := false, narrowed := true }
def FnExactUnionPrimesUptoSaid : Prop := fnExactUnionPrimesUptoRow.holds Try.pinned (OpenSpec.upto fnExactUnionPrimesSpec)

/-- 'laws.FnExactUpIn', WHERE WHAT IT READS IS OF BULK AT MOST 1048576: true; the input reads as it did. -/
def fnExactUpInUptoRow : OpenClaim := { program := "ythljimmhgpbmbaa", sum := "5a3e9c72fc0cc66a2e164431466a4e460a0c8fe57331b0449b83bd856d5ebf03", func := "loop.example/setshadows/laws.FnExactUpIn", spec := "fnExactUpIn", inPlace := ["slices.overlaps[loop.example/setshadows/impl.set]"], unfollowed := true, recurses := true, apart := false, narrowed := true }
def FnExactUpInUptoSaid : Prop := fnExactUpInUptoRow.holds Try.pinned (OpenSpec.upto fnExactUpInSpec)

/-- 'laws.FnExactDownIn', WHERE WHAT IT READS IS OF BULK AT MOST 1048576: true; the input reads as it did. -/
def fnExactDownInUptoRow : OpenClaim := { program := "ythljimmhgpbmbaa", sum := "5a3e9c72fc0cc66a2e164431466a4e460a0c8fe57331b0449b83bd856d5ebf03", func := "loop.example/setshadows/laws.FnExactDownIn", spec := "fnExactDownIn", inPlace := ["slices.overlaps[loop.example/setshadows/impl.set]"], unfollowed := true, recurses := true, apart := false, narrowed := true }
def FnExactDownInUptoSaid : Prop := fnExactDownInUptoRow.holds Try.pinned (OpenSpec.upto fnExactDownInSpec)

/-- 'laws.FnExactUpCommon', WHERE WHAT IT READS IS OF BULK AT MOST 1048576: true; the input reads as it did. -/
def fnExactUpCommonUptoRow : OpenClaim := { program := "ythljimmhgpbmbaa", sum := "5a3e9c72fc0cc66a2e164431466a4e460a0c8fe57331b0449b83bd856d5ebf03", func := "loop.example/setshadows/laws.FnExactUpCommon", spec := "fnExactUpCommon", inPlace := ["slices.overlaps[loop.example/setshadows/impl.set]"], unfollowed := true, recurses := true, apart := false, narrowed := true }
def FnExactUpCommonUptoSaid : Prop := fnExactUpCommonUptoRow.holds Try.pinned (OpenSpec.upto fnExactUpCommonSpec)

/-- 'laws.FnExactDifferenceOf', WHERE WHAT IT READS IS OF BULK AT MOST 1048576: true; the input reads as it did. -/
def fnExactDifferenceOfUptoRow : OpenClaim := { program := "ythljimmhgpbmbaa", sum := "5a3e9c72fc0cc66a2e164431466a4e460a0c8fe57331b0449b83bd856d5ebf03", func := "loop.example/setshadows/laws.FnExactDifferenceOf", spec := "fnExactDifferenceOf", inPlace := ["slices.overlaps[loop.example/setshadows/impl.set]"], unfollowed := true, recurses := true, apart := false, narrowed := true }
def FnExactDifferenceOfUptoSaid : Prop := fnExactDifferenceOfUptoRow.holds Try.pinned (OpenSpec.upto fnExactDifferenceOfSpec)

/-- 'laws.FnExactFamilyMeets', WHERE WHAT IT READS IS OF BULK AT MOST 1048576: true; the input reads as it did. -/
def fnExactFamilyMeetsUptoRow : OpenClaim := { program := "ythljimmhgpbmbaa", sum := "5a3e9c72fc0cc66a2e164431466a4e460a0c8fe57331b0449b83bd856d5ebf03", func := "loop.example/setshadows/laws.FnExactFamilyMeets", spec := "fnExactFamilyMeets", inPlace := ["slices.overlaps[loop.example/setshadows/impl.set]"], unfollowed := true, recurses := true, apart := false, narrowed := true }
def FnExactFamilyMeetsUptoSaid : Prop := fnExactFamilyMeetsUptoRow.holds Try.pinned (OpenSpec.upto fnExactFamilyMeetsSpec)

/-- 'laws.FnExactFamilyJoins', WHERE WHAT IT READS IS OF BULK AT MOST 1048576: true; the input reads as it did. -/
def fnExactFamilyJoinsUptoRow : OpenClaim := { program := "ythljimmhgpbmbaa", sum := "5a3e9c72fc0cc66a2e164431466a4e460a0c8fe57331b0449b83bd856d5ebf03", func := "loop.example/setshadows/laws.FnExactFamilyJoins", spec := "fnExactFamilyJoins", inPlace := ["slices.overlaps[loop.example/setshadows/impl.set]"], unfollowed := true, recurses := true, apart := false, narrowed := true }
def FnExactFamilyJoinsUptoSaid : Prop := fnExactFamilyJoinsUptoRow.holds Try.pinned (OpenSpec.upto fnExactFamilyJoinsSpec)

end Rows
end Go.Proofs.Ythljimmhgpbmbaa
