/-
  No cell of these rows narrows 'for every input' (looked for: loops, veiled, ifaces, maps, wideKeys, modest, calm, conditions, laid).
  DERIVED. THE GIVEN ROWS OF THIS SEAT. 15 by the template 'for every input the law returns true; each argument reads behind the call as it read before'; 0 by the template 'total and deterministic' (their statements: YtpkomjnbbipnfaaTotals.lean).
  GIVEN WITH THE SEED: the statements are not yours to turn. If you find one false, say at which input.
  Laid BY PROGRAM, IN A SANDBOX (cutbox-rows.mjs): the forced cells as the released guide's own fill.sh prints them over the translation 83b5c15068032197… (all of the seat's roots in one cut). By AI agents, Wed Nov 11 2026. No macro, syntax, notation, axiom, sorry.
-/
import Derived.Test.YtpkomjnbbipnfaaChecked
import GoSem.Claim
import GoSem.ClaimJoined
import GoSem.ClaimMapViews
import Derived.JoinedTies
import Derived.KernelRfl
namespace Go.Proofs.Ytpkomjnbbipnfaa
/- THE CELL 'sum', in the pinned program and in every row, IS THE sha256 OF THE DUMP (.gsa) THAT YtpkomjnbbipnfaaProg.lean LOADS. Nothing in Lean hashes anything: it is a label: what it is worth is what the hold of that sum in a sandbox is worth. -/
noncomputable def Try.pinned : Pinned := { name := "ytpkomjnbbipnfaa", sum := "83b5c15068032197fce0e9e64afa7228a920fd0b1991952d23a68a3e2c7d6a4e", checked := Try.checked }
namespace Rows
def none {H : Type} : Left H := { results := [], args := [] }

/-- 'laws.FnTrace': WHATEVER THE INPUT: true; the input reads as it did. -/
def fnTraceSpec : ChangeSpec := { name := "fnTrace", fn := fun _ => fun
  | [d] => { results := [.lit (.bool true)], args := [d] }
  | _ => none }
def fnTraceRow : OpenClaim := { program := "ytpkomjnbbipnfaa", sum := "83b5c15068032197fce0e9e64afa7228a920fd0b1991952d23a68a3e2c7d6a4e", func := "loop.example/setshadows/laws.FnTrace", spec := "fnTrace", inPlace := ["slices.overlaps[loop.example/setshadows/impl.set]"], unfollowed := true, recurses := true, apart := false }
def FnTraceSaid : Prop := fnTraceRow.holds Try.pinned (OpenSpec.ofChange fnTraceSpec)

/-- ITS FALSE NEIGHBOUR: 'it returns false'. Refute it at one input. -/
def fnTraceWrong : ChangeSpec := { name := "fnTrace", fn := fun _ => fun
  | [d] => { results := [.lit (.bool false)], args := [d] }
  | _ => none }
def FnTraceWrongFalsely : Prop := fnTraceRow.holds Try.pinned (OpenSpec.ofChange fnTraceWrong)

/-- 'laws.FnExactFamilyIn': WHATEVER THE INPUT: true; the input reads as it did. -/
def fnExactFamilyInSpec : ChangeSpec := { name := "fnExactFamilyIn", fn := fun _ => fun
  | [d1, d2] => { results := [.lit (.bool true)], args := [d1, d2] }
  | _ => none }
def fnExactFamilyInRow : OpenClaim := { program := "ytpkomjnbbipnfaa", sum := "83b5c15068032197fce0e9e64afa7228a920fd0b1991952d23a68a3e2c7d6a4e", func := "loop.example/setshadows/laws.FnExactFamilyIn", spec := "fnExactFamilyIn", inPlace := ["slices.overlaps[loop.example/setshadows/impl.set]"], unfollowed := true, recurses := true, apart := false }
def FnExactFamilyInSaid : Prop := fnExactFamilyInRow.holds Try.pinned (OpenSpec.ofChange fnExactFamilyInSpec)

/-- ITS FALSE NEIGHBOUR: 'it returns false'. Refute it at one input. -/
def fnExactFamilyInWrong : ChangeSpec := { name := "fnExactFamilyIn", fn := fun _ => fun
  | [d1, d2] => { results := [.lit (.bool false)], args := [d1, d2] }
  | _ => none }
def FnExactFamilyInWrongFalsely : Prop := fnExactFamilyInRow.holds Try.pinned (OpenSpec.ofChange fnExactFamilyInWrong)

/-- 'laws.FnExactFamilyOf': WHATEVER THE INPUT: true; the input reads as it did. -/
def fnExactFamilyOfSpec : ChangeSpec := { name := "fnExactFamilyOf", fn := fun _ => fun
  | [d1, d2] => { results := [.lit (.bool true)], args := [d1, d2] }
  | _ => none }
def fnExactFamilyOfRow : OpenClaim := { program := "ytpkomjnbbipnfaa", sum := "83b5c15068032197fce0e9e64afa7228a920fd0b1991952d23a68a3e2c7d6a4e", func := "loop.example/setshadows/laws.FnExactFamilyOf", spec := "fnExactFamilyOf", inPlace := ["slices.overlaps[loop.example/setshadows/impl.set]"], unfollowed := true, recurses := true, apart := false }
def FnExactFamilyOfSaid : Prop := fnExactFamilyOfRow.holds Try.pinned (OpenSpec.ofChange fnExactFamilyOfSpec)

/-- ITS FALSE NEIGHBOUR: 'it returns false'. Refute it at one input. -/
def fnExactFamilyOfWrong : ChangeSpec := { name := "fnExactFamilyOf", fn := fun _ => fun
  | [d1, d2] => { results := [.lit (.bool false)], args := [d1, d2] }
  | _ => none }
def FnExactFamilyOfWrongFalsely : Prop := fnExactFamilyOfRow.holds Try.pinned (OpenSpec.ofChange fnExactFamilyOfWrong)

/-- 'laws.FnExactFamilyLevel': WHATEVER THE INPUT: true; the input reads as it did. -/
def fnExactFamilyLevelSpec : ChangeSpec := { name := "fnExactFamilyLevel", fn := fun _ => fun
  | [d1, d2] => { results := [.lit (.bool true)], args := [d1, d2] }
  | _ => none }
def fnExactFamilyLevelRow : OpenClaim := { program := "ytpkomjnbbipnfaa", sum := "83b5c15068032197fce0e9e64afa7228a920fd0b1991952d23a68a3e2c7d6a4e", func := "loop.example/setshadows/laws.FnExactFamilyLevel", spec := "fnExactFamilyLevel", inPlace := ["slices.overlaps[loop.example/setshadows/impl.set]"], unfollowed := true, recurses := true, apart := false }
def FnExactFamilyLevelSaid : Prop := fnExactFamilyLevelRow.holds Try.pinned (OpenSpec.ofChange fnExactFamilyLevelSpec)

/-- ITS FALSE NEIGHBOUR: 'it returns false'. Refute it at one input. -/
def fnExactFamilyLevelWrong : ChangeSpec := { name := "fnExactFamilyLevel", fn := fun _ => fun
  | [d1, d2] => { results := [.lit (.bool false)], args := [d1, d2] }
  | _ => none }
def FnExactFamilyLevelWrongFalsely : Prop := fnExactFamilyLevelRow.holds Try.pinned (OpenSpec.ofChange fnExactFamilyLevelWrong)

/-- 'laws.FnExactFamilyUnion': WHATEVER THE INPUT: true; the input reads as it did. -/
def fnExactFamilyUnionSpec : ChangeSpec := { name := "fnExactFamilyUnion", fn := fun _ => fun
  | [d1, d2, d3] => { results := [.lit (.bool true)], args := [d1, d2, d3] }
  | _ => none }
def fnExactFamilyUnionRow : OpenClaim := { program := "ytpkomjnbbipnfaa", sum := "83b5c15068032197fce0e9e64afa7228a920fd0b1991952d23a68a3e2c7d6a4e", func := "loop.example/setshadows/laws.FnExactFamilyUnion", spec := "fnExactFamilyUnion", inPlace := ["slices.overlaps[loop.example/setshadows/impl.set]"], unfollowed := true, recurses := true, apart := false }
def FnExactFamilyUnionSaid : Prop := fnExactFamilyUnionRow.holds Try.pinned (OpenSpec.ofChange fnExactFamilyUnionSpec)

/-- ITS FALSE NEIGHBOUR: 'it returns false'. Refute it at one input. -/
def fnExactFamilyUnionWrong : ChangeSpec := { name := "fnExactFamilyUnion", fn := fun _ => fun
  | [d1, d2, d3] => { results := [.lit (.bool false)], args := [d1, d2, d3] }
  | _ => none }
def FnExactFamilyUnionWrongFalsely : Prop := fnExactFamilyUnionRow.holds Try.pinned (OpenSpec.ofChange fnExactFamilyUnionWrong)

/-- 'laws.FnExactFamilyCommon': WHATEVER THE INPUT: true; the input reads as it did. -/
def fnExactFamilyCommonSpec : ChangeSpec := { name := "fnExactFamilyCommon", fn := fun _ => fun
  | [d1, d2, d3] => { results := [.lit (.bool true)], args := [d1, d2, d3] }
  | _ => none }
def fnExactFamilyCommonRow : OpenClaim := { program := "ytpkomjnbbipnfaa", sum := "83b5c15068032197fce0e9e64afa7228a920fd0b1991952d23a68a3e2c7d6a4e", func := "loop.example/setshadows/laws.FnExactFamilyCommon", spec := "fnExactFamilyCommon", inPlace := ["slices.overlaps[loop.example/setshadows/impl.set]"], unfollowed := true, recurses := true, apart := false }
def FnExactFamilyCommonSaid : Prop := fnExactFamilyCommonRow.holds Try.pinned (OpenSpec.ofChange fnExactFamilyCommonSpec)

/-- ITS FALSE NEIGHBOUR: 'it returns false'. Refute it at one input. -/
def fnExactFamilyCommonWrong : ChangeSpec := { name := "fnExactFamilyCommon", fn := fun _ => fun
  | [d1, d2, d3] => { results := [.lit (.bool false)], args := [d1, d2, d3] }
  | _ => none }
def FnExactFamilyCommonWrongFalsely : Prop := fnExactFamilyCommonRow.holds Try.pinned (OpenSpec.ofChange fnExactFamilyCommonWrong)

/-- 'laws.FnExactFamilyLess': WHATEVER THE INPUT: true; the input reads as it did. -/
def fnExactFamilyLessSpec : ChangeSpec := { name := "fnExactFamilyLess", fn := fun _ => fun
  | [d1, d2, d3] => { results := [.lit (.bool true)], args := [d1, d2, d3] }
  | _ => none }
def fnExactFamilyLessRow : OpenClaim := { program := "ytpkomjnbbipnfaa", sum := "83b5c15068032197fce0e9e64afa7228a920fd0b1991952d23a68a3e2c7d6a4e", func := "loop.example/setshadows/laws.FnExactFamilyLess", spec := "fnExactFamilyLess", inPlace := ["slices.overlaps[loop.example/setshadows/impl.set]"], unfollowed := true, recurses := true, apart := false }
def FnExactFamilyLessSaid : Prop := fnExactFamilyLessRow.holds Try.pinned (OpenSpec.ofChange fnExactFamilyLessSpec)

/-- ITS FALSE NEIGHBOUR: 'it returns false'. Refute it at one input. -/
def fnExactFamilyLessWrong : ChangeSpec := { name := "fnExactFamilyLess", fn := fun _ => fun
  | [d1, d2, d3] => { results := [.lit (.bool false)], args := [d1, d2, d3] }
  | _ => none }
def FnExactFamilyLessWrongFalsely : Prop := fnExactFamilyLessRow.holds Try.pinned (OpenSpec.ofChange fnExactFamilyLessWrong)

/-- 'laws.FnExactFamilyOther': WHATEVER THE INPUT: true; the input reads as it did. -/
def fnExactFamilyOtherSpec : ChangeSpec := { name := "fnExactFamilyOther", fn := fun _ => fun
  | [d1, d2] => { results := [.lit (.bool true)], args := [d1, d2] }
  | _ => none }
def fnExactFamilyOtherRow : OpenClaim := { program := "ytpkomjnbbipnfaa", sum := "83b5c15068032197fce0e9e64afa7228a920fd0b1991952d23a68a3e2c7d6a4e", func := "loop.example/setshadows/laws.FnExactFamilyOther", spec := "fnExactFamilyOther", inPlace := ["slices.overlaps[loop.example/setshadows/impl.set]"], unfollowed := true, recurses := true, apart := false }
def FnExactFamilyOtherSaid : Prop := fnExactFamilyOtherRow.holds Try.pinned (OpenSpec.ofChange fnExactFamilyOtherSpec)

/-- ITS FALSE NEIGHBOUR: 'it returns false'. Refute it at one input. -/
def fnExactFamilyOtherWrong : ChangeSpec := { name := "fnExactFamilyOther", fn := fun _ => fun
  | [d1, d2] => { results := [.lit (.bool false)], args := [d1, d2] }
  | _ => none }
def FnExactFamilyOtherWrongFalsely : Prop := fnExactFamilyOtherRow.holds Try.pinned (OpenSpec.ofChange fnExactFamilyOtherWrong)

/-- 'laws.FnExactFamilyRest': WHATEVER THE INPUT: true; the input reads as it did. -/
def fnExactFamilyRestSpec : ChangeSpec := { name := "fnExactFamilyRest", fn := fun _ => fun
  | [d1, d2] => { results := [.lit (.bool true)], args := [d1, d2] }
  | _ => none }
def fnExactFamilyRestRow : OpenClaim := { program := "ytpkomjnbbipnfaa", sum := "83b5c15068032197fce0e9e64afa7228a920fd0b1991952d23a68a3e2c7d6a4e", func := "loop.example/setshadows/laws.FnExactFamilyRest", spec := "fnExactFamilyRest", inPlace := ["slices.overlaps[loop.example/setshadows/impl.set]"], unfollowed := true, recurses := true, apart := false }
def FnExactFamilyRestSaid : Prop := fnExactFamilyRestRow.holds Try.pinned (OpenSpec.ofChange fnExactFamilyRestSpec)

/-- ITS FALSE NEIGHBOUR: 'it returns false'. Refute it at one input. -/
def fnExactFamilyRestWrong : ChangeSpec := { name := "fnExactFamilyRest", fn := fun _ => fun
  | [d1, d2] => { results := [.lit (.bool false)], args := [d1, d2] }
  | _ => none }
def FnExactFamilyRestWrongFalsely : Prop := fnExactFamilyRestRow.holds Try.pinned (OpenSpec.ofChange fnExactFamilyRestWrong)

/-- 'laws.FnExactFamilyProfile': WHATEVER THE INPUT: true; the input reads as it did. -/
def fnExactFamilyProfileSpec : ChangeSpec := { name := "fnExactFamilyProfile", fn := fun _ => fun
  | [d1, d2] => { results := [.lit (.bool true)], args := [d1, d2] }
  | _ => none }
def fnExactFamilyProfileRow : OpenClaim := { program := "ytpkomjnbbipnfaa", sum := "83b5c15068032197fce0e9e64afa7228a920fd0b1991952d23a68a3e2c7d6a4e", func := "loop.example/setshadows/laws.FnExactFamilyProfile", spec := "fnExactFamilyProfile", inPlace := ["slices.overlaps[loop.example/setshadows/impl.set]"], unfollowed := true, recurses := true, apart := false }
def FnExactFamilyProfileSaid : Prop := fnExactFamilyProfileRow.holds Try.pinned (OpenSpec.ofChange fnExactFamilyProfileSpec)

/-- ITS FALSE NEIGHBOUR: 'it returns false'. Refute it at one input. -/
def fnExactFamilyProfileWrong : ChangeSpec := { name := "fnExactFamilyProfile", fn := fun _ => fun
  | [d1, d2] => { results := [.lit (.bool false)], args := [d1, d2] }
  | _ => none }
def FnExactFamilyProfileWrongFalsely : Prop := fnExactFamilyProfileRow.holds Try.pinned (OpenSpec.ofChange fnExactFamilyProfileWrong)

/-- 'laws.FnExactFamilyLink': WHATEVER THE INPUT: true; the input reads as it did. -/
def fnExactFamilyLinkSpec : ChangeSpec := { name := "fnExactFamilyLink", fn := fun _ => fun
  | [d1, d2, d3] => { results := [.lit (.bool true)], args := [d1, d2, d3] }
  | _ => none }
def fnExactFamilyLinkRow : OpenClaim := { program := "ytpkomjnbbipnfaa", sum := "83b5c15068032197fce0e9e64afa7228a920fd0b1991952d23a68a3e2c7d6a4e", func := "loop.example/setshadows/laws.FnExactFamilyLink", spec := "fnExactFamilyLink", inPlace := ["slices.overlaps[loop.example/setshadows/impl.set]"], unfollowed := true, recurses := true, apart := false }
def FnExactFamilyLinkSaid : Prop := fnExactFamilyLinkRow.holds Try.pinned (OpenSpec.ofChange fnExactFamilyLinkSpec)

/-- ITS FALSE NEIGHBOUR: 'it returns false'. Refute it at one input. -/
def fnExactFamilyLinkWrong : ChangeSpec := { name := "fnExactFamilyLink", fn := fun _ => fun
  | [d1, d2, d3] => { results := [.lit (.bool false)], args := [d1, d2, d3] }
  | _ => none }
def FnExactFamilyLinkWrongFalsely : Prop := fnExactFamilyLinkRow.holds Try.pinned (OpenSpec.ofChange fnExactFamilyLinkWrong)

/-- 'laws.FnExactFamilyWithout': WHATEVER THE INPUT: true; the input reads as it did. -/
def fnExactFamilyWithoutSpec : ChangeSpec := { name := "fnExactFamilyWithout", fn := fun _ => fun
  | [d1, d2, d3] => { results := [.lit (.bool true)], args := [d1, d2, d3] }
  | _ => none }
def fnExactFamilyWithoutRow : OpenClaim := { program := "ytpkomjnbbipnfaa", sum := "83b5c15068032197fce0e9e64afa7228a920fd0b1991952d23a68a3e2c7d6a4e", func := "loop.example/setshadows/laws.FnExactFamilyWithout", spec := "fnExactFamilyWithout", inPlace := ["slices.overlaps[loop.example/setshadows/impl.set]"], unfollowed := true, recurses := true, apart := false }
def FnExactFamilyWithoutSaid : Prop := fnExactFamilyWithoutRow.holds Try.pinned (OpenSpec.ofChange fnExactFamilyWithoutSpec)

/-- ITS FALSE NEIGHBOUR: 'it returns false'. Refute it at one input. -/
def fnExactFamilyWithoutWrong : ChangeSpec := { name := "fnExactFamilyWithout", fn := fun _ => fun
  | [d1, d2, d3] => { results := [.lit (.bool false)], args := [d1, d2, d3] }
  | _ => none }
def FnExactFamilyWithoutWrongFalsely : Prop := fnExactFamilyWithoutRow.holds Try.pinned (OpenSpec.ofChange fnExactFamilyWithoutWrong)

/-- 'laws.FnExactFamilyTrace': WHATEVER THE INPUT: true; the input reads as it did. -/
def fnExactFamilyTraceSpec : ChangeSpec := { name := "fnExactFamilyTrace", fn := fun _ => fun
  | [d1, d2, d3] => { results := [.lit (.bool true)], args := [d1, d2, d3] }
  | _ => none }
def fnExactFamilyTraceRow : OpenClaim := { program := "ytpkomjnbbipnfaa", sum := "83b5c15068032197fce0e9e64afa7228a920fd0b1991952d23a68a3e2c7d6a4e", func := "loop.example/setshadows/laws.FnExactFamilyTrace", spec := "fnExactFamilyTrace", inPlace := ["slices.overlaps[loop.example/setshadows/impl.set]"], unfollowed := true, recurses := true, apart := false }
def FnExactFamilyTraceSaid : Prop := fnExactFamilyTraceRow.holds Try.pinned (OpenSpec.ofChange fnExactFamilyTraceSpec)

/-- ITS FALSE NEIGHBOUR: 'it returns false'. Refute it at one input. -/
def fnExactFamilyTraceWrong : ChangeSpec := { name := "fnExactFamilyTrace", fn := fun _ => fun
  | [d1, d2, d3] => { results := [.lit (.bool false)], args := [d1, d2, d3] }
  | _ => none }
def FnExactFamilyTraceWrongFalsely : Prop := fnExactFamilyTraceRow.holds Try.pinned (OpenSpec.ofChange fnExactFamilyTraceWrong)

/-- 'laws.FnExactFamilyMeets': WHATEVER THE INPUT: true; the input reads as it did. -/
def fnExactFamilyMeetsSpec : ChangeSpec := { name := "fnExactFamilyMeets", fn := fun _ => fun
  | [d1, d2, d3] => { results := [.lit (.bool true)], args := [d1, d2, d3] }
  | _ => none }
def fnExactFamilyMeetsRow : OpenClaim := { program := "ytpkomjnbbipnfaa", sum := "83b5c15068032197fce0e9e64afa7228a920fd0b1991952d23a68a3e2c7d6a4e", func := "loop.example/setshadows/laws.FnExactFamilyMeets", spec := "fnExactFamilyMeets", inPlace := ["slices.overlaps[loop.example/setshadows/impl.set]"], unfollowed := true, recurses := true, apart := false }
def FnExactFamilyMeetsSaid : Prop := fnExactFamilyMeetsRow.holds Try.pinned (OpenSpec.ofChange fnExactFamilyMeetsSpec)

/-- ITS FALSE NEIGHBOUR: 'it returns false'. Refute it at one input. -/
def fnExactFamilyMeetsWrong : ChangeSpec := { name := "fnExactFamilyMeets", fn := fun _ => fun
  | [d1, d2, d3] => { results := [.lit (.bool false)], args := [d1, d2, d3] }
  | _ => none }
def FnExactFamilyMeetsWrongFalsely : Prop := fnExactFamilyMeetsRow.holds Try.pinned (OpenSpec.ofChange fnExactFamilyMeetsWrong)

/-- 'laws.FnExactFamilyJoins': WHATEVER THE INPUT: true; the input reads as it did. -/
def fnExactFamilyJoinsSpec : ChangeSpec := { name := "fnExactFamilyJoins", fn := fun _ => fun
  | [d1, d2, d3] => { results := [.lit (.bool true)], args := [d1, d2, d3] }
  | _ => none }
def fnExactFamilyJoinsRow : OpenClaim := { program := "ytpkomjnbbipnfaa", sum := "83b5c15068032197fce0e9e64afa7228a920fd0b1991952d23a68a3e2c7d6a4e", func := "loop.example/setshadows/laws.FnExactFamilyJoins", spec := "fnExactFamilyJoins", inPlace := ["slices.overlaps[loop.example/setshadows/impl.set]"], unfollowed := true, recurses := true, apart := false }
def FnExactFamilyJoinsSaid : Prop := fnExactFamilyJoinsRow.holds Try.pinned (OpenSpec.ofChange fnExactFamilyJoinsSpec)

/-- ITS FALSE NEIGHBOUR: 'it returns false'. Refute it at one input. -/
def fnExactFamilyJoinsWrong : ChangeSpec := { name := "fnExactFamilyJoins", fn := fun _ => fun
  | [d1, d2, d3] => { results := [.lit (.bool false)], args := [d1, d2, d3] }
  | _ => none }
def FnExactFamilyJoinsWrongFalsely : Prop := fnExactFamilyJoinsRow.holds Try.pinned (OpenSpec.ofChange fnExactFamilyJoinsWrong)

/- THE SECOND FORM. 'bulk': how many values and letters a reading holds, each counted each time it is reached (what is shared counts as often as it is met; a slice's spare places count too). A statement '..UptoSaid' is the law's where the arguments, and the package variables that the reading takes, are together of bulk at most 1048576: NARROWER than '..Said'. Prove '..Said' where nothing that the law and all that it calls make is longer than what came in: it says more and counts as full. Else prove '..UptoSaid'. A law counts once. -/
mutual
def uptoBulk {H : Type} : DataW H → Nat
  | .lit (.string bytes) => bytes.length + 1
  | .lit _ => 1
  | .nil => 1
  | .ptr d => uptoBulk d + 1
  | .slice elems spare => uptoBulkAll elems + uptoBulkAll spare + 1
  | .agg parts => uptoBulkAll parts + 1
  | .iface _ d => uptoBulk d + 1
  | .map entries => uptoBulkEntries entries + 1
  | .held _ => 1
def uptoBulkAll {H : Type} : List (DataW H) → Nat
  | [] => 0
  | d :: r => uptoBulk d + uptoBulkAll r
def uptoBulkEntries {H : Type} : List (Lit × DataW H) → Nat
  | [] => 0
  | x :: r => uptoBulkEntry x + uptoBulkEntries r
def uptoBulkEntry {H : Type} : Lit × DataW H → Nat
  | (.string bytes, d) => bytes.length + uptoBulk d + 1
  | (_, d) => uptoBulk d + 1
 end
def uptoSmall : (H : Type) → List (DataW H) → Bool := fun _ ds => decide (uptoBulkAll ds ≤ 1048576)
def OpenSpec.upto (s : _root_.Go.ChangeSpec) : _root_.Go.OpenSpec := { _root_.Go.OpenSpec.ofChange s with cond := some uptoSmall }

/-- 'laws.FnTrace', WHERE WHAT IT READS IS OF BULK AT MOST 1048576: true; the input reads as it did. -/
def fnTraceUptoRow : OpenClaim := { program := "ytpkomjnbbipnfaa", sum := "83b5c15068032197fce0e9e64afa7228a920fd0b1991952d23a68a3e2c7d6a4e", func := "loop.example/setshadows/laws.FnTrace", spec := "fnTrace", inPlace := ["slices.overlaps[loop.example/setshadows/impl.set]"], unfollowed := true, recurses := true, apart := false, narrowed := true }
def FnTraceUptoSaid : Prop := fnTraceUptoRow.holds Try.pinned (OpenSpec.upto fnTraceSpec)

/-- 'laws.FnExactFamilyIn', WHERE WHAT IT READS IS OF BULK AT MOST 1048576: true; the input reads as it did. -/
def fnExactFamilyInUptoRow : OpenClaim := { program := "ytpkomjnbbipnfaa", sum := "83b5c15068032197fce0e9e64afa7228a920fd0b1991952d23a68a3e2c7d6a4e", func := "loop.example/setshadows/laws.FnExactFamilyIn", spec := "fnExactFamilyIn", inPlace := ["slices.overlaps[loop.example/setshadows/impl.set]"], unfollowed := true, recurses := true, apart := false, narrowed := true }
def FnExactFamilyInUptoSaid : Prop := fnExactFamilyInUptoRow.holds Try.pinned (OpenSpec.upto fnExactFamilyInSpec)

/-- 'laws.FnExactFamilyOf', WHERE WHAT IT READS IS OF BULK AT MOST 1048576: true; the input reads as it did. -/
def fnExactFamilyOfUptoRow : OpenClaim := { program := "ytpkomjnbbipnfaa", sum := "83b5c15068032197fce0e9e64afa7228a920fd0b1991952d23a68a3e2c7d6a4e", func := "loop.example/setshadows/laws.FnExactFamilyOf", spec := "fnExactFamilyOf", inPlace := ["slices.overlaps[loop.example/setshadows/impl.set]"], unfollowed := true, recurses := true, apart := false, narrowed := true }
def FnExactFamilyOfUptoSaid : Prop := fnExactFamilyOfUptoRow.holds Try.pinned (OpenSpec.upto fnExactFamilyOfSpec)

/-- 'laws.FnExactFamilyLevel', WHERE WHAT IT READS IS OF BULK AT MOST 1048576: true; the input reads as it did. -/
def fnExactFamilyLevelUptoRow : OpenClaim := { program := "ytpkomjnbbipnfaa", sum := "83b5c15068032197fce0e9e64afa7228a920fd0b1991952d23a68a3e2c7d6a4e", func := "loop.example/setshadows/laws.FnExactFamilyLevel", spec := "fnExactFamilyLevel", inPlace := ["slices.overlaps[loop.example/setshadows/impl.set]"], unfollowed := true, recurses := true, apart := false, narrowed := true }
def FnExactFamilyLevelUptoSaid : Prop := fnExactFamilyLevelUptoRow.holds Try.pinned (OpenSpec.upto fnExactFamilyLevelSpec)

/-- 'laws.FnExactFamilyUnion', WHERE WHAT IT READS IS OF BULK AT MOST 1048576: true; the input reads as it did. -/
def fnExactFamilyUnionUptoRow : OpenClaim := { program := "ytpkomjnbbipnfaa", sum := "83b5c15068032197fce0e9e64afa7228a920fd0b1991952d23a68a3e2c7d6a4e", func := "loop.example/setshadows/laws.FnExactFamilyUnion", spec := "fnExactFamilyUnion", inPlace := ["slices.overlaps[loop.example/setshadows/impl.set]"], unfollowed := true, recurses := true, apart := false, narrowed := true }
def FnExactFamilyUnionUptoSaid : Prop := fnExactFamilyUnionUptoRow.holds Try.pinned (OpenSpec.upto fnExactFamilyUnionSpec)

/-- 'laws.FnExactFamilyCommon', WHERE WHAT IT READS IS OF BULK AT MOST 1048576: true; the input reads as it did. -/
def fnExactFamilyCommonUptoRow : OpenClaim := { program := "ytpkomjnbbipnfaa", sum := "83b5c15068032197fce0e9e64afa7228a920fd0b1991952d23a68a3e2c7d6a4e", func := "loop.example/setshadows/laws.FnExactFamilyCommon", spec := "fnExactFamilyCommon", inPlace := ["slices.overlaps[loop.example/setshadows/impl.set]"], unfollowed := true, recurses := true, apart := false, narrowed := true }
def FnExactFamilyCommonUptoSaid : Prop := fnExactFamilyCommonUptoRow.holds Try.pinned (OpenSpec.upto fnExactFamilyCommonSpec)

/-- 'laws.FnExactFamilyLess', WHERE WHAT IT READS IS OF BULK AT MOST 1048576: true; the input reads as it did. -/
def fnExactFamilyLessUptoRow : OpenClaim := { program := "ytpkomjnbbipnfaa", sum := "83b5c15068032197fce0e9e64afa7228a920fd0b1991952d23a68a3e2c7d6a4e", func := "loop.example/setshadows/laws.FnExactFamilyLess", spec := "fnExactFamilyLess", inPlace := ["slices.overlaps[loop.example/setshadows/impl.set]"], unfollowed := true, recurses := true, apart := false, narrowed := true }
def FnExactFamilyLessUptoSaid : Prop := fnExactFamilyLessUptoRow.holds Try.pinned (OpenSpec.upto fnExactFamilyLessSpec)

/-- 'laws.FnExactFamilyOther', WHERE WHAT IT READS IS OF BULK AT MOST 1048576: true; the input reads as it did. -/
def fnExactFamilyOtherUptoRow : OpenClaim := { program := "ytpkomjnbbipnfaa", sum := "83b5c15068032197fce0e9e64afa7228a920fd0b1991952d23a68a3e2c7d6a4e", func := "loop.example/setshadows/laws.FnExactFamilyOther", spec := "fnExactFamilyOther", inPlace := ["slices.overlaps[loop.example/setshadows/impl.set]"], unfollowed := true, recurses := true, apart := false, narrowed := true }
def FnExactFamilyOtherUptoSaid : Prop := fnExactFamilyOtherUptoRow.holds Try.pinned (OpenSpec.upto fnExactFamilyOtherSpec)

/-- 'laws.FnExactFamilyRest', WHERE WHAT IT READS IS OF BULK AT MOST 1048576: true; the input reads as it did. -/
def fnExactFamilyRestUptoRow : OpenClaim := { program := "ytpkomjnbbipnfaa", sum := "83b5c15068032197fce0e9e64afa7228a920fd0b1991952d23a68a3e2c7d6a4e", func := "loop.example/setshadows/laws.FnExactFamilyRest", spec := "fnExactFamilyRest", inPlace := ["slices.overlaps[loop.example/setshadows/impl.set]"], unfollowed := true, recurses := true, apart := false, narrowed := true }
def FnExactFamilyRestUptoSaid : Prop := fnExactFamilyRestUptoRow.holds Try.pinned (OpenSpec.upto fnExactFamilyRestSpec)

/-- 'laws.FnExactFamilyProfile', WHERE WHAT IT READS IS OF BULK AT MOST 1048576: true; the input reads as it did. -/
def fnExactFamilyProfileUptoRow : OpenClaim := { program := "ytpkomjnbbipnfaa", sum := "83b5c15068032197fce0e9e64afa7228a920fd0b1991952d23a68a3e2c7d6a4e", func := "loop.example/setshadows/laws.FnExactFamilyProfile", spec := "fnExactFamilyProfile", inPlace := ["slices.overlaps[loop.example/setshadows/impl.set]"], unfollowed := true, recurses := true, apart := false, narrowed := true }
def FnExactFamilyProfileUptoSaid : Prop := fnExactFamilyProfileUptoRow.holds Try.pinned (OpenSpec.upto fnExactFamilyProfileSpec)

/-- 'laws.FnExactFamilyLink', WHERE WHAT IT READS IS OF BULK AT MOST 1048576: true; the input reads as it did. -/
def fnExactFamilyLinkUptoRow : OpenClaim := { program := "ytpkomjnbbipnfaa", sum := "83b5c15068032197fce0e9e64afa7228a920fd0b1991952d23a68a3e2c7d6a4e", func := "loop.example/setshadows/laws.FnExactFamilyLink", spec := "fnExactFamilyLink", inPlace := ["slices.overlaps[loop.example/setshadows/impl.set]"], unfollowed := true, recurses := true, apart := false, narrowed := true }
def FnExactFamilyLinkUptoSaid : Prop := fnExactFamilyLinkUptoRow.holds Try.pinned (OpenSpec.upto fnExactFamilyLinkSpec)

/-- 'laws.FnExactFamilyWithout', WHERE WHAT IT READS IS OF BULK AT MOST 1048576: true; the input reads as it did. -/
def fnExactFamilyWithoutUptoRow : OpenClaim := { program := "ytpkomjnbbipnfaa", sum := "83b5c15068032197fce0e9e64afa7228a920fd0b1991952d23a68a3e2c7d6a4e", func := "loop.example/setshadows/laws.FnExactFamilyWithout", spec := "fnExactFamilyWithout", inPlace := ["slices.overlaps[loop.example/setshadows/impl.set]"], unfollowed := true, recurses := true, apart := false, narrowed := true }
def FnExactFamilyWithoutUptoSaid : Prop := fnExactFamilyWithoutUptoRow.holds Try.pinned (OpenSpec.upto fnExactFamilyWithoutSpec)

/-- 'laws.FnExactFamilyTrace', WHERE WHAT IT READS IS OF BULK AT MOST 1048576: true; the input reads as it did. -/
def fnExactFamilyTraceUptoRow : OpenClaim := { program := "ytpkomjnbbipnfaa", sum := "83b5c15068032197fce0e9e64afa7228a920fd0b1991952d23a68a3e2c7d6a4e", func := "loop.example/setshadows/laws.FnExactFamilyTrace", spec := "fnExactFamilyTrace", inPlace := ["slices.overlaps[loop.example/setshadows/impl.set]"], unfollowed := true, recurses := true, apart := false, narrowed := true }
def FnExactFamilyTraceUptoSaid : Prop := fnExactFamilyTraceUptoRow.holds Try.pinned (OpenSpec.upto fnExactFamilyTraceSpec)

/-- 'laws.FnExactFamilyMeets', WHERE WHAT IT READS IS OF BULK AT MOST 1048576: true; the input reads as it did. -/
def fnExactFamilyMeetsUptoRow : OpenClaim := { program := "ytpkomjnbbipnfaa", sum := "83b5c15068032197fce0e9e64afa7228a920fd0b1991952d23a68a3e2c7d6a4e", func := "loop.example/setshadows/laws.FnExactFamilyMeets", spec := "fnExactFamilyMeets", inPlace := ["slices.overlaps[loop.example/setshadows/impl.set]"], unfollowed := true, recurses := true, apart := false, narrowed := true }
def FnExactFamilyMeetsUptoSaid : Prop := fnExactFamilyMeetsUptoRow.holds Try.pinned (OpenSpec.upto fnExactFamilyMeetsSpec)

/-- 'laws.FnExactFamilyJoins', WHERE WHAT IT READS IS OF BULK AT MOST 1048576: true; the input reads as it did. -/
def fnExactFamilyJoinsUptoRow : OpenClaim := { program := "ytpkomjnbbipnfaa", sum := "83b5c15068032197fce0e9e64afa7228a920fd0b1991952d23a68a3e2c7d6a4e", func := "loop.example/setshadows/laws.FnExactFamilyJoins", spec := "fnExactFamilyJoins", inPlace := ["slices.overlaps[loop.example/setshadows/impl.set]"], unfollowed := true, recurses := true, apart := false, narrowed := true }
def FnExactFamilyJoinsUptoSaid : Prop := fnExactFamilyJoinsUptoRow.holds Try.pinned (OpenSpec.upto fnExactFamilyJoinsSpec)

end Rows
end Go.Proofs.Ytpkomjnbbipnfaa
