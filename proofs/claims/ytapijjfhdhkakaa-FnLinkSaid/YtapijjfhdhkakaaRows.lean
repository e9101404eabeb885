/-
  No cell of these rows narrows 'for every input' (looked for: loops, veiled, ifaces, maps, wideKeys, modest, calm, conditions, laid).
  DERIVED. THE GIVEN ROWS OF THIS SEAT. 13 by the template 'for every input the law returns true; each argument reads behind the call as it read before'; 0 by the template 'total and deterministic' (their statements: YtapijjfhdhkakaaTotals.lean).
  GIVEN WITH THE SEED: the statements are not yours to turn. If you find one false, say at which input.
  Laid BY PROGRAM, IN A SANDBOX (cutbox-rows.mjs): the forced cells as the released guide's own fill.sh prints them over the translation 0c265bb24daed540… (all of the seat's roots in one cut). By AI agents, Wed Nov 11 2026. No macro, syntax, notation, axiom, sorry.
-/
import Derived.Test.YtapijjfhdhkakaaChecked
import GoSem.Claim
import GoSem.ClaimJoined
import GoSem.ClaimMapViews
import Derived.JoinedTies
import Derived.KernelRfl
namespace Go.Proofs.Ytapijjfhdhkakaa
/- THE CELL 'sum', in the pinned program and in every row, IS THE sha256 OF THE DUMP (.gsa) THAT YtapijjfhdhkakaaProg.lean LOADS. Nothing in Lean hashes anything: it is a label: what it is worth is what the hold of that sum in a sandbox is worth. -/
noncomputable def Try.pinned : Pinned := { name := "ytapijjfhdhkakaa", sum := "0c265bb24daed540adfb888ada5725b08deb953cbdd73ddf9915710af94af796", checked := Try.checked }
namespace Rows
def none {H : Type} : Left H := { results := [], args := [] }

/-- 'laws.FnFamily': WHATEVER THE INPUT: true; the input reads as it did. -/
def fnFamilySpec : ChangeSpec := { name := "fnFamily", fn := fun _ => fun
  | [d] => { results := [.lit (.bool true)], args := [d] }
  | _ => none }
def fnFamilyRow : OpenClaim := { program := "ytapijjfhdhkakaa", sum := "0c265bb24daed540adfb888ada5725b08deb953cbdd73ddf9915710af94af796", func := "loop.example/setshadows/laws.FnFamily", spec := "fnFamily", inPlace := ["slices.overlaps[loop.example/setshadows/impl.set]"], unfollowed := true, recurses := true, apart := false }
def FnFamilySaid : Prop := fnFamilyRow.holds Try.pinned (OpenSpec.ofChange fnFamilySpec)

/-- ITS FALSE NEIGHBOUR: 'it returns false'. Refute it at one input. -/
def fnFamilyWrong : ChangeSpec := { name := "fnFamily", fn := fun _ => fun
  | [d] => { results := [.lit (.bool false)], args := [d] }
  | _ => none }
def FnFamilyWrongFalsely : Prop := fnFamilyRow.holds Try.pinned (OpenSpec.ofChange fnFamilyWrong)

/-- 'laws.FnFamilyOf': WHATEVER THE INPUT: true; the input reads as it did. -/
def fnFamilyOfSpec : ChangeSpec := { name := "fnFamilyOf", fn := fun _ => fun
  | [d] => { results := [.lit (.bool true)], args := [d] }
  | _ => none }
def fnFamilyOfRow : OpenClaim := { program := "ytapijjfhdhkakaa", sum := "0c265bb24daed540adfb888ada5725b08deb953cbdd73ddf9915710af94af796", func := "loop.example/setshadows/laws.FnFamilyOf", spec := "fnFamilyOf", inPlace := ["slices.overlaps[loop.example/setshadows/impl.set]"], unfollowed := true, recurses := true, apart := false }
def FnFamilyOfSaid : Prop := fnFamilyOfRow.holds Try.pinned (OpenSpec.ofChange fnFamilyOfSpec)

/-- ITS FALSE NEIGHBOUR: 'it returns false'. Refute it at one input. -/
def fnFamilyOfWrong : ChangeSpec := { name := "fnFamilyOf", fn := fun _ => fun
  | [d] => { results := [.lit (.bool false)], args := [d] }
  | _ => none }
def FnFamilyOfWrongFalsely : Prop := fnFamilyOfRow.holds Try.pinned (OpenSpec.ofChange fnFamilyOfWrong)

/-- 'laws.FnLevel': WHATEVER THE INPUT: true; the input reads as it did. -/
def fnLevelSpec : ChangeSpec := { name := "fnLevel", fn := fun _ => fun
  | [d] => { results := [.lit (.bool true)], args := [d] }
  | _ => none }
def fnLevelRow : OpenClaim := { program := "ytapijjfhdhkakaa", sum := "0c265bb24daed540adfb888ada5725b08deb953cbdd73ddf9915710af94af796", func := "loop.example/setshadows/laws.FnLevel", spec := "fnLevel", inPlace := ["slices.overlaps[loop.example/setshadows/impl.set]"], unfollowed := true, recurses := true, apart := false }
def FnLevelSaid : Prop := fnLevelRow.holds Try.pinned (OpenSpec.ofChange fnLevelSpec)

/-- ITS FALSE NEIGHBOUR: 'it returns false'. Refute it at one input. -/
def fnLevelWrong : ChangeSpec := { name := "fnLevel", fn := fun _ => fun
  | [d] => { results := [.lit (.bool false)], args := [d] }
  | _ => none }
def FnLevelWrongFalsely : Prop := fnLevelRow.holds Try.pinned (OpenSpec.ofChange fnLevelWrong)

/-- 'laws.FnUnion': WHATEVER THE INPUT: true; the input reads as it did. -/
def fnUnionSpec : ChangeSpec := { name := "fnUnion", fn := fun _ => fun
  | [d] => { results := [.lit (.bool true)], args := [d] }
  | _ => none }
def fnUnionRow : OpenClaim := { program := "ytapijjfhdhkakaa", sum := "0c265bb24daed540adfb888ada5725b08deb953cbdd73ddf9915710af94af796", func := "loop.example/setshadows/laws.FnUnion", spec := "fnUnion", inPlace := ["slices.overlaps[loop.example/setshadows/impl.set]"], unfollowed := true, recurses := true, apart := false }
def FnUnionSaid : Prop := fnUnionRow.holds Try.pinned (OpenSpec.ofChange fnUnionSpec)

/-- ITS FALSE NEIGHBOUR: 'it returns false'. Refute it at one input. -/
def fnUnionWrong : ChangeSpec := { name := "fnUnion", fn := fun _ => fun
  | [d] => { results := [.lit (.bool false)], args := [d] }
  | _ => none }
def FnUnionWrongFalsely : Prop := fnUnionRow.holds Try.pinned (OpenSpec.ofChange fnUnionWrong)

/-- 'laws.FnCommon': WHATEVER THE INPUT: true; the input reads as it did. -/
def fnCommonSpec : ChangeSpec := { name := "fnCommon", fn := fun _ => fun
  | [d] => { results := [.lit (.bool true)], args := [d] }
  | _ => none }
def fnCommonRow : OpenClaim := { program := "ytapijjfhdhkakaa", sum := "0c265bb24daed540adfb888ada5725b08deb953cbdd73ddf9915710af94af796", func := "loop.example/setshadows/laws.FnCommon", spec := "fnCommon", inPlace := ["slices.overlaps[loop.example/setshadows/impl.set]"], unfollowed := true, recurses := true, apart := false }
def FnCommonSaid : Prop := fnCommonRow.holds Try.pinned (OpenSpec.ofChange fnCommonSpec)

/-- ITS FALSE NEIGHBOUR: 'it returns false'. Refute it at one input. -/
def fnCommonWrong : ChangeSpec := { name := "fnCommon", fn := fun _ => fun
  | [d] => { results := [.lit (.bool false)], args := [d] }
  | _ => none }
def FnCommonWrongFalsely : Prop := fnCommonRow.holds Try.pinned (OpenSpec.ofChange fnCommonWrong)

/-- 'laws.FnLess': WHATEVER THE INPUT: true; the input reads as it did. -/
def fnLessSpec : ChangeSpec := { name := "fnLess", fn := fun _ => fun
  | [d] => { results := [.lit (.bool true)], args := [d] }
  | _ => none }
def fnLessRow : OpenClaim := { program := "ytapijjfhdhkakaa", sum := "0c265bb24daed540adfb888ada5725b08deb953cbdd73ddf9915710af94af796", func := "loop.example/setshadows/laws.FnLess", spec := "fnLess", inPlace := ["slices.overlaps[loop.example/setshadows/impl.set]"], unfollowed := true, recurses := true, apart := false }
def FnLessSaid : Prop := fnLessRow.holds Try.pinned (OpenSpec.ofChange fnLessSpec)

/-- ITS FALSE NEIGHBOUR: 'it returns false'. Refute it at one input. -/
def fnLessWrong : ChangeSpec := { name := "fnLess", fn := fun _ => fun
  | [d] => { results := [.lit (.bool false)], args := [d] }
  | _ => none }
def FnLessWrongFalsely : Prop := fnLessRow.holds Try.pinned (OpenSpec.ofChange fnLessWrong)

/-- 'laws.FnFamilyOther': WHATEVER THE INPUT: true; the input reads as it did. -/
def fnFamilyOtherSpec : ChangeSpec := { name := "fnFamilyOther", fn := fun _ => fun
  | [d] => { results := [.lit (.bool true)], args := [d] }
  | _ => none }
def fnFamilyOtherRow : OpenClaim := { program := "ytapijjfhdhkakaa", sum := "0c265bb24daed540adfb888ada5725b08deb953cbdd73ddf9915710af94af796", func := "loop.example/setshadows/laws.FnFamilyOther", spec := "fnFamilyOther", inPlace := ["slices.overlaps[loop.example/setshadows/impl.set]"], unfollowed := true, recurses := true, apart := false }
def FnFamilyOtherSaid : Prop := fnFamilyOtherRow.holds Try.pinned (OpenSpec.ofChange fnFamilyOtherSpec)

/-- ITS FALSE NEIGHBOUR: 'it returns false'. Refute it at one input. -/
def fnFamilyOtherWrong : ChangeSpec := { name := "fnFamilyOther", fn := fun _ => fun
  | [d] => { results := [.lit (.bool false)], args := [d] }
  | _ => none }
def FnFamilyOtherWrongFalsely : Prop := fnFamilyOtherRow.holds Try.pinned (OpenSpec.ofChange fnFamilyOtherWrong)

/-- 'laws.FnRest': WHATEVER THE INPUT: true; the input reads as it did. -/
def fnRestSpec : ChangeSpec := { name := "fnRest", fn := fun _ => fun
  | [d] => { results := [.lit (.bool true)], args := [d] }
  | _ => none }
def fnRestRow : OpenClaim := { program := "ytapijjfhdhkakaa", sum := "0c265bb24daed540adfb888ada5725b08deb953cbdd73ddf9915710af94af796", func := "loop.example/setshadows/laws.FnRest", spec := "fnRest", inPlace := ["slices.overlaps[loop.example/setshadows/impl.set]"], unfollowed := true, recurses := true, apart := false }
def FnRestSaid : Prop := fnRestRow.holds Try.pinned (OpenSpec.ofChange fnRestSpec)

/-- ITS FALSE NEIGHBOUR: 'it returns false'. Refute it at one input. -/
def fnRestWrong : ChangeSpec := { name := "fnRest", fn := fun _ => fun
  | [d] => { results := [.lit (.bool false)], args := [d] }
  | _ => none }
def FnRestWrongFalsely : Prop := fnRestRow.holds Try.pinned (OpenSpec.ofChange fnRestWrong)

/-- 'laws.FnProfile': WHATEVER THE INPUT: true; the input reads as it did. -/
def fnProfileSpec : ChangeSpec := { name := "fnProfile", fn := fun _ => fun
  | [d] => { results := [.lit (.bool true)], args := [d] }
  | _ => none }
def fnProfileRow : OpenClaim := { program := "ytapijjfhdhkakaa", sum := "0c265bb24daed540adfb888ada5725b08deb953cbdd73ddf9915710af94af796", func := "loop.example/setshadows/laws.FnProfile", spec := "fnProfile", inPlace := ["slices.overlaps[loop.example/setshadows/impl.set]"], unfollowed := true, recurses := true, apart := false }
def FnProfileSaid : Prop := fnProfileRow.holds Try.pinned (OpenSpec.ofChange fnProfileSpec)

/-- ITS FALSE NEIGHBOUR: 'it returns false'. Refute it at one input. -/
def fnProfileWrong : ChangeSpec := { name := "fnProfile", fn := fun _ => fun
  | [d] => { results := [.lit (.bool false)], args := [d] }
  | _ => none }
def FnProfileWrongFalsely : Prop := fnProfileRow.holds Try.pinned (OpenSpec.ofChange fnProfileWrong)

/-- 'laws.FnLink': WHATEVER THE INPUT: true; the input reads as it did. -/
def fnLinkSpec : ChangeSpec := { name := "fnLink", fn := fun _ => fun
  | [d] => { results := [.lit (.bool true)], args := [d] }
  | _ => none }
def fnLinkRow : OpenClaim := { program := "ytapijjfhdhkakaa", sum := "0c265bb24daed540adfb888ada5725b08deb953cbdd73ddf9915710af94af796", func := "loop.example/setshadows/laws.FnLink", spec := "fnLink", inPlace := ["slices.overlaps[loop.example/setshadows/impl.set]"], unfollowed := true, recurses := true, apart := false }
def FnLinkSaid : Prop := fnLinkRow.holds Try.pinned (OpenSpec.ofChange fnLinkSpec)

/-- ITS FALSE NEIGHBOUR: 'it returns false'. Refute it at one input. -/
def fnLinkWrong : ChangeSpec := { name := "fnLink", fn := fun _ => fun
  | [d] => { results := [.lit (.bool false)], args := [d] }
  | _ => none }
def FnLinkWrongFalsely : Prop := fnLinkRow.holds Try.pinned (OpenSpec.ofChange fnLinkWrong)

/-- 'laws.FnWithout': WHATEVER THE INPUT: true; the input reads as it did. -/
def fnWithoutSpec : ChangeSpec := { name := "fnWithout", fn := fun _ => fun
  | [d] => { results := [.lit (.bool true)], args := [d] }
  | _ => none }
def fnWithoutRow : OpenClaim := { program := "ytapijjfhdhkakaa", sum := "0c265bb24daed540adfb888ada5725b08deb953cbdd73ddf9915710af94af796", func := "loop.example/setshadows/laws.FnWithout", spec := "fnWithout", inPlace := ["slices.overlaps[loop.example/setshadows/impl.set]"], unfollowed := true, recurses := true, apart := false }
def FnWithoutSaid : Prop := fnWithoutRow.holds Try.pinned (OpenSpec.ofChange fnWithoutSpec)

/-- ITS FALSE NEIGHBOUR: 'it returns false'. Refute it at one input. -/
def fnWithoutWrong : ChangeSpec := { name := "fnWithout", fn := fun _ => fun
  | [d] => { results := [.lit (.bool false)], args := [d] }
  | _ => none }
def FnWithoutWrongFalsely : Prop := fnWithoutRow.holds Try.pinned (OpenSpec.ofChange fnWithoutWrong)

/-- 'laws.FnMeets': WHATEVER THE INPUT: true; the input reads as it did. -/
def fnMeetsSpec : ChangeSpec := { name := "fnMeets", fn := fun _ => fun
  | [d] => { results := [.lit (.bool true)], args := [d] }
  | _ => none }
def fnMeetsRow : OpenClaim := { program := "ytapijjfhdhkakaa", sum := "0c265bb24daed540adfb888ada5725b08deb953cbdd73ddf9915710af94af796", func := "loop.example/setshadows/laws.FnMeets", spec := "fnMeets", inPlace := ["slices.overlaps[loop.example/setshadows/impl.set]"], unfollowed := true, recurses := true, apart := false }
def FnMeetsSaid : Prop := fnMeetsRow.holds Try.pinned (OpenSpec.ofChange fnMeetsSpec)

/-- ITS FALSE NEIGHBOUR: 'it returns false'. Refute it at one input. -/
def fnMeetsWrong : ChangeSpec := { name := "fnMeets", fn := fun _ => fun
  | [d] => { results := [.lit (.bool false)], args := [d] }
  | _ => none }
def FnMeetsWrongFalsely : Prop := fnMeetsRow.holds Try.pinned (OpenSpec.ofChange fnMeetsWrong)

/-- 'laws.FnJoins': WHATEVER THE INPUT: true; the input reads as it did. -/
def fnJoinsSpec : ChangeSpec := { name := "fnJoins", fn := fun _ => fun
  | [d] => { results := [.lit (.bool true)], args := [d] }
  | _ => none }
def fnJoinsRow : OpenClaim := { program := "ytapijjfhdhkakaa", sum := "0c265bb24daed540adfb888ada5725b08deb953cbdd73ddf9915710af94af796", func := "loop.example/setshadows/laws.FnJoins", spec := "fnJoins", inPlace := ["slices.overlaps[loop.example/setshadows/impl.set]"], unfollowed := true, recurses := true, apart := false }
def FnJoinsSaid : Prop := fnJoinsRow.holds Try.pinned (OpenSpec.ofChange fnJoinsSpec)

/-- ITS FALSE NEIGHBOUR: 'it returns false'. Refute it at one input. -/
def fnJoinsWrong : ChangeSpec := { name := "fnJoins", fn := fun _ => fun
  | [d] => { results := [.lit (.bool false)], args := [d] }
  | _ => none }
def FnJoinsWrongFalsely : Prop := fnJoinsRow.holds Try.pinned (OpenSpec.ofChange fnJoinsWrong)

/- THE SECOND FORM. 'bulk': how many values and letters a reading holds, each counted each time it is reached (what is shared counts as often as it is met; a slice's spare places count too). A statement '..UptoSaid' is the law's where the arguments, and the package variables that the reading takes, are together of bulk at most 1048576: NARROWER than '..Said'. Prove '..Said' where nothing that the law and all that it calls make is longer than what came in: it says more and counts as full. Else prove '..UptoSaid'. A law counts once. -/
mutual
def uptoBulk {H : Type} : DataW H → Nat
  | .lit (.string bytes) => bytes.length + 1
  | .lit _ => 1
  | .nil => 1
  | .ptr d => uptoBulk d + 1
  | .slice elems spare => uptoBulkAll elems + uptoBulkAll spare + 1
  | .agg parts => uptoBulkAll parts + 1
  | .iface _ d => uptoBulk d + 1
  | .map entries => uptoBulkEntries entries + 1
  | .held _ => 1
def uptoBulkAll {H : Type} : List (DataW H) → Nat
  | [] => 0
  | d :: r => uptoBulk d + uptoBulkAll r
def uptoBulkEntries {H : Type} : List (Lit × DataW H) → Nat
  | [] => 0
  | x :: r => uptoBulkEntry x + uptoBulkEntries r
def uptoBulkEntry {H : Type} : Lit × DataW H → Nat
  | (.string bytes, d) => bytes.length + uptoBulk d + 1
  | (_, d) => uptoBulk d + 1
 end
def uptoSmall : (H : Type) → List (DataW H) → Bool := fun _ ds => decide (uptoBulkAll ds ≤ 1048576)
def OpenSpec.upto (s : _root_.Go.ChangeSpec) : _root_.Go.OpenSpec := { _root_.Go.OpenSpec.ofChange s with cond := some uptoSmall }

/-- 'laws.FnFamily', WHERE WHAT IT READS IS OF BULK AT MOST 1048576: true; the input reads as it did. -/
def fnFamilyUptoRow : OpenClaim := { program := "ytapijjfhdhkakaa", sum := "0c265bb24daed540adfb888ada5725b08deb953cbdd73ddf9915710af94af796", func := "loop.example/setshadows/laws.FnFamily", spec := "fnFamily", inPlace := ["slices.overlaps[loop.example/setshadows/impl.set]"], unfollowed := true, recurses := true, apart := false, narrowed := true }
def FnFamilyUptoSaid : Prop := fnFamilyUptoRow.holds Try.pinned (OpenSpec.upto fnFamilySpec)

/-- 'laws.FnFamilyOf', WHERE WHAT IT READS IS OF BULK AT MOST 1048576: true; the input reads as it did. -/
def fnFamilyOfUptoRow : OpenClaim := { program := "ytapijjfhdhkakaa", sum := "0c265bb24daed540adfb888ada5725b08deb953cbdd73ddf9915710af94af796", func := "loop.example/setshadows/laws.FnFamilyOf", spec := "fnFamilyOf", inPlace := ["slices.overlaps[loop.example/setshadows/impl.set]"], unfollowed := true, recurses := true, apart := false, narrowed := true }
def FnFamilyOfUptoSaid : Prop := fnFamilyOfUptoRow.holds Try.pinned (OpenSpec.upto fnFamilyOfSpec)

/-- 'laws.FnLevel', WHERE WHAT IT READS IS OF BULK AT MOST 1048576: true; the input reads as it did. -/
def fnLevelUptoRow : OpenClaim := { program := "ytapijjfhdhkakaa", sum := "0c265bb24daed540adfb888ada5725b08deb953cbdd73ddf9915710af94af796", func := "loop.example/setshadows/laws.FnLevel", spec := "fnLevel", inPlace := ["slices.overlaps[loop.example/setshadows/impl.set]"], unfollowed := true, recurses := true, apart := false, narrowed := true }
def FnLevelUptoSaid : Prop := fnLevelUptoRow.holds Try.pinned (OpenSpec.upto fnLevelSpec)

/-- 'laws.FnUnion', WHERE WHAT IT READS IS OF BULK AT MOST 1048576: true; the input reads as it did. -/
def fnUnionUptoRow : OpenClaim := { program := "ytapijjfhdhkakaa", sum := "0c265bb24daed540adfb888ada5725b08deb953cbdd73ddf9915710af94af796", func := "loop.example/setshadows/laws.FnUnion", spec := "fnUnion", inPlace := ["slices.overlaps[loop.example/setshadows/impl.set]"], unfollowed := true, recurses := true, apart := false, narrowed := true }
def FnUnionUptoSaid : Prop := fnUnionUptoRow.holds Try.pinned (OpenSpec.upto fnUnionSpec)

/-- 'laws.FnCommon', WHERE WHAT IT READS IS OF BULK AT MOST 1048576: true; the input reads as it did. -/
def fnCommonUptoRow : OpenClaim := { program := "ytapijjfhdhkakaa", sum := "0c265bb24daed540adfb888ada5725b08deb953cbdd73ddf9915710af94af796", func := "loop.example/setshadows/laws.FnCommon", spec := "fnCommon", inPlace := ["slices.overlaps[loop.example/setshadows/impl.set]"], unfollowed := true, recurses := true, apart := false, narrowed := true }
def FnCommonUptoSaid : Prop := fnCommonUptoRow.holds Try.pinned (OpenSpec.upto fnCommonSpec)

/-- 'laws.FnLess', WHERE WHAT IT READS IS OF BULK AT MOST 1048576: true; the input reads as it did. -/
def fnLessUptoRow : OpenClaim := { program := "ytapijjfhdhkakaa", sum := "0c265bb24daed540adfb888ada5725b08deb953cbdd73ddf9915710af94af796", func := "loop.example/setshadows/laws.FnLess", spec := "fnLess", inPlace := ["slices.overlaps[loop.example/setshadows/impl.set]"], unfollowed := true, recurses := true, apart := false, narrowed := true }
def FnLessUptoSaid : Prop := fnLessUptoRow.holds Try.pinned (OpenSpec.upto fnLessSpec)

/-- 'laws.FnFamilyOther', WHERE WHAT IT READS IS OF BULK AT MOST 1048576: true; the input reads as it did. -/
def fnFamilyOtherUptoRow : OpenClaim := { program := "ytapijjfhdhkakaa", sum := "0c265bb24daed540adfb888ada5725b08deb953cbdd73ddf9915710af94af796", func := "loop.example/setshadows/laws.FnFamilyOther", spec := "fnFamilyOther", inPlace := ["slices.overlaps[loop.example/setshadows/impl.set]"], unfollowed := true, recurses := true, apart := false, narrowed := true }
def FnFamilyOtherUptoSaid : Prop := fnFamilyOtherUptoRow.holds Try.pinned (OpenSpec.upto fnFamilyOtherSpec)

/-- 'laws.FnRest', WHERE WHAT IT READS IS OF BULK AT MOST 1048576: true; the input reads as it did. -/
def fnRestUptoRow : OpenClaim := { program := "ytapijjfhdhkakaa", sum := "0c265bb24daed540adfb888ada5725b08deb953cbdd73ddf9915710af94af796", func := "loop.example/setshadows/laws.FnRest", spec := "fnRest", inPlace := ["slices.overlaps[loop.example/setshadows/impl.set]"], unfollowed := true, recurses := true, apart := false, narrowed := true }
def FnRestUptoSaid : Prop := fnRestUptoRow.holds Try.pinned (OpenSpec.upto fnRestSpec)

/-- 'laws.FnProfile', WHERE WHAT IT READS IS OF BULK AT MOST 1048576: true; the input reads as it did. -/
def fnProfileUptoRow : OpenClaim := { program := "ytapijjfhdhkakaa", sum := "0c265bb24daed540adfb888ada5725b08deb953cbdd73ddf9915710af94af796", func := "loop.example/setshadows/laws.FnProfile", spec := "fnProfile", inPlace := ["slices.overlaps[loop.example/setshadows/impl.set]"], unfollowed := true, recurses := true, apart := false, narrowed := true }
def FnProfileUptoSaid : Prop := fnProfileUptoRow.holds Try.pinned (OpenSpec.upto fnProfileSpec)

/-- 'laws.FnLink', WHERE WHAT IT READS IS OF BULK AT MOST 1048576: true; the input reads as it did. -/
def fnLinkUptoRow : OpenClaim := { program := "ytapijjfhdhkakaa", sum := "0c265bb24daed540adfb888ada5725b08deb953cbdd73ddf9915710af94af796", func := "loop.example/setshadows/laws.FnLink", spec := "fnLink", inPlace := ["slices.overlaps[loop.example/setshadows/impl.set]"], unfollowed := true, recurses := true, apart := false, narrowed := true }
def FnLinkUptoSaid : Prop := fnLinkUptoRow.holds Try.pinned (OpenSpec.upto fnLinkSpec)

/-- 'laws.FnWithout', WHERE WHAT IT READS IS OF BULK AT MOST 1048576: true; the input reads as it did. -/
def fnWithoutUptoRow : OpenClaim := { program := "ytapijjfhdhkakaa", sum := "0c265bb24daed540adfb888ada5725b08deb953cbdd73ddf9915710af94af796", func := "loop.example/setshadows/laws.FnWithout", spec := "fnWithout", inPlace := ["slices.overlaps[loop.example/setshadows/impl.set]"], unfollowed := true, recurses := true, apart := false, narrowed := true }
def FnWithoutUptoSaid : Prop := fnWithoutUptoRow.holds Try.pinned (OpenSpec.upto fnWithoutSpec)

/-- 'laws.FnMeets', WHERE WHAT IT READS IS OF BULK AT MOST 1048576: true; the input reads as it did. -/
def fnMeetsUptoRow : OpenClaim := { program := "ytapijjfhdhkakaa", sum := "0c265bb24daed540adfb888ada5725b08deb953cbdd73ddf9915710af94af796", func := "loop.example/setshadows/laws.FnMeets", spec := "fnMeets", inPlace := ["slices.overlaps[loop.example/setshadows/impl.set]"], unfollowed := true, recurses := true, apart := false, narrowed := true }
def FnMeetsUptoSaid : Prop := fnMeetsUptoRow.holds Try.pinned (OpenSpec.upto fnMeetsSpec)

/-- 'laws.FnJoins', WHERE WHAT IT READS IS OF BULK AT MOST 1048576: true; the input reads as it did. -/
def fnJoinsUptoRow : OpenClaim := { program := "ytapijjfhdhkakaa", sum := "0c265bb24daed540adfb888ada5725b08deb953cbdd73ddf9915710af94af796", func := "loop.example/setshadows/laws.FnJoins", spec := "fnJoins", inPlace := ["slices.overlaps[loop.example/setshadows/impl.set]"], unfollowed := true, recurses := true, apart := false, narrowed := true }
def FnJoinsUptoSaid : Prop := fnJoinsUptoRow.holds Try.pinned (OpenSpec.upto fnJoinsSpec)

end Rows
end Go.Proofs.Ytapijjfhdhkakaa
