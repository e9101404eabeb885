/-
  No cell of these rows narrows 'for every input' (looked for: loops, veiled, ifaces, maps, wideKeys, modest, calm, conditions, laid).
  DERIVED. THE GIVEN ROWS OF THIS SEAT. 10 by the template 'for every input the law returns true; each argument reads behind the call as it read before'; 0 by the template 'total and deterministic' (their statements: YtfcegnnajpflmaaTotals.lean).
  GIVEN WITH THE SEED: the statements are not yours to turn. If you find one false, say at which input.
  Laid BY PROGRAM, IN A SANDBOX (cutbox-rows.mjs): the forced cells as the released guide's own fill.sh prints them over the translation 5b3dc3debbce8740… (all of the seat's roots in one cut). By AI agents, Wed Nov 11 2026. No macro, syntax, notation, axiom, sorry.
-/
import Derived.Test.YtfcegnnajpflmaaChecked
import GoSem.Claim
import GoSem.ClaimJoined
import GoSem.ClaimMapViews
import Derived.JoinedTies
import Derived.KernelRfl
namespace Go.Proofs.Ytfcegnnajpflmaa
/- THE CELL 'sum', in the pinned program and in every row, IS THE sha256 OF THE DUMP (.gsa) THAT YtfcegnnajpflmaaProg.lean LOADS. Nothing in Lean hashes anything: it is a label: what it is worth is what the hold of that sum in a sandbox is worth. -/
noncomputable def Try.pinned : Pinned := { name := "ytfcegnnajpflmaa", sum := "5b3dc3debbce8740e661549894e2ac06dd3617b5519c2f493c525f5d1997778c", checked := Try.checked }
namespace Rows
def none {H : Type} : Left H := { results := [], args := [] }

/-- 'laws.FnPairsWeight': WHATEVER THE INPUT: true; the input reads as it did. -/
def fnPairsWeightSpec : ChangeSpec := { name := "fnPairsWeight", fn := fun _ => fun
  | [d] => { results := [.lit (.bool true)], args := [d] }
  | _ => none }
def fnPairsWeightRow : OpenClaim := { program := "ytfcegnnajpflmaa", sum := "5b3dc3debbce8740e661549894e2ac06dd3617b5519c2f493c525f5d1997778c", func := "loop.example/setshadows/laws.FnPairsWeight", spec := "fnPairsWeight", inPlace := ["slices.overlaps[loop.example/setshadows/impl.set]"], unfollowed := true, recurses := true, apart := false }
def FnPairsWeightSaid : Prop := fnPairsWeightRow.holds Try.pinned (OpenSpec.ofChange fnPairsWeightSpec)

/-- ITS FALSE NEIGHBOUR: 'it returns false'. Refute it at one input. -/
def fnPairsWeightWrong : ChangeSpec := { name := "fnPairsWeight", fn := fun _ => fun
  | [d] => { results := [.lit (.bool false)], args := [d] }
  | _ => none }
def FnPairsWeightWrongFalsely : Prop := fnPairsWeightRow.holds Try.pinned (OpenSpec.ofChange fnPairsWeightWrong)

/-- 'laws.FnExactIntersectIn': WHATEVER THE INPUT: true; the input reads as it did. -/
def fnExactIntersectInSpec : ChangeSpec := { name := "fnExactIntersectIn", fn := fun _ => fun
  | [d1, d2] => { results := [.lit (.bool true)], args := [d1, d2] }
  | _ => none }
def fnExactIntersectInRow : OpenClaim := { program := "ytfcegnnajpflmaa", sum := "5b3dc3debbce8740e661549894e2ac06dd3617b5519c2f493c525f5d1997778c", func := "loop.example/setshadows/laws.FnExactIntersectIn", spec := "fnExactIntersectIn", inPlace := ["slices.overlaps[loop.example/setshadows/impl.set]"], unfollowed := true, recurses := true, apart := false }
def FnExactIntersectInSaid : Prop := fnExactIntersectInRow.holds Try.pinned (OpenSpec.ofChange fnExactIntersectInSpec)

/-- ITS FALSE NEIGHBOUR: 'it returns false'. Refute it at one input. -/
def fnExactIntersectInWrong : ChangeSpec := { name := "fnExactIntersectIn", fn := fun _ => fun
  | [d1, d2] => { results := [.lit (.bool false)], args := [d1, d2] }
  | _ => none }
def FnExactIntersectInWrongFalsely : Prop := fnExactIntersectInRow.holds Try.pinned (OpenSpec.ofChange fnExactIntersectInWrong)

/-- 'laws.FnExactIntersectCross': WHATEVER THE INPUT: true; the input reads as it did. -/
def fnExactIntersectCrossSpec : ChangeSpec := { name := "fnExactIntersectCross", fn := fun _ => fun
  | [d1, d2, d3] => { results := [.lit (.bool true)], args := [d1, d2, d3] }
  | _ => none }
def fnExactIntersectCrossRow : OpenClaim := { program := "ytfcegnnajpflmaa", sum := "5b3dc3debbce8740e661549894e2ac06dd3617b5519c2f493c525f5d1997778c", func := "loop.example/setshadows/laws.FnExactIntersectCross", spec := "fnExactIntersectCross", inPlace := ["slices.overlaps[loop.example/setshadows/impl.set]"], unfollowed := true, recurses := true, apart := false }
def FnExactIntersectCrossSaid : Prop := fnExactIntersectCrossRow.holds Try.pinned (OpenSpec.ofChange fnExactIntersectCrossSpec)

/-- ITS FALSE NEIGHBOUR: 'it returns false'. Refute it at one input. -/
def fnExactIntersectCrossWrong : ChangeSpec := { name := "fnExactIntersectCross", fn := fun _ => fun
  | [d1, d2, d3] => { results := [.lit (.bool false)], args := [d1, d2, d3] }
  | _ => none }
def FnExactIntersectCrossWrongFalsely : Prop := fnExactIntersectCrossRow.holds Try.pinned (OpenSpec.ofChange fnExactIntersectCrossWrong)

/-- 'laws.FnExactIntersectStar': WHATEVER THE INPUT: true; the input reads as it did. -/
def fnExactIntersectStarSpec : ChangeSpec := { name := "fnExactIntersectStar", fn := fun _ => fun
  | [d1, d2, d3] => { results := [.lit (.bool true)], args := [d1, d2, d3] }
  | _ => none }
def fnExactIntersectStarRow : OpenClaim := { program := "ytfcegnnajpflmaa", sum := "5b3dc3debbce8740e661549894e2ac06dd3617b5519c2f493c525f5d1997778c", func := "loop.example/setshadows/laws.FnExactIntersectStar", spec := "fnExactIntersectStar", inPlace := ["slices.overlaps[loop.example/setshadows/impl.set]"], unfollowed := true, recurses := true, apart := false }
def FnExactIntersectStarSaid : Prop := fnExactIntersectStarRow.holds Try.pinned (OpenSpec.ofChange fnExactIntersectStarSpec)

/-- ITS FALSE NEIGHBOUR: 'it returns false'. Refute it at one input. -/
def fnExactIntersectStarWrong : ChangeSpec := { name := "fnExactIntersectStar", fn := fun _ => fun
  | [d1, d2, d3] => { results := [.lit (.bool false)], args := [d1, d2, d3] }
  | _ => none }
def FnExactIntersectStarWrongFalsely : Prop := fnExactIntersectStarRow.holds Try.pinned (OpenSpec.ofChange fnExactIntersectStarWrong)

/-- 'laws.FnExactIntersectMost': WHATEVER THE INPUT: true; the input reads as it did. -/
def fnExactIntersectMostSpec : ChangeSpec := { name := "fnExactIntersectMost", fn := fun _ => fun
  | [d1, d2] => { results := [.lit (.bool true)], args := [d1, d2] }
  | _ => none }
def fnExactIntersectMostRow : OpenClaim := { program := "ytfcegnnajpflmaa", sum := "5b3dc3debbce8740e661549894e2ac06dd3617b5519c2f493c525f5d1997778c", func := "loop.example/setshadows/laws.FnExactIntersectMost", spec := "fnExactIntersectMost", apart := false }
def FnExactIntersectMostSaid : Prop := fnExactIntersectMostRow.holds Try.pinned (OpenSpec.ofChange fnExactIntersectMostSpec)

/-- ITS FALSE NEIGHBOUR: 'it returns false'. Refute it at one input. -/
def fnExactIntersectMostWrong : ChangeSpec := { name := "fnExactIntersectMost", fn := fun _ => fun
  | [d1, d2] => { results := [.lit (.bool false)], args := [d1, d2] }
  | _ => none }
def FnExactIntersectMostWrongFalsely : Prop := fnExactIntersectMostRow.holds Try.pinned (OpenSpec.ofChange fnExactIntersectMostWrong)

/-- 'laws.FnExactIntersectGrow': WHATEVER THE INPUT: true; the input reads as it did. -/
def fnExactIntersectGrowSpec : ChangeSpec := { name := "fnExactIntersectGrow", fn := fun _ => fun
  | [d1, d2] => { results := [.lit (.bool true)], args := [d1, d2] }
  | _ => none }
def fnExactIntersectGrowRow : OpenClaim := { program := "ytfcegnnajpflmaa", sum := "5b3dc3debbce8740e661549894e2ac06dd3617b5519c2f493c525f5d1997778c", func := "loop.example/setshadows/laws.FnExactIntersectGrow", spec := "fnExactIntersectGrow", inPlace := ["slices.overlaps[loop.example/setshadows/impl.set]"], unfollowed := true, recurses := true, apart := false }
def FnExactIntersectGrowSaid : Prop := fnExactIntersectGrowRow.holds Try.pinned (OpenSpec.ofChange fnExactIntersectGrowSpec)

/-- ITS FALSE NEIGHBOUR: 'it returns false'. Refute it at one input. -/
def fnExactIntersectGrowWrong : ChangeSpec := { name := "fnExactIntersectGrow", fn := fun _ => fun
  | [d1, d2] => { results := [.lit (.bool false)], args := [d1, d2] }
  | _ => none }
def FnExactIntersectGrowWrongFalsely : Prop := fnExactIntersectGrowRow.holds Try.pinned (OpenSpec.ofChange fnExactIntersectGrowWrong)

/-- 'laws.FnExactFlowerOf': WHATEVER THE INPUT: true; the input reads as it did. -/
def fnExactFlowerOfSpec : ChangeSpec := { name := "fnExactFlowerOf", fn := fun _ => fun
  | [d1, d2, d3] => { results := [.lit (.bool true)], args := [d1, d2, d3] }
  | _ => none }
def fnExactFlowerOfRow : OpenClaim := { program := "ytfcegnnajpflmaa", sum := "5b3dc3debbce8740e661549894e2ac06dd3617b5519c2f493c525f5d1997778c", func := "loop.example/setshadows/laws.FnExactFlowerOf", spec := "fnExactFlowerOf", inPlace := ["slices.overlaps[loop.example/setshadows/impl.set]"], unfollowed := true, recurses := true, apart := false }
def FnExactFlowerOfSaid : Prop := fnExactFlowerOfRow.holds Try.pinned (OpenSpec.ofChange fnExactFlowerOfSpec)

/-- ITS FALSE NEIGHBOUR: 'it returns false'. Refute it at one input. -/
def fnExactFlowerOfWrong : ChangeSpec := { name := "fnExactFlowerOf", fn := fun _ => fun
  | [d1, d2, d3] => { results := [.lit (.bool false)], args := [d1, d2, d3] }
  | _ => none }
def FnExactFlowerOfWrongFalsely : Prop := fnExactFlowerOfRow.holds Try.pinned (OpenSpec.ofChange fnExactFlowerOfWrong)

/-- 'laws.FnExactFlowerFree': WHATEVER THE INPUT: true; the input reads as it did. -/
def fnExactFlowerFreeSpec : ChangeSpec := { name := "fnExactFlowerFree", fn := fun _ => fun
  | [d1, d2, d3] => { results := [.lit (.bool true)], args := [d1, d2, d3] }
  | _ => none }
def fnExactFlowerFreeRow : OpenClaim := { program := "ytfcegnnajpflmaa", sum := "5b3dc3debbce8740e661549894e2ac06dd3617b5519c2f493c525f5d1997778c", func := "loop.example/setshadows/laws.FnExactFlowerFree", spec := "fnExactFlowerFree", inPlace := ["slices.overlaps[loop.example/setshadows/impl.set]"], unfollowed := true, recurses := true, apart := false }
def FnExactFlowerFreeSaid : Prop := fnExactFlowerFreeRow.holds Try.pinned (OpenSpec.ofChange fnExactFlowerFreeSpec)

/-- ITS FALSE NEIGHBOUR: 'it returns false'. Refute it at one input. -/
def fnExactFlowerFreeWrong : ChangeSpec := { name := "fnExactFlowerFree", fn := fun _ => fun
  | [d1, d2, d3] => { results := [.lit (.bool false)], args := [d1, d2, d3] }
  | _ => none }
def FnExactFlowerFreeWrongFalsely : Prop := fnExactFlowerFreeRow.holds Try.pinned (OpenSpec.ofChange fnExactFlowerFreeWrong)

/-- 'laws.FnExactPairsSkew': WHATEVER THE INPUT: true; the input reads as it did. -/
def fnExactPairsSkewSpec : ChangeSpec := { name := "fnExactPairsSkew", fn := fun _ => fun
  | [d1, d2, d3] => { results := [.lit (.bool true)], args := [d1, d2, d3] }
  | _ => none }
def fnExactPairsSkewRow : OpenClaim := { program := "ytfcegnnajpflmaa", sum := "5b3dc3debbce8740e661549894e2ac06dd3617b5519c2f493c525f5d1997778c", func := "loop.example/setshadows/laws.FnExactPairsSkew", spec := "fnExactPairsSkew", inPlace := ["slices.overlaps[loop.example/setshadows/impl.set]"], unfollowed := true, recurses := true, apart := false }
def FnExactPairsSkewSaid : Prop := fnExactPairsSkewRow.holds Try.pinned (OpenSpec.ofChange fnExactPairsSkewSpec)

/-- ITS FALSE NEIGHBOUR: 'it returns false'. Refute it at one input. -/
def fnExactPairsSkewWrong : ChangeSpec := { name := "fnExactPairsSkew", fn := fun _ => fun
  | [d1, d2, d3] => { results := [.lit (.bool false)], args := [d1, d2, d3] }
  | _ => none }
def FnExactPairsSkewWrongFalsely : Prop := fnExactPairsSkewRow.holds Try.pinned (OpenSpec.ofChange fnExactPairsSkewWrong)

/-- 'laws.FnExactPairsWeight': WHATEVER THE INPUT: true; the input reads as it did. -/
def fnExactPairsWeightSpec : ChangeSpec := { name := "fnExactPairsWeight", fn := fun _ => fun
  | [d1, d2, d3] => { results := [.lit (.bool true)], args := [d1, d2, d3] }
  | _ => none }
def fnExactPairsWeightRow : OpenClaim := { program := "ytfcegnnajpflmaa", sum := "5b3dc3debbce8740e661549894e2ac06dd3617b5519c2f493c525f5d1997778c", func := "loop.example/setshadows/laws.FnExactPairsWeight", spec := "fnExactPairsWeight", inPlace := ["slices.overlaps[loop.example/setshadows/impl.set]"], unfollowed := true, recurses := true, apart := false }
def FnExactPairsWeightSaid : Prop := fnExactPairsWeightRow.holds Try.pinned (OpenSpec.ofChange fnExactPairsWeightSpec)

/-- ITS FALSE NEIGHBOUR: 'it returns false'. Refute it at one input. -/
def fnExactPairsWeightWrong : ChangeSpec := { name := "fnExactPairsWeight", fn := fun _ => fun
  | [d1, d2, d3] => { results := [.lit (.bool false)], args := [d1, d2, d3] }
  | _ => none }
def FnExactPairsWeightWrongFalsely : Prop := fnExactPairsWeightRow.holds Try.pinned (OpenSpec.ofChange fnExactPairsWeightWrong)

/- THE SECOND FORM. 'bulk': how many values and letters a reading holds, each counted each time it is reached (what is shared counts as often as it is met; a slice's spare places count too). A statement '..UptoSaid' is the law's where the arguments, and the package variables that the reading takes, are together of bulk at most 1048576: NARROWER than '..Said'. Prove '..Said' where nothing that the law and all that it calls make is longer than what came in: it says more and counts as full. Else prove '..UptoSaid'. A law counts once. -/
mutual
def uptoBulk {H : Type} : DataW H → Nat
  | .lit (.string bytes) => bytes.length + 1
  | .lit _ => 1
  | .nil => 1
  | .ptr d => uptoBulk d + 1
  | .slice elems spare => uptoBulkAll elems + uptoBulkAll spare + 1
  | .agg parts => uptoBulkAll parts + 1
  | .iface _ d => uptoBulk d + 1
  | .map entries => uptoBulkEntries entries + 1
  | .held _ => 1
def uptoBulkAll {H : Type} : List (DataW H) → Nat
  | [] => 0
  | d :: r => uptoBulk d + uptoBulkAll r
def uptoBulkEntries {H : Type} : List (Lit × DataW H) → Nat
  | [] => 0
  | x :: r => uptoBulkEntry x + uptoBulkEntries r
def uptoBulkEntry {H : Type} : Lit × DataW H → Nat
  | (.string bytes, d) => bytes.length + uptoBulk d + 1
  | (_, d) => uptoBulk d + 1
 end
def uptoSmall : (H : Type) → List (DataW H) → Bool := fun _ ds => decide (uptoBulkAll ds ≤ 1048576)
def OpenSpec.upto (s : _root_.Go.ChangeSpec) : _root_.Go.OpenSpec := { _root_.Go.OpenSpec.ofChange s with cond := some uptoSmall }

/-- 'laws.FnPairsWeight', WHERE WHAT IT READS IS OF BULK AT MOST 1048576: true; the input reads as it did. -/
def fnPairsWeightUptoRow : OpenClaim := { program := "ytfcegnnajpflmaa", sum := "5b3dc3debbce8740e661549894e2ac06dd3617b5519c2f493c525f5d1997778c", func := "loop.example/setshadows/laws.FnPairsWeight", spec := "fnPairsWeight", inPlace := ["slices.overlaps[loop.example/setshadows/impl.set]"], unfollowed := true, recurses := true, apart := false, narrowed := true }
def FnPairsWeightUptoSaid : Prop := fnPairsWeightUptoRow.holds Try.pinned (OpenSpec.upto fnPairsWeightSpec)

/-- 'laws.FnExactIntersectIn', WHERE WHAT IT READS IS OF BULK AT MOST 1048576: true; the input reads as it did. -/
def fnExactIntersectInUptoRow : OpenClaim := { program := "ytfcegnnajpflmaa", sum := "5b3dc3debbce8740e661549894e2ac06dd3617b5519c2f493c525f5d1997778c", func := "loop.example/setshadows/laws.FnExactIntersectIn", spec := "fnExactIntersectIn", inPlace := ["slices.overlaps[loop.example/setshadows/impl.set]"], unfollowed := true, recurses := true, apart := false, narrowed := true }
def FnExactIntersectInUptoSaid : Prop := fnExactIntersectInUptoRow.holds Try.pinned (OpenSpec.upto fnExactIntersectInSpec)

/-- 'laws.FnExactIntersectCross', WHERE WHAT IT READS IS OF BULK AT MOST 1048576: true; the input reads as it did. -/
def fnExactIntersectCrossUptoRow : OpenClaim := { program := "ytfcegnnajpflmaa", sum := "5b3dc3debbce8740e661549894e2ac06dd3617b5519c2f493c525f5d1997778c", func := "loop.example/setshadows/laws.FnExactIntersectCross", spec := "fnExactIntersectCross", inPlace := ["slices.overlaps[loop.example/setshadows/impl.set]"], unfollowed := true, recurses := true, apart := false, narrowed := true }
def FnExactIntersectCrossUptoSaid : Prop := fnExactIntersectCrossUptoRow.holds Try.pinned (OpenSpec.upto fnExactIntersectCrossSpec)

/-- 'laws.FnExactIntersectStar', WHERE WHAT IT READS IS OF BULK AT MOST 1048576: true; the input reads as it did. -/
def fnExactIntersectStarUptoRow : OpenClaim := { program := "ytfcegnnajpflmaa", sum := "5b3dc3debbce8740e661549894e2ac06dd3617b5519c2f493c525f5d1997778c", func := "loop.example/setshadows/laws.FnExactIntersectStar", spec := "fnExactIntersectStar", inPlace := ["slices.overlaps[loop.example/setshadows/impl.set]"], unfollowed := true, recurses := true, apart := false, narrowed := true }
def FnExactIntersectStarUptoSaid : Prop := fnExactIntersectStarUptoRow.holds Try.pinned (OpenSpec.upto fnExactIntersectStarSpec)

/-- 'laws.FnExactIntersectMost', WHERE WHAT IT READS IS OF BULK AT MOST 1048576: true; the input reads as it did. -/
def fnExactIntersectMostUptoRow : OpenClaim := { program := "ytfcegnnajpflmaa", sum := "5b3dc3debbce8740e661549894e2ac06dd3617b5519c2f493c525f5d1997778c", func := "loop.example/setshadows/laws.FnExactIntersectMost", spec := "fnExactIntersectMost", apart := false, narrowed := true }
def FnExactIntersectMostUptoSaid : Prop := fnExactIntersectMostUptoRow.holds Try.pinned (OpenSpec.upto fnExactIntersectMostSpec)

/-- 'laws.FnExactIntersectGrow', WHERE WHAT IT READS IS OF BULK AT MOST 1048576: true; the input reads as it did. -/
def fnExactIntersectGrowUptoRow : OpenClaim := { program := "ytfcegnnajpflmaa", sum := "5b3dc3debbce8740e661549894e2ac06dd3617b5519c2f493c525f5d1997778c", func := "loop.example/setshadows/laws.FnExactIntersectGrow", spec := "fnExactIntersectGrow", inPlace := ["slices.overlaps[loop.example/setshadows/impl.set]"], unfollowed := true, recurses := true, apart := false, narrowed := true }
def FnExactIntersectGrowUptoSaid : Prop := fnExactIntersectGrowUptoRow.holds Try.pinned (OpenSpec.upto fnExactIntersectGrowSpec)

/-- 'laws.FnExactFlowerOf', WHERE WHAT IT READS IS OF BULK AT MOST 1048576: true; the input reads as it did. -/
def fnExactFlowerOfUptoRow : OpenClaim := { program := "ytfcegnnajpflmaa", sum := "5b3dc3debbce8740e661549894e2ac06dd3617b5519c2f493c525f5d1997778c", func := "loop.example/setshadows/laws.FnExactFlowerOf", spec := "fnExactFlowerOf", inPlace := ["slices.overlaps[loop.example/setshadows/impl.set]"], unfollowed := true, recurses := true, apart := false, narrowed := true }
def FnExactFlowerOfUptoSaid : Prop := fnExactFlowerOfUptoRow.holds Try.pinned (OpenSpec.upto fnExactFlowerOfSpec)

/-- 'laws.FnExactFlowerFree', WHERE WHAT IT READS IS OF BULK AT MOST 1048576: true; the input reads as it did. -/
def fnExactFlowerFreeUptoRow : OpenClaim := { program := "ytfcegnnajpflmaa", sum := "5b3dc3debbce8740e661549894e2ac06dd3617b5519c2f493c525f5d1997778c", func := "loop.example/setshadows/laws.FnExactFlowerFree", spec := "fnExactFlowerFree", inPlace := ["slices.overlaps[loop.example/setshadows/impl.set]"], unfollowed := true, recurses := true, apart := false, narrowed := true }
def FnExactFlowerFreeUptoSaid : Prop := fnExactFlowerFreeUptoRow.holds Try.pinned (OpenSpec.upto fnExactFlowerFreeSpec)

/-- 'laws.FnExactPairsSkew', WHERE WHAT IT READS IS OF BULK AT MOST 1048576: true; the input reads as it did. -/
def fnExactPairsSkewUptoRow : OpenClaim := { program := "ytfcegnnajpflmaa", sum := "5b3dc3debbce8740e661549894e2ac06dd3617b5519c2f493c525f5d1997778c", func := "loop.example/setshadows/laws.FnExactPairsSkew", spec := "fnExactPairsSkew", inPlace := ["slices.overlaps[loop.example/setshadows/impl.set]"], unfollowed := true, recurses := true, apart := false, narrowed := true }
def FnExactPairsSkewUptoSaid : Prop := fnExactPairsSkewUptoRow.holds Try.pinned (OpenSpec.upto fnExactPairsSkewSpec)

/-- 'laws.FnExactPairsWeight', WHERE WHAT IT READS IS OF BULK AT MOST 1048576: true; the input reads as it did. -/
def fnExactPairsWeightUptoRow : OpenClaim := { program := "ytfcegnnajpflmaa", sum := "5b3dc3debbce8740e661549894e2ac06dd3617b5519c2f493c525f5d1997778c", func := "loop.example/setshadows/laws.FnExactPairsWeight", spec := "fnExactPairsWeight", inPlace := ["slices.overlaps[loop.example/setshadows/impl.set]"], unfollowed := true, recurses := true, apart := false, narrowed := true }
def FnExactPairsWeightUptoSaid : Prop := fnExactPairsWeightUptoRow.holds Try.pinned (OpenSpec.upto fnExactPairsWeightSpec)

end Rows
end Go.Proofs.Ytfcegnnajpflmaa
