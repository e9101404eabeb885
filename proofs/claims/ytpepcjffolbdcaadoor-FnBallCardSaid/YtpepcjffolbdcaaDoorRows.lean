/-
  NARROWER THAN 'FOR EVERY INPUT', by the rows' own cells (each row's printed sentence says how): FnPressAll: laid · FnEdges: laid · FnInnerEdges: laid · FnBall: laid · FnFirstSets: laid · FnBinary: laid.
  DERIVED. THE GIVEN ROWS OF THIS SEAT. 6 by the template 'for every input the law returns true; each argument reads behind the call as it read before'; 0 by the template 'total and deterministic' (their statements: YtpepcjffolbdcaaDoorTotals.lean).
  GIVEN WITH THE SEED: the statements are not yours to turn. If you find one false, say at which input.
  Laid BY PROGRAM, IN A SANDBOX (cutbox-rows.mjs): the forced cells as the released guide's own fill.sh prints them over the translation 7704c58514d50097… (all of the seat's roots in one cut). By AI agents, Wed Nov 11 2026. No macro, syntax, notation, axiom, sorry.
-/
import Derived.Test.YtpepcjffolbdcaaDoorChecked
import GoSem.Claim
import GoSem.ClaimJoined
import GoSem.ClaimMapViews
import Derived.JoinedTies
import Derived.KernelRfl
namespace Go.Proofs.YtpepcjffolbdcaaDoor
/- THE CELL 'sum', in the pinned program and in every row, IS THE sha256 OF THE DUMP (.gsa) THAT YtpepcjffolbdcaaDoorProg.lean LOADS. Nothing in Lean hashes anything: it is a label: what it is worth is what the hold of that sum in a sandbox is worth. -/
noncomputable def Tryd.pinned : Pinned := { name := "ytpepcjffolbdcaadoor", sum := "7704c58514d50097e0c7230a744cd6778e728e28e94ccbab8eb1e3951bc3cdf6", checked := Tryd.checked }
namespace Rows
def none {H : Type} : Left H := { results := [], args := [] }

/- WHAT THE LISTED PACKAGE-LEVEL VARIABLES READ AS WHEN THE CALL BEGINS. Each datum BY PROGRAM (the guide's laid-datum.mjs) off the statement by which the dump's own 'gosem.cut.vars' lays the variable. In a bare row this is a premise. The card (YtpepcjffolbdcaaDoorCards.lean) ties it to the program's text. -/
def laid_math_bits_deBruijn32tab {H : Type} : DataW H := .agg [.lit (.int .u8 0), .lit (.int .u8 1), .lit (.int .u8 28), .lit (.int .u8 2), .lit (.int .u8 29), .lit (.int .u8 14), .lit (.int .u8 24), .lit (.int .u8 3), .lit (.int .u8 30), .lit (.int .u8 22), .lit (.int .u8 20), .lit (.int .u8 15), .lit (.int .u8 25), .lit (.int .u8 17), .lit (.int .u8 4), .lit (.int .u8 8), .lit (.int .u8 31), .lit (.int .u8 27), .lit (.int .u8 13), .lit (.int .u8 23), .lit (.int .u8 21), .lit (.int .u8 19), .lit (.int .u8 16), .lit (.int .u8 7), .lit (.int .u8 26), .lit (.int .u8 12), .lit (.int .u8 18), .lit (.int .u8 6), .lit (.int .u8 11), .lit (.int .u8 5), .lit (.int .u8 10), .lit (.int .u8 9)]
def laid_math_bits_deBruijn64tab {H : Type} : DataW H := .agg [.lit (.int .u8 0), .lit (.int .u8 1), .lit (.int .u8 56), .lit (.int .u8 2), .lit (.int .u8 57), .lit (.int .u8 49), .lit (.int .u8 28), .lit (.int .u8 3), .lit (.int .u8 61), .lit (.int .u8 58), .lit (.int .u8 42), .lit (.int .u8 50), .lit (.int .u8 38), .lit (.int .u8 29), .lit (.int .u8 17), .lit (.int .u8 4), .lit (.int .u8 62), .lit (.int .u8 47), .lit (.int .u8 59), .lit (.int .u8 36), .lit (.int .u8 45), .lit (.int .u8 43), .lit (.int .u8 51), .lit (.int .u8 22), .lit (.int .u8 53), .lit (.int .u8 39), .lit (.int .u8 33), .lit (.int .u8 30), .lit (.int .u8 24), .lit (.int .u8 18), .lit (.int .u8 12), .lit (.int .u8 5), .lit (.int .u8 63), .lit (.int .u8 55), .lit (.int .u8 48), .lit (.int .u8 27), .lit (.int .u8 60), .lit (.int .u8 41), .lit (.int .u8 37), .lit (.int .u8 16), .lit (.int .u8 46), .lit (.int .u8 35), .lit (.int .u8 44), .lit (.int .u8 21), .lit (.int .u8 52), .lit (.int .u8 32), .lit (.int .u8 23), .lit (.int .u8 11), .lit (.int .u8 54), .lit (.int .u8 26), .lit (.int .u8 40), .lit (.int .u8 15), .lit (.int .u8 34), .lit (.int .u8 20), .lit (.int .u8 31), .lit (.int .u8 10), .lit (.int .u8 25), .lit (.int .u8 14), .lit (.int .u8 19), .lit (.int .u8 9), .lit (.int .u8 13), .lit (.int .u8 8), .lit (.int .u8 7), .lit (.int .u8 6)]

/-- 'laws.FnPressAll': WHATEVER THE INPUT: true; the input reads as it did. -/
def fnPressAllSpec : ChangeSpec := { name := "fnPressAll", fn := fun _ => fun
  | [d] => { results := [.lit (.bool true)], args := [d] }
  | _ => none }
def fnPressAllRow : OpenClaim := { program := "ytpepcjffolbdcaadoor", sum := "7704c58514d50097e0c7230a744cd6778e728e28e94ccbab8eb1e3951bc3cdf6", func := "loop.example/setshadows/laws.FnPressAll", spec := "fnPressAll", inPlace := ["slices.overlaps[loop.example/setshadows/impl.set]"], unfollowed := true, recurses := true, named := ["math/bits.deBruijn32tab", "math/bits.deBruijn64tab"], apart := false, laid := [("math/bits.deBruijn32tab", laid_math_bits_deBruijn32tab), ("math/bits.deBruijn64tab", laid_math_bits_deBruijn64tab)] }
def FnPressAllSaid : Prop := fnPressAllRow.holds Tryd.pinned (OpenSpec.ofChange fnPressAllSpec)

/-- ITS FALSE NEIGHBOUR: 'it returns false'. Refute it at one input. -/
def fnPressAllWrong : ChangeSpec := { name := "fnPressAll", fn := fun _ => fun
  | [d] => { results := [.lit (.bool false)], args := [d] }
  | _ => none }
def FnPressAllWrongFalsely : Prop := fnPressAllRow.holds Tryd.pinned (OpenSpec.ofChange fnPressAllWrong)

/-- 'laws.FnEdges': WHATEVER THE INPUT: true; the input reads as it did. -/
def fnEdgesSpec : ChangeSpec := { name := "fnEdges", fn := fun _ => fun
  | [d] => { results := [.lit (.bool true)], args := [d] }
  | _ => none }
def fnEdgesRow : OpenClaim := { program := "ytpepcjffolbdcaadoor", sum := "7704c58514d50097e0c7230a744cd6778e728e28e94ccbab8eb1e3951bc3cdf6", func := "loop.example/setshadows/laws.FnEdges", spec := "fnEdges", inPlace := ["slices.overlaps[loop.example/setshadows/impl.set]"], unfollowed := true, recurses := true, named := ["math/bits.deBruijn32tab", "math/bits.deBruijn64tab"], apart := false, laid := [("math/bits.deBruijn32tab", laid_math_bits_deBruijn32tab), ("math/bits.deBruijn64tab", laid_math_bits_deBruijn64tab)] }
def FnEdgesSaid : Prop := fnEdgesRow.holds Tryd.pinned (OpenSpec.ofChange fnEdgesSpec)

/-- ITS FALSE NEIGHBOUR: 'it returns false'. Refute it at one input. -/
def fnEdgesWrong : ChangeSpec := { name := "fnEdges", fn := fun _ => fun
  | [d] => { results := [.lit (.bool false)], args := [d] }
  | _ => none }
def FnEdgesWrongFalsely : Prop := fnEdgesRow.holds Tryd.pinned (OpenSpec.ofChange fnEdgesWrong)

/-- 'laws.FnInnerEdges': WHATEVER THE INPUT: true; the input reads as it did. -/
def fnInnerEdgesSpec : ChangeSpec := { name := "fnInnerEdges", fn := fun _ => fun
  | [d] => { results := [.lit (.bool true)], args := [d] }
  | _ => none }
def fnInnerEdgesRow : OpenClaim := { program := "ytpepcjffolbdcaadoor", sum := "7704c58514d50097e0c7230a744cd6778e728e28e94ccbab8eb1e3951bc3cdf6", func := "loop.example/setshadows/laws.FnInnerEdges", spec := "fnInnerEdges", inPlace := ["slices.overlaps[loop.example/setshadows/impl.set]"], unfollowed := true, recurses := true, named := ["math/bits.deBruijn32tab", "math/bits.deBruijn64tab"], apart := false, laid := [("math/bits.deBruijn32tab", laid_math_bits_deBruijn32tab), ("math/bits.deBruijn64tab", laid_math_bits_deBruijn64tab)] }
def FnInnerEdgesSaid : Prop := fnInnerEdgesRow.holds Tryd.pinned (OpenSpec.ofChange fnInnerEdgesSpec)

/-- ITS FALSE NEIGHBOUR: 'it returns false'. Refute it at one input. -/
def fnInnerEdgesWrong : ChangeSpec := { name := "fnInnerEdges", fn := fun _ => fun
  | [d] => { results := [.lit (.bool false)], args := [d] }
  | _ => none }
def FnInnerEdgesWrongFalsely : Prop := fnInnerEdgesRow.holds Tryd.pinned (OpenSpec.ofChange fnInnerEdgesWrong)

/-- 'laws.FnBall': WHATEVER THE INPUT: true; the input reads as it did. -/
def fnBallSpec : ChangeSpec := { name := "fnBall", fn := fun _ => fun
  | [d] => { results := [.lit (.bool true)], args := [d] }
  | _ => none }
def fnBallRow : OpenClaim := { program := "ytpepcjffolbdcaadoor", sum := "7704c58514d50097e0c7230a744cd6778e728e28e94ccbab8eb1e3951bc3cdf6", func := "loop.example/setshadows/laws.FnBall", spec := "fnBall", inPlace := ["slices.overlaps[loop.example/setshadows/impl.set]"], unfollowed := true, recurses := true, named := ["math/bits.deBruijn32tab", "math/bits.deBruijn64tab"], apart := false, laid := [("math/bits.deBruijn32tab", laid_math_bits_deBruijn32tab), ("math/bits.deBruijn64tab", laid_math_bits_deBruijn64tab)] }
def FnBallSaid : Prop := fnBallRow.holds Tryd.pinned (OpenSpec.ofChange fnBallSpec)

/-- ITS FALSE NEIGHBOUR: 'it returns false'. Refute it at one input. -/
def fnBallWrong : ChangeSpec := { name := "fnBall", fn := fun _ => fun
  | [d] => { results := [.lit (.bool false)], args := [d] }
  | _ => none }
def FnBallWrongFalsely : Prop := fnBallRow.holds Tryd.pinned (OpenSpec.ofChange fnBallWrong)

/-- 'laws.FnFirstSets': WHATEVER THE INPUT: true; the input reads as it did. -/
def fnFirstSetsSpec : ChangeSpec := { name := "fnFirstSets", fn := fun _ => fun
  | [d] => { results := [.lit (.bool true)], args := [d] }
  | _ => none }
def fnFirstSetsRow : OpenClaim := { program := "ytpepcjffolbdcaadoor", sum := "7704c58514d50097e0c7230a744cd6778e728e28e94ccbab8eb1e3951bc3cdf6", func := "loop.example/setshadows/laws.FnFirstSets", spec := "fnFirstSets", inPlace := ["slices.overlaps[loop.example/setshadows/impl.set]"], unfollowed := true, recurses := true, named := ["math/bits.deBruijn32tab", "math/bits.deBruijn64tab"], apart := false, laid := [("math/bits.deBruijn32tab", laid_math_bits_deBruijn32tab), ("math/bits.deBruijn64tab", laid_math_bits_deBruijn64tab)] }
def FnFirstSetsSaid : Prop := fnFirstSetsRow.holds Tryd.pinned (OpenSpec.ofChange fnFirstSetsSpec)

/-- ITS FALSE NEIGHBOUR: 'it returns false'. Refute it at one input. -/
def fnFirstSetsWrong : ChangeSpec := { name := "fnFirstSets", fn := fun _ => fun
  | [d] => { results := [.lit (.bool false)], args := [d] }
  | _ => none }
def FnFirstSetsWrongFalsely : Prop := fnFirstSetsRow.holds Tryd.pinned (OpenSpec.ofChange fnFirstSetsWrong)

/-- 'laws.FnBinary': WHATEVER THE INPUT: true; the input reads as it did. -/
def fnBinarySpec : ChangeSpec := { name := "fnBinary", fn := fun _ => fun
  | [d] => { results := [.lit (.bool true)], args := [d] }
  | _ => none }
def fnBinaryRow : OpenClaim := { program := "ytpepcjffolbdcaadoor", sum := "7704c58514d50097e0c7230a744cd6778e728e28e94ccbab8eb1e3951bc3cdf6", func := "loop.example/setshadows/laws.FnBinary", spec := "fnBinary", inPlace := ["slices.overlaps[loop.example/setshadows/impl.set]"], unfollowed := true, recurses := true, named := ["math/bits.deBruijn32tab", "math/bits.deBruijn64tab"], apart := false, laid := [("math/bits.deBruijn32tab", laid_math_bits_deBruijn32tab), ("math/bits.deBruijn64tab", laid_math_bits_deBruijn64tab)] }
def FnBinarySaid : Prop := fnBinaryRow.holds Tryd.pinned (OpenSpec.ofChange fnBinarySpec)

/-- ITS FALSE NEIGHBOUR: 'it returns false'. Refute it at one input. -/
def fnBinaryWrong : ChangeSpec := { name := "fnBinary", fn := fun _ => fun
  | [d] => { results := [.lit (.bool false)], args := [d] }
  | _ => none }
def FnBinaryWrongFalsely : Prop := fnBinaryRow.holds Tryd.pinned (OpenSpec.ofChange fnBinaryWrong)

/- THE SECOND FORM. 'bulk': how many values and letters a reading holds, each counted each time it is reached (what is shared counts as often as it is met; a slice's spare places count too). A statement '..UptoSaid' is the law's where the arguments, and the package variables that the reading takes, are together of bulk at most 1048576: NARROWER than '..Said'. Prove '..Said' where nothing that the law and all that it calls make is longer than what came in: it says more and counts as full. Else prove '..UptoSaid'. A law counts once. -/
mutual
def uptoBulk {H : Type} : DataW H → Nat
  | .lit (.string bytes) => bytes.length + 1
  | .lit _ => 1
  | .nil => 1
  | .ptr d => uptoBulk d + 1
  | .slice elems spare => uptoBulkAll elems + uptoBulkAll spare + 1
  | .agg parts => uptoBulkAll parts + 1
  | .iface _ d => uptoBulk d + 1
  | .map entries => uptoBulkEntries entries + 1
  | .held _ => 1
def uptoBulkAll {H : Type} : List (DataW H) → Nat
  | [] => 0
  | d :: r => uptoBulk d + uptoBulkAll r
def uptoBulkEntries {H : Type} : List (Lit × DataW H) → Nat
  | [] => 0
  | x :: r => uptoBulkEntry x + uptoBulkEntries r
def uptoBulkEntry {H : Type} : Lit × DataW H → Nat
  | (.string bytes, d) => bytes.length + uptoBulk d + 1
  | (_, d) => uptoBulk d + 1
 end
def uptoSmall : (H : Type) → List (DataW H) → Bool := fun _ ds => decide (uptoBulkAll ds ≤ 1048576)
def OpenSpec.upto (s : _root_.Go.ChangeSpec) : _root_.Go.OpenSpec := { _root_.Go.OpenSpec.ofChange s with cond := some uptoSmall }

/-- 'laws.FnPressAll', WHERE WHAT IT READS IS OF BULK AT MOST 1048576: true; the input reads as it did. -/
def fnPressAllUptoRow : OpenClaim := { program := "ytpepcjffolbdcaadoor", sum := "7704c58514d50097e0c7230a744cd6778e728e28e94ccbab8eb1e3951bc3cdf6", func := "loop.example/setshadows/laws.FnPressAll", spec := "fnPressAll", inPlace := ["slices.overlaps[loop.example/setshadows/impl.set]"], unfollowed := true, recurses := true, named := ["math/bits.deBruijn32tab", "math/bits.deBruijn64tab"], apart := false, laid := [("math/bits.deBruijn32tab", laid_math_bits_deBruijn32tab), ("math/bits.deBruijn64tab", laid_math_bits_deBruijn64tab)], narrowed := true }
def FnPressAllUptoSaid : Prop := fnPressAllUptoRow.holds Tryd.pinned (OpenSpec.upto fnPressAllSpec)

/-- 'laws.FnEdges', WHERE WHAT IT READS IS OF BULK AT MOST 1048576: true; the input reads as it did. -/
def fnEdgesUptoRow : OpenClaim := { program := "ytpepcjffolbdcaadoor", sum := "7704c58514d50097e0c7230a744cd6778e728e28e94ccbab8eb1e3951bc3cdf6", func := "loop.example/setshadows/laws.FnEdges", spec := "fnEdges", inPlace := ["slices.overlaps[loop.example/setshadows/impl.set]"], unfollowed := true, recurses := true, named := ["math/bits.deBruijn32tab", "math/bits.deBruijn64tab"], apart := false, laid := [("math/bits.deBruijn32tab", laid_math_bits_deBruijn32tab), ("math/bits.deBruijn64tab", laid_math_bits_deBruijn64tab)], narrowed := true }
def FnEdgesUptoSaid : Prop := fnEdgesUptoRow.holds Tryd.pinned (OpenSpec.upto fnEdgesSpec)

/-- 'laws.FnInnerEdges', WHERE WHAT IT READS IS OF BULK AT MOST 1048576: true; the input reads as it did. -/
def fnInnerEdgesUptoRow : OpenClaim := { program := "ytpepcjffolbdcaadoor", sum := "7704c58514d50097e0c7230a744cd6778e728e28e94ccbab8eb1e3951bc3cdf6", func := "loop.example/setshadows/laws.FnInnerEdges", spec := "fnInnerEdges", inPlace := ["slices.overlaps[loop.example/setshadows/impl.set]"], unfollowed := true, recurses := true, named := ["math/bits.deBruijn32tab", "math/bits.deBruijn64tab"], apart := false, laid := [("math/bits.deBruijn32tab", laid_math_bits_deBruijn32tab), ("math/bits.deBruijn64tab", laid_math_bits_deBruijn64tab)], narrowed := true }
def FnInnerEdgesUptoSaid : Prop := fnInnerEdgesUptoRow.holds Tryd.pinned (OpenSpec.upto fnInnerEdgesSpec)

/-- 'laws.FnBall', WHERE WHAT IT READS IS OF BULK AT MOST 1048576: true; the input reads as it did. -/
def fnBallUptoRow : OpenClaim := { program := "ytpepcjffolbdcaadoor", sum := "7704c58514d50097e0c7230a744cd6778e728e28e94ccbab8eb1e3951bc3cdf6", func := "loop.example/setshadows/laws.FnBall", spec := "fnBall", inPlace := ["slices.overlaps[loop.example/setshadows/impl.set]"], unfollowed := true, recurses := true, named := ["math/bits.deBruijn32tab", "math/bits.deBruijn64tab"], apart := false, laid := [("math/bits.deBruijn32tab", laid_math_bits_deBruijn32tab), ("math/bits.deBruijn64tab", laid_math_bits_deBruijn64tab)], narrowed := true }
def FnBallUptoSaid : Prop := fnBallUptoRow.holds Tryd.pinned (OpenSpec.upto fnBallSpec)

/-- 'laws.FnFirstSets', WHERE WHAT IT READS IS OF BULK AT MOST 1048576: true; the input reads as it did. -/
def fnFirstSetsUptoRow : OpenClaim := { program := "ytpepcjffolbdcaadoor", sum := "7704c58514d50097e0c7230a744cd6778e728e28e94ccbab8eb1e3951bc3cdf6", func := "loop.example/setshadows/laws.FnFirstSets", spec := "fnFirstSets", inPlace := ["slices.overlaps[loop.example/setshadows/impl.set]"], unfollowed := true, recurses := true, named := ["math/bits.deBruijn32tab", "math/bits.deBruijn64tab"], apart := false, laid := [("math/bits.deBruijn32tab", laid_math_bits_deBruijn32tab), ("math/bits.deBruijn64tab", laid_math_bits_deBruijn64tab)], narrowed := true }
def FnFirstSetsUptoSaid : Prop := fnFirstSetsUptoRow.holds Tryd.pinned (OpenSpec.upto fnFirstSetsSpec)

/-- 'laws.FnBinary', WHERE WHAT IT READS IS OF BULK AT MOST 1048576: true; the input reads as it did. -/
def fnBinaryUptoRow : OpenClaim := { program := "ytpepcjffolbdcaadoor", sum := "7704c58514d50097e0c7230a744cd6778e728e28e94ccbab8eb1e3951bc3cdf6", func := "loop.example/setshadows/laws.FnBinary", spec := "fnBinary", inPlace := ["slices.overlaps[loop.example/setshadows/impl.set]"], unfollowed := true, recurses := true, named := ["math/bits.deBruijn32tab", "math/bits.deBruijn64tab"], apart := false, laid := [("math/bits.deBruijn32tab", laid_math_bits_deBruijn32tab), ("math/bits.deBruijn64tab", laid_math_bits_deBruijn64tab)], narrowed := true }
def FnBinaryUptoSaid : Prop := fnBinaryUptoRow.holds Tryd.pinned (OpenSpec.upto fnBinarySpec)

end Rows
end Go.Proofs.YtpepcjffolbdcaaDoor
