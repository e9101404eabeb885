/-
  NARROWER THAN 'FOR EVERY INPUT', by the rows' own cells (each row's printed sentence says how): FnOrder: laid · FnExactBoundaryOf: laid · FnExactBoundaryEdges: laid · FnExactBoundaryInner: laid · FnExactBoundaryOrder: laid · FnExactBoundaryFirst: laid · FnExactBoundaryBinary: laid.
  DERIVED. THE GIVEN ROWS OF THIS SEAT. 7 by the template 'for every input the law returns true; each argument reads behind the call as it read before'; 0 by the template 'total and deterministic' (their statements: YtgfmfecalhmplaaDoorTotals.lean).
  GIVEN WITH THE SEED: the statements are not yours to turn. If you find one false, say at which input.
  Laid BY PROGRAM, IN A SANDBOX (cutbox-rows.mjs): the forced cells as the released guide's own fill.sh prints them over the translation c365d96d45b2fb5a… (all of the seat's roots in one cut). By AI agents, Wed Nov 11 2026. No macro, syntax, notation, axiom, sorry.
-/
import Derived.Test.YtgfmfecalhmplaaDoorChecked
import GoSem.Claim
import GoSem.ClaimJoined
import GoSem.ClaimMapViews
import Derived.JoinedTies
import Derived.KernelRfl
namespace Go.Proofs.YtgfmfecalhmplaaDoor
/- THE CELL 'sum', in the pinned program and in every row, IS THE sha256 OF THE DUMP (.gsa) THAT YtgfmfecalhmplaaDoorProg.lean LOADS. Nothing in Lean hashes anything: it is a label: what it is worth is what the hold of that sum in a sandbox is worth. -/
noncomputable def Tryd.pinned : Pinned := { name := "ytgfmfecalhmplaadoor", sum := "c365d96d45b2fb5aeb49678532bada2455903176b04776dc2c96c915aa50c33a", checked := Tryd.checked }
namespace Rows
def none {H : Type} : Left H := { results := [], args := [] }

/- WHAT THE LISTED PACKAGE-LEVEL VARIABLES READ AS WHEN THE CALL BEGINS. Each datum BY PROGRAM (the guide's laid-datum.mjs) off the statement by which the dump's own 'gosem.cut.vars' lays the variable. In a bare row this is a premise. The card (YtgfmfecalhmplaaDoorCards.lean) ties it to the program's text. -/
def laid_math_bits_deBruijn32tab {H : Type} : DataW H := .agg [.lit (.int .u8 0), .lit (.int .u8 1), .lit (.int .u8 28), .lit (.int .u8 2), .lit (.int .u8 29), .lit (.int .u8 14), .lit (.int .u8 24), .lit (.int .u8 3), .lit (.int .u8 30), .lit (.int .u8 22), .lit (.int .u8 20), .lit (.int .u8 15), .lit (.int .u8 25), .lit (.int .u8 17), .lit (.int .u8 4), .lit (.int .u8 8), .lit (.int .u8 31), .lit (.int .u8 27), .lit (.int .u8 13), .lit (.int .u8 23), .lit (.int .u8 21), .lit (.int .u8 19), .lit (.int .u8 16), .lit (.int .u8 7), .lit (.int .u8 26), .lit (.int .u8 12), .lit (.int .u8 18), .lit (.int .u8 6), .lit (.int .u8 11), .lit (.int .u8 5), .lit (.int .u8 10), .lit (.int .u8 9)]
def laid_math_bits_deBruijn64tab {H : Type} : DataW H := .agg [.lit (.int .u8 0), .lit (.int .u8 1), .lit (.int .u8 56), .lit (.int .u8 2), .lit (.int .u8 57), .lit (.int .u8 49), .lit (.int .u8 28), .lit (.int .u8 3), .lit (.int .u8 61), .lit (.int .u8 58), .lit (.int .u8 42), .lit (.int .u8 50), .lit (.int .u8 38), .lit (.int .u8 29), .lit (.int .u8 17), .lit (.int .u8 4), .lit (.int .u8 62), .lit (.int .u8 47), .lit (.int .u8 59), .lit (.int .u8 36), .lit (.int .u8 45), .lit (.int .u8 43), .lit (.int .u8 51), .lit (.int .u8 22), .lit (.int .u8 53), .lit (.int .u8 39), .lit (.int .u8 33), .lit (.int .u8 30), .lit (.int .u8 24), .lit (.int .u8 18), .lit (.int .u8 12), .lit (.int .u8 5), .lit (.int .u8 63), .lit (.int .u8 55), .lit (.int .u8 48), .lit (.int .u8 27), .lit (.int .u8 60), .lit (.int .u8 41), .lit (.int .u8 37), .lit (.int .u8 16), .lit (.int .u8 46), .lit (.int .u8 35), .lit (.int .u8 44), .lit (.int .u8 21), .lit (.int .u8 52), .lit (.int .u8 32), .lit (.int .u8 23), .lit (.int .u8 11), .lit (.int .u8 54), .lit (.int .u8 26), .lit (.int .u8 40), .lit (.int .u8 15), .lit (.int .u8 34), .lit (.int .u8 20), .lit (.int .u8 31), .lit (.int .u8 10), .lit (.int .u8 25), .lit (.int .u8 14), .lit (.int .u8 19), .lit (.int .u8 9), .lit (.int .u8 13), .lit (.int .u8 8), .lit (.int .u8 7), .lit (.int .u8 6)]

/-- 'laws.FnOrder': WHATEVER THE INPUT: true; the input reads as it did. -/
def fnOrderSpec : ChangeSpec := { name := "fnOrder", fn := fun _ => fun
  | [d] => { results := [.lit (.bool true)], args := [d] }
  | _ => none }
def fnOrderRow : OpenClaim := { program := "ytgfmfecalhmplaadoor", sum := "c365d96d45b2fb5aeb49678532bada2455903176b04776dc2c96c915aa50c33a", func := "loop.example/setshadows/laws.FnOrder", spec := "fnOrder", inPlace := ["slices.overlaps[loop.example/setshadows/impl.set]"], unfollowed := true, recurses := true, named := ["math/bits.deBruijn32tab", "math/bits.deBruijn64tab"], apart := false, laid := [("math/bits.deBruijn32tab", laid_math_bits_deBruijn32tab), ("math/bits.deBruijn64tab", laid_math_bits_deBruijn64tab)] }
def FnOrderSaid : Prop := fnOrderRow.holds Tryd.pinned (OpenSpec.ofChange fnOrderSpec)

/-- ITS FALSE NEIGHBOUR: 'it returns false'. Refute it at one input. -/
def fnOrderWrong : ChangeSpec := { name := "fnOrder", fn := fun _ => fun
  | [d] => { results := [.lit (.bool false)], args := [d] }
  | _ => none }
def FnOrderWrongFalsely : Prop := fnOrderRow.holds Tryd.pinned (OpenSpec.ofChange fnOrderWrong)

/-- 'laws.FnExactBoundaryOf': WHATEVER THE INPUT: true; the input reads as it did. -/
def fnExactBoundaryOfSpec : ChangeSpec := { name := "fnExactBoundaryOf", fn := fun _ => fun
  | [d1, d2] => { results := [.lit (.bool true)], args := [d1, d2] }
  | _ => none }
def fnExactBoundaryOfRow : OpenClaim := { program := "ytgfmfecalhmplaadoor", sum := "c365d96d45b2fb5aeb49678532bada2455903176b04776dc2c96c915aa50c33a", func := "loop.example/setshadows/laws.FnExactBoundaryOf", spec := "fnExactBoundaryOf", inPlace := ["slices.overlaps[loop.example/setshadows/impl.set]"], unfollowed := true, recurses := true, named := ["math/bits.deBruijn32tab", "math/bits.deBruijn64tab"], apart := false, laid := [("math/bits.deBruijn32tab", laid_math_bits_deBruijn32tab), ("math/bits.deBruijn64tab", laid_math_bits_deBruijn64tab)] }
def FnExactBoundaryOfSaid : Prop := fnExactBoundaryOfRow.holds Tryd.pinned (OpenSpec.ofChange fnExactBoundaryOfSpec)

/-- ITS FALSE NEIGHBOUR: 'it returns false'. Refute it at one input. -/
def fnExactBoundaryOfWrong : ChangeSpec := { name := "fnExactBoundaryOf", fn := fun _ => fun
  | [d1, d2] => { results := [.lit (.bool false)], args := [d1, d2] }
  | _ => none }
def FnExactBoundaryOfWrongFalsely : Prop := fnExactBoundaryOfRow.holds Tryd.pinned (OpenSpec.ofChange fnExactBoundaryOfWrong)

/-- 'laws.FnExactBoundaryEdges': WHATEVER THE INPUT: true; the input reads as it did. -/
def fnExactBoundaryEdgesSpec : ChangeSpec := { name := "fnExactBoundaryEdges", fn := fun _ => fun
  | [d1, d2] => { results := [.lit (.bool true)], args := [d1, d2] }
  | _ => none }
def fnExactBoundaryEdgesRow : OpenClaim := { program := "ytgfmfecalhmplaadoor", sum := "c365d96d45b2fb5aeb49678532bada2455903176b04776dc2c96c915aa50c33a", func := "loop.example/setshadows/laws.FnExactBoundaryEdges", spec := "fnExactBoundaryEdges", inPlace := ["slices.overlaps[loop.example/setshadows/impl.set]"], unfollowed := true, recurses := true, named := ["math/bits.deBruijn32tab", "math/bits.deBruijn64tab"], apart := false, laid := [("math/bits.deBruijn32tab", laid_math_bits_deBruijn32tab), ("math/bits.deBruijn64tab", laid_math_bits_deBruijn64tab)] }
def FnExactBoundaryEdgesSaid : Prop := fnExactBoundaryEdgesRow.holds Tryd.pinned (OpenSpec.ofChange fnExactBoundaryEdgesSpec)

/-- ITS FALSE NEIGHBOUR: 'it returns false'. Refute it at one input. -/
def fnExactBoundaryEdgesWrong : ChangeSpec := { name := "fnExactBoundaryEdges", fn := fun _ => fun
  | [d1, d2] => { results := [.lit (.bool false)], args := [d1, d2] }
  | _ => none }
def FnExactBoundaryEdgesWrongFalsely : Prop := fnExactBoundaryEdgesRow.holds Tryd.pinned (OpenSpec.ofChange fnExactBoundaryEdgesWrong)

/-- 'laws.FnExactBoundaryInner': WHATEVER THE INPUT: true; the input reads as it did. -/
def fnExactBoundaryInnerSpec : ChangeSpec := { name := "fnExactBoundaryInner", fn := fun _ => fun
  | [d1, d2] => { results := [.lit (.bool true)], args := [d1, d2] }
  | _ => none }
def fnExactBoundaryInnerRow : OpenClaim := { program := "ytgfmfecalhmplaadoor", sum := "c365d96d45b2fb5aeb49678532bada2455903176b04776dc2c96c915aa50c33a", func := "loop.example/setshadows/laws.FnExactBoundaryInner", spec := "fnExactBoundaryInner", inPlace := ["slices.overlaps[loop.example/setshadows/impl.set]"], unfollowed := true, recurses := true, named := ["math/bits.deBruijn32tab", "math/bits.deBruijn64tab"], apart := false, laid := [("math/bits.deBruijn32tab", laid_math_bits_deBruijn32tab), ("math/bits.deBruijn64tab", laid_math_bits_deBruijn64tab)] }
def FnExactBoundaryInnerSaid : Prop := fnExactBoundaryInnerRow.holds Tryd.pinned (OpenSpec.ofChange fnExactBoundaryInnerSpec)

/-- ITS FALSE NEIGHBOUR: 'it returns false'. Refute it at one input. -/
def fnExactBoundaryInnerWrong : ChangeSpec := { name := "fnExactBoundaryInner", fn := fun _ => fun
  | [d1, d2] => { results := [.lit (.bool false)], args := [d1, d2] }
  | _ => none }
def FnExactBoundaryInnerWrongFalsely : Prop := fnExactBoundaryInnerRow.holds Tryd.pinned (OpenSpec.ofChange fnExactBoundaryInnerWrong)

/-- 'laws.FnExactBoundaryOrder': WHATEVER THE INPUT: true; the input reads as it did. -/
def fnExactBoundaryOrderSpec : ChangeSpec := { name := "fnExactBoundaryOrder", fn := fun _ => fun
  | [d] => { results := [.lit (.bool true)], args := [d] }
  | _ => none }
def fnExactBoundaryOrderRow : OpenClaim := { program := "ytgfmfecalhmplaadoor", sum := "c365d96d45b2fb5aeb49678532bada2455903176b04776dc2c96c915aa50c33a", func := "loop.example/setshadows/laws.FnExactBoundaryOrder", spec := "fnExactBoundaryOrder", inPlace := ["slices.overlaps[loop.example/setshadows/impl.set]"], unfollowed := true, recurses := true, named := ["math/bits.deBruijn32tab", "math/bits.deBruijn64tab"], apart := false, laid := [("math/bits.deBruijn32tab", laid_math_bits_deBruijn32tab), ("math/bits.deBruijn64tab", laid_math_bits_deBruijn64tab)] }
def FnExactBoundaryOrderSaid : Prop := fnExactBoundaryOrderRow.holds Tryd.pinned (OpenSpec.ofChange fnExactBoundaryOrderSpec)

/-- ITS FALSE NEIGHBOUR: 'it returns false'. Refute it at one input. -/
def fnExactBoundaryOrderWrong : ChangeSpec := { name := "fnExactBoundaryOrder", fn := fun _ => fun
  | [d] => { results := [.lit (.bool false)], args := [d] }
  | _ => none }
def FnExactBoundaryOrderWrongFalsely : Prop := fnExactBoundaryOrderRow.holds Tryd.pinned (OpenSpec.ofChange fnExactBoundaryOrderWrong)

/-- 'laws.FnExactBoundaryFirst': WHATEVER THE INPUT: true; the input reads as it did. -/
def fnExactBoundaryFirstSpec : ChangeSpec := { name := "fnExactBoundaryFirst", fn := fun _ => fun
  | [d1, d2] => { results := [.lit (.bool true)], args := [d1, d2] }
  | _ => none }
def fnExactBoundaryFirstRow : OpenClaim := { program := "ytgfmfecalhmplaadoor", sum := "c365d96d45b2fb5aeb49678532bada2455903176b04776dc2c96c915aa50c33a", func := "loop.example/setshadows/laws.FnExactBoundaryFirst", spec := "fnExactBoundaryFirst", inPlace := ["slices.overlaps[loop.example/setshadows/impl.set]"], unfollowed := true, recurses := true, named := ["math/bits.deBruijn32tab", "math/bits.deBruijn64tab"], apart := false, laid := [("math/bits.deBruijn32tab", laid_math_bits_deBruijn32tab), ("math/bits.deBruijn64tab", laid_math_bits_deBruijn64tab)] }
def FnExactBoundaryFirstSaid : Prop := fnExactBoundaryFirstRow.holds Tryd.pinned (OpenSpec.ofChange fnExactBoundaryFirstSpec)

/-- ITS FALSE NEIGHBOUR: 'it returns false'. Refute it at one input. -/
def fnExactBoundaryFirstWrong : ChangeSpec := { name := "fnExactBoundaryFirst", fn := fun _ => fun
  | [d1, d2] => { results := [.lit (.bool false)], args := [d1, d2] }
  | _ => none }
def FnExactBoundaryFirstWrongFalsely : Prop := fnExactBoundaryFirstRow.holds Tryd.pinned (OpenSpec.ofChange fnExactBoundaryFirstWrong)

/-- 'laws.FnExactBoundaryBinary': WHATEVER THE INPUT: true; the input reads as it did. -/
def fnExactBoundaryBinarySpec : ChangeSpec := { name := "fnExactBoundaryBinary", fn := fun _ => fun
  | [d1, d2] => { results := [.lit (.bool true)], args := [d1, d2] }
  | _ => none }
def fnExactBoundaryBinaryRow : OpenClaim := { program := "ytgfmfecalhmplaadoor", sum := "c365d96d45b2fb5aeb49678532bada2455903176b04776dc2c96c915aa50c33a", func := "loop.example/setshadows/laws.FnExactBoundaryBinary", spec := "fnExactBoundaryBinary", inPlace := ["slices.overlaps[loop.example/setshadows/impl.set]"], unfollowed := true, recurses := true, named := ["math/bits.deBruijn32tab", "math/bits.deBruijn64tab"], apart := false, laid := [("math/bits.deBruijn32tab", laid_math_bits_deBruijn32tab), ("math/bits.deBruijn64tab", laid_math_bits_deBruijn64tab)] }
def FnExactBoundaryBinarySaid : Prop := fnExactBoundaryBinaryRow.holds Tryd.pinned (OpenSpec.ofChange fnExactBoundaryBinarySpec)

/-- ITS FALSE NEIGHBOUR: 'it returns false'. Refute it at one input. -/
def fnExactBoundaryBinaryWrong : ChangeSpec := { name := "fnExactBoundaryBinary", fn := fun _ => fun
  | [d1, d2] => { results := [.lit (.bool false)], args := [d1, d2] }
  | _ => none }
def FnExactBoundaryBinaryWrongFalsely : Prop := fnExactBoundaryBinaryRow.holds Tryd.pinned (OpenSpec.ofChange fnExactBoundaryBinaryWrong)

/- THE SECOND FORM. 'bulk': how many values and letters a reading holds, each counted each time it is reached (what is shared counts as often as it is met; a slice's spare places count too). A statement '..UptoSaid' is the law's where the arguments, and the package variables that the reading takes, are together of bulk at most 1048576: NARROWER than '..Said'. Prove '..Said' where nothing that the law and all that it calls make is longer than what came in: it says more and counts as full. Else prove '..UptoSaid'. A law counts once. -/
mutual
def uptoBulk {H : Type} : DataW H → Nat
  | .lit (.string bytes) => bytes.length + 1
  | .lit _ => 1
  | .nil => 1
  | .ptr d => uptoBulk d + 1
  | .slice elems spare => uptoBulkAll elems + uptoBulkAll spare + 1
  | .agg parts => uptoBulkAll parts + 1
  | .iface _ d => uptoBulk d + 1
  | .map entries => uptoBulkEntries entries + 1
  | .held _ => 1
def uptoBulkAll {H : Type} : List (DataW H) → Nat
  | [] => 0
  | d :: r => uptoBulk d + uptoBulkAll r
def uptoBulkEntries {H : Type} : List (Lit × DataW H) → Nat
  | [] => 0
  | x :: r => uptoBulkEntry x + uptoBulkEntries r
def uptoBulkEntry {H : Type} : Lit × DataW H → Nat
  | (.string bytes, d) => bytes.length + uptoBulk d + 1
  | (_, d) => uptoBulk d + 1
 end
def uptoSmall : (H : Type) → List (DataW H) → Bool := fun _ ds => decide (uptoBulkAll ds ≤ 1048576)
def OpenSpec.upto (s : _root_.Go.ChangeSpec) : _root_.Go.OpenSpec := { _root_.Go.OpenSpec.ofChange s with cond := some uptoSmall }

/-- 'laws.FnOrder', WHERE WHAT IT READS IS OF BULK AT MOST 1048576: true; the input reads as it did. -/
def fnOrderUptoRow : OpenClaim := { program := "ytgfmfecalhmplaadoor", sum := "c365d96d45b2fb5aeb49678532bada2455903176b04776dc2c96c915aa50c33a", func := "loop.example/setshadows/laws.FnOrder", spec := "fnOrder", inPlace := ["slices.overlaps[loop.example/setshadows/impl.set]"], unfollowed := true, recurses := true, named := ["math/bits.deBruijn32tab", "math/bits.deBruijn64tab"], apart := false, laid := [("math/bits.deBruijn32tab", laid_math_bits_deBruijn32tab), ("math/bits.deBruijn64tab", laid_math_bits_deBruijn64tab)], narrowed := true }
def FnOrderUptoSaid : Prop := fnOrderUptoRow.holds Tryd.pinned (OpenSpec.upto fnOrderSpec)

/-- 'laws.FnExactBoundaryOf', WHERE WHAT IT READS IS OF BULK AT MOST 1048576: true; the input reads as it did. -/
def fnExactBoundaryOfUptoRow : OpenClaim := { program := "ytgfmfecalhmplaadoor", sum := "c365d96d45b2fb5aeb49678532bada2455903176b04776dc2c96c915aa50c33a", func := "loop.example/setshadows/laws.FnExactBoundaryOf", spec := "fnExactBoundaryOf", inPlace := ["slices.overlaps[loop.example/setshadows/impl.set]"], unfollowed := true, recurses := true, named := ["math/bits.deBruijn32tab", "math/bits.deBruijn64tab"], apart := false, laid := [("math/bits.deBruijn32tab", laid_math_bits_deBruijn32tab), ("math/bits.deBruijn64tab", laid_math_bits_deBruijn64tab)], narrowed := true }
def FnExactBoundaryOfUptoSaid : Prop := fnExactBoundaryOfUptoRow.holds Tryd.pinned (OpenSpec.upto fnExactBoundaryOfSpec)

/-- 'laws.FnExactBoundaryEdges', WHERE WHAT IT READS IS OF BULK AT MOST 1048576: true; the input reads as it did. -/
def fnExactBoundaryEdgesUptoRow : OpenClaim := { program := "ytgfmfecalhmplaadoor", sum := "c365d96d45b2fb5aeb49678532bada2455903176b04776dc2c96c915aa50c33a", func := "loop.example/setshadows/laws.FnExactBoundaryEdges", spec := "fnExactBoundaryEdges", inPlace := ["slices.overlaps[loop.example/setshadows/impl.set]"], unfollowed := true, recurses := true, named := ["math/bits.deBruijn32tab", "math/bits.deBruijn64tab"], apart := false, laid := [("math/bits.deBruijn32tab", laid_math_bits_deBruijn32tab), ("math/bits.deBruijn64tab", laid_math_bits_deBruijn64tab)], narrowed := true }
def FnExactBoundaryEdgesUptoSaid : Prop := fnExactBoundaryEdgesUptoRow.holds Tryd.pinned (OpenSpec.upto fnExactBoundaryEdgesSpec)

/-- 'laws.FnExactBoundaryInner', WHERE WHAT IT READS IS OF BULK AT MOST 1048576: true; the input reads as it did. -/
def fnExactBoundaryInnerUptoRow : OpenClaim := { program := "ytgfmfecalhmplaadoor", sum := "c365d96d45b2fb5aeb49678532bada2455903176b04776dc2c96c915aa50c33a", func := "loop.example/setshadows/laws.FnExactBoundaryInner", spec := "fnExactBoundaryInner", inPlace := ["slices.overlaps[loop.example/setshadows/impl.set]"], unfollowed := true, recurses := true, named := ["math/bits.deBruijn32tab", "math/bits.deBruijn64tab"], apart := false, laid := [("math/bits.deBruijn32tab", laid_math_bits_deBruijn32tab), ("math/bits.deBruijn64tab", laid_math_bits_deBruijn64tab)], narrowed := true }
def FnExactBoundaryInnerUptoSaid : Prop := fnExactBoundaryInnerUptoRow.holds Tryd.pinned (OpenSpec.upto fnExactBoundaryInnerSpec)

/-- 'laws.FnExactBoundaryOrder', WHERE WHAT IT READS IS OF BULK AT MOST 1048576: true; the input reads as it did. -/
def fnExactBoundaryOrderUptoRow : OpenClaim := { program := "ytgfmfecalhmplaadoor", sum := "c365d96d45b2fb5aeb49678532bada2455903176b04776dc2c96c915aa50c33a", func := "loop.example/setshadows/laws.FnExactBoundaryOrder", spec := "fnExactBoundaryOrder", inPlace := ["slices.overlaps[loop.example/setshadows/impl.set]"], unfollowed := true, recurses := true, named := ["math/bits.deBruijn32tab", "math/bits.deBruijn64tab"], apart := false, laid := [("math/bits.deBruijn32tab", laid_math_bits_deBruijn32tab), ("math/bits.deBruijn64tab", laid_math_bits_deBruijn64tab)], narrowed := true }
def FnExactBoundaryOrderUptoSaid : Prop := fnExactBoundaryOrderUptoRow.holds Tryd.pinned (OpenSpec.upto fnExactBoundaryOrderSpec)

/-- 'laws.FnExactBoundaryFirst', WHERE WHAT IT READS IS OF BULK AT MOST 1048576: true; the input reads as it did. -/
def fnExactBoundaryFirstUptoRow : OpenClaim := { program := "ytgfmfecalhmplaadoor", sum := "c365d96d45b2fb5aeb49678532bada2455903176b04776dc2c96c915aa50c33a", func := "loop.example/setshadows/laws.FnExactBoundaryFirst", spec := "fnExactBoundaryFirst", inPlace := ["slices.overlaps[loop.example/setshadows/impl.set]"], unfollowed := true, recurses := true, named := ["math/bits.deBruijn32tab", "math/bits.deBruijn64tab"], apart := false, laid := [("math/bits.deBruijn32tab", laid_math_bits_deBruijn32tab), ("math/bits.deBruijn64tab", laid_math_bits_deBruijn64tab)], narrowed := true }
def FnExactBoundaryFirstUptoSaid : Prop := fnExactBoundaryFirstUptoRow.holds Tryd.pinned (OpenSpec.upto fnExactBoundaryFirstSpec)

/-- 'laws.FnExactBoundaryBinary', WHERE WHAT IT READS IS OF BULK AT MOST 1048576: true; the input reads as it did. -/
def fnExactBoundaryBinaryUptoRow : OpenClaim := { program := "ytgfmfecalhmplaadoor", sum := "c365d96d45b2fb5aeb49678532bada2455903176b04776dc2c96c915aa50c33a", func := "loop.example/setshadows/laws.FnExactBoundaryBinary", spec := "fnExactBoundaryBinary", inPlace := ["slices.overlaps[loop.example/setshadows/impl.set]"], unfollowed := true, recurses := true, named := ["math/bits.deBruijn32tab", "math/bits.deBruijn64tab"], apart := false, laid := [("math/bits.deBruijn32tab", laid_math_bits_deBruijn32tab), ("math/bits.deBruijn64tab", laid_math_bits_deBruijn64tab)], narrowed := true }
def FnExactBoundaryBinaryUptoSaid : Prop := fnExactBoundaryBinaryUptoRow.holds Tryd.pinned (OpenSpec.upto fnExactBoundaryBinarySpec)

end Rows
end Go.Proofs.YtgfmfecalhmplaaDoor
