/-
  No cell of these rows narrows 'for every input' (looked for: loops, veiled, ifaces, maps, wideKeys, modest, calm, conditions, laid).
  DERIVED. THE GIVEN ROWS OF THIS SEAT. 10 by the template 'for every input the law returns true; each argument reads behind the call as it read before'; 0 by the template 'total and deterministic' (their statements: YtgimceanhmhgkaaTotals.lean).
  GIVEN WITH THE SEED: the statements are not yours to turn. If you find one false, say at which input.
  Laid BY PROGRAM, IN A SANDBOX (cutbox-rows.mjs): the forced cells as the released guide's own fill.sh prints them over the translation e24eae7838bde325… (all of the seat's roots in one cut). By AI agents, Wed Nov 11 2026. No macro, syntax, notation, axiom, sorry.
-/
import Derived.Test.YtgimceanhmhgkaaChecked
import GoSem.Claim
import GoSem.ClaimJoined
import GoSem.ClaimMapViews
import Derived.JoinedTies
import Derived.KernelRfl
namespace Go.Proofs.Ytgimceanhmhgkaa
/- THE CELL 'sum', in the pinned program and in every row, IS THE sha256 OF THE DUMP (.gsa) THAT YtgimceanhmhgkaaProg.lean LOADS. Nothing in Lean hashes anything: it is a label: what it is worth is what the hold of that sum in a sandbox is worth. -/
noncomputable def Try.pinned : Pinned := { name := "ytgimceanhmhgkaa", sum := "e24eae7838bde325d1519cb9eb51d4dc3d30126cfe0720573b71803371874b86", checked := Try.checked }
namespace Rows
def none {H : Type} : Left H := { results := [], args := [] }

/-- 'laws.FnSetOf': WHATEVER THE INPUT: true; the input reads as it did. -/
def fnSetOfSpec : ChangeSpec := { name := "fnSetOf", fn := fun _ => fun
  | [d] => { results := [.lit (.bool true)], args := [d] }
  | _ => none }
def fnSetOfRow : OpenClaim := { program := "ytgimceanhmhgkaa", sum := "e24eae7838bde325d1519cb9eb51d4dc3d30126cfe0720573b71803371874b86", func := "loop.example/setshadows/laws.FnSetOf", spec := "fnSetOf", apart := false }
def FnSetOfSaid : Prop := fnSetOfRow.holds Try.pinned (OpenSpec.ofChange fnSetOfSpec)

/-- ITS FALSE NEIGHBOUR: 'it returns false'. Refute it at one input. -/
def fnSetOfWrong : ChangeSpec := { name := "fnSetOf", fn := fun _ => fun
  | [d] => { results := [.lit (.bool false)], args := [d] }
  | _ => none }
def FnSetOfWrongFalsely : Prop := fnSetOfRow.holds Try.pinned (OpenSpec.ofChange fnSetOfWrong)

/-- 'laws.FnExactSetIn': WHATEVER THE INPUT: true; the input reads as it did. -/
def fnExactSetInSpec : ChangeSpec := { name := "fnExactSetIn", fn := fun _ => fun
  | [d1, d2] => { results := [.lit (.bool true)], args := [d1, d2] }
  | _ => none }
def fnExactSetInRow : OpenClaim := { program := "ytgimceanhmhgkaa", sum := "e24eae7838bde325d1519cb9eb51d4dc3d30126cfe0720573b71803371874b86", func := "loop.example/setshadows/laws.FnExactSetIn", spec := "fnExactSetIn", apart := false }
def FnExactSetInSaid : Prop := fnExactSetInRow.holds Try.pinned (OpenSpec.ofChange fnExactSetInSpec)

/-- ITS FALSE NEIGHBOUR: 'it returns false'. Refute it at one input. -/
def fnExactSetInWrong : ChangeSpec := { name := "fnExactSetIn", fn := fun _ => fun
  | [d1, d2] => { results := [.lit (.bool false)], args := [d1, d2] }
  | _ => none }
def FnExactSetInWrongFalsely : Prop := fnExactSetInRow.holds Try.pinned (OpenSpec.ofChange fnExactSetInWrong)

/-- 'laws.FnExactSetSize': WHATEVER THE INPUT: true; the input reads as it did. -/
def fnExactSetSizeSpec : ChangeSpec := { name := "fnExactSetSize", fn := fun _ => fun
  | [d1, d2] => { results := [.lit (.bool true)], args := [d1, d2] }
  | _ => none }
def fnExactSetSizeRow : OpenClaim := { program := "ytgimceanhmhgkaa", sum := "e24eae7838bde325d1519cb9eb51d4dc3d30126cfe0720573b71803371874b86", func := "loop.example/setshadows/laws.FnExactSetSize", spec := "fnExactSetSize", apart := false }
def FnExactSetSizeSaid : Prop := fnExactSetSizeRow.holds Try.pinned (OpenSpec.ofChange fnExactSetSizeSpec)

/-- ITS FALSE NEIGHBOUR: 'it returns false'. Refute it at one input. -/
def fnExactSetSizeWrong : ChangeSpec := { name := "fnExactSetSize", fn := fun _ => fun
  | [d1, d2] => { results := [.lit (.bool false)], args := [d1, d2] }
  | _ => none }
def FnExactSetSizeWrongFalsely : Prop := fnExactSetSizeRow.holds Try.pinned (OpenSpec.ofChange fnExactSetSizeWrong)

/-- 'laws.FnExactSetOf': WHATEVER THE INPUT: true; the input reads as it did. -/
def fnExactSetOfSpec : ChangeSpec := { name := "fnExactSetOf", fn := fun _ => fun
  | [d1, d2] => { results := [.lit (.bool true)], args := [d1, d2] }
  | _ => none }
def fnExactSetOfRow : OpenClaim := { program := "ytgimceanhmhgkaa", sum := "e24eae7838bde325d1519cb9eb51d4dc3d30126cfe0720573b71803371874b86", func := "loop.example/setshadows/laws.FnExactSetOf", spec := "fnExactSetOf", apart := false }
def FnExactSetOfSaid : Prop := fnExactSetOfRow.holds Try.pinned (OpenSpec.ofChange fnExactSetOfSpec)

/-- ITS FALSE NEIGHBOUR: 'it returns false'. Refute it at one input. -/
def fnExactSetOfWrong : ChangeSpec := { name := "fnExactSetOf", fn := fun _ => fun
  | [d1, d2] => { results := [.lit (.bool false)], args := [d1, d2] }
  | _ => none }
def FnExactSetOfWrongFalsely : Prop := fnExactSetOfRow.holds Try.pinned (OpenSpec.ofChange fnExactSetOfWrong)

/-- 'laws.FnExactSetOther': WHATEVER THE INPUT: true; the input reads as it did. -/
def fnExactSetOtherSpec : ChangeSpec := { name := "fnExactSetOther", fn := fun _ => fun
  | [d1, d2] => { results := [.lit (.bool true)], args := [d1, d2] }
  | _ => none }
def fnExactSetOtherRow : OpenClaim := { program := "ytgimceanhmhgkaa", sum := "e24eae7838bde325d1519cb9eb51d4dc3d30126cfe0720573b71803371874b86", func := "loop.example/setshadows/laws.FnExactSetOther", spec := "fnExactSetOther", apart := false }
def FnExactSetOtherSaid : Prop := fnExactSetOtherRow.holds Try.pinned (OpenSpec.ofChange fnExactSetOtherSpec)

/-- ITS FALSE NEIGHBOUR: 'it returns false'. Refute it at one input. -/
def fnExactSetOtherWrong : ChangeSpec := { name := "fnExactSetOther", fn := fun _ => fun
  | [d1, d2] => { results := [.lit (.bool false)], args := [d1, d2] }
  | _ => none }
def FnExactSetOtherWrongFalsely : Prop := fnExactSetOtherRow.holds Try.pinned (OpenSpec.ofChange fnExactSetOtherWrong)

/-- 'laws.FnExactSetMoved': WHATEVER THE INPUT: true; the input reads as it did. -/
def fnExactSetMovedSpec : ChangeSpec := { name := "fnExactSetMoved", fn := fun _ => fun
  | [d1, d2, d3, d4] => { results := [.lit (.bool true)], args := [d1, d2, d3, d4] }
  | _ => none }
def fnExactSetMovedRow : OpenClaim := { program := "ytgimceanhmhgkaa", sum := "e24eae7838bde325d1519cb9eb51d4dc3d30126cfe0720573b71803371874b86", func := "loop.example/setshadows/laws.FnExactSetMoved", spec := "fnExactSetMoved", apart := false }
def FnExactSetMovedSaid : Prop := fnExactSetMovedRow.holds Try.pinned (OpenSpec.ofChange fnExactSetMovedSpec)

/-- ITS FALSE NEIGHBOUR: 'it returns false'. Refute it at one input. -/
def fnExactSetMovedWrong : ChangeSpec := { name := "fnExactSetMoved", fn := fun _ => fun
  | [d1, d2, d3, d4] => { results := [.lit (.bool false)], args := [d1, d2, d3, d4] }
  | _ => none }
def FnExactSetMovedWrongFalsely : Prop := fnExactSetMovedRow.holds Try.pinned (OpenSpec.ofChange fnExactSetMovedWrong)

/-- 'laws.FnExactSetUnrank': WHATEVER THE INPUT: true; the input reads as it did. -/
def fnExactSetUnrankSpec : ChangeSpec := { name := "fnExactSetUnrank", fn := fun _ => fun
  | [d1, d2, d3] => { results := [.lit (.bool true)], args := [d1, d2, d3] }
  | _ => none }
def fnExactSetUnrankRow : OpenClaim := { program := "ytgimceanhmhgkaa", sum := "e24eae7838bde325d1519cb9eb51d4dc3d30126cfe0720573b71803371874b86", func := "loop.example/setshadows/laws.FnExactSetUnrank", spec := "fnExactSetUnrank", apart := false }
def FnExactSetUnrankSaid : Prop := fnExactSetUnrankRow.holds Try.pinned (OpenSpec.ofChange fnExactSetUnrankSpec)

/-- ITS FALSE NEIGHBOUR: 'it returns false'. Refute it at one input. -/
def fnExactSetUnrankWrong : ChangeSpec := { name := "fnExactSetUnrank", fn := fun _ => fun
  | [d1, d2, d3] => { results := [.lit (.bool false)], args := [d1, d2, d3] }
  | _ => none }
def FnExactSetUnrankWrongFalsely : Prop := fnExactSetUnrankRow.holds Try.pinned (OpenSpec.ofChange fnExactSetUnrankWrong)

/-- 'laws.FnExactSetRead': WHATEVER THE INPUT: true; the input reads as it did. -/
def fnExactSetReadSpec : ChangeSpec := { name := "fnExactSetRead", fn := fun _ => fun
  | [d1, d2] => { results := [.lit (.bool true)], args := [d1, d2] }
  | _ => none }
def fnExactSetReadRow : OpenClaim := { program := "ytgimceanhmhgkaa", sum := "e24eae7838bde325d1519cb9eb51d4dc3d30126cfe0720573b71803371874b86", func := "loop.example/setshadows/laws.FnExactSetRead", spec := "fnExactSetRead", apart := false }
def FnExactSetReadSaid : Prop := fnExactSetReadRow.holds Try.pinned (OpenSpec.ofChange fnExactSetReadSpec)

/-- ITS FALSE NEIGHBOUR: 'it returns false'. Refute it at one input. -/
def fnExactSetReadWrong : ChangeSpec := { name := "fnExactSetRead", fn := fun _ => fun
  | [d1, d2] => { results := [.lit (.bool false)], args := [d1, d2] }
  | _ => none }
def FnExactSetReadWrongFalsely : Prop := fnExactSetReadRow.holds Try.pinned (OpenSpec.ofChange fnExactSetReadWrong)

/-- 'laws.FnExactChoose': WHATEVER THE INPUT: true; the input reads as it did. -/
def fnExactChooseSpec : ChangeSpec := { name := "fnExactChoose", fn := fun _ => fun
  | [d1, d2] => { results := [.lit (.bool true)], args := [d1, d2] }
  | _ => none }
def fnExactChooseRow : OpenClaim := { program := "ytgimceanhmhgkaa", sum := "e24eae7838bde325d1519cb9eb51d4dc3d30126cfe0720573b71803371874b86", func := "loop.example/setshadows/laws.FnExactChoose", spec := "fnExactChoose", apart := false }
def FnExactChooseSaid : Prop := fnExactChooseRow.holds Try.pinned (OpenSpec.ofChange fnExactChooseSpec)

/-- ITS FALSE NEIGHBOUR: 'it returns false'. Refute it at one input. -/
def fnExactChooseWrong : ChangeSpec := { name := "fnExactChoose", fn := fun _ => fun
  | [d1, d2] => { results := [.lit (.bool false)], args := [d1, d2] }
  | _ => none }
def FnExactChooseWrongFalsely : Prop := fnExactChooseRow.holds Try.pinned (OpenSpec.ofChange fnExactChooseWrong)

/-- 'laws.FnExactCascade': WHATEVER THE INPUT: true; the input reads as it did. -/
def fnExactCascadeSpec : ChangeSpec := { name := "fnExactCascade", fn := fun _ => fun
  | [d1, d2] => { results := [.lit (.bool true)], args := [d1, d2] }
  | _ => none }
def fnExactCascadeRow : OpenClaim := { program := "ytgimceanhmhgkaa", sum := "e24eae7838bde325d1519cb9eb51d4dc3d30126cfe0720573b71803371874b86", func := "loop.example/setshadows/laws.FnExactCascade", spec := "fnExactCascade", apart := false }
def FnExactCascadeSaid : Prop := fnExactCascadeRow.holds Try.pinned (OpenSpec.ofChange fnExactCascadeSpec)

/-- ITS FALSE NEIGHBOUR: 'it returns false'. Refute it at one input. -/
def fnExactCascadeWrong : ChangeSpec := { name := "fnExactCascade", fn := fun _ => fun
  | [d1, d2] => { results := [.lit (.bool false)], args := [d1, d2] }
  | _ => none }
def FnExactCascadeWrongFalsely : Prop := fnExactCascadeRow.holds Try.pinned (OpenSpec.ofChange fnExactCascadeWrong)

/- THE SECOND FORM. 'bulk': how many values and letters a reading holds, each counted each time it is reached (what is shared counts as often as it is met; a slice's spare places count too). A statement '..UptoSaid' is the law's where the arguments, and the package variables that the reading takes, are together of bulk at most 1048576: NARROWER than '..Said'. Prove '..Said' where nothing that the law and all that it calls make is longer than what came in: it says more and counts as full. Else prove '..UptoSaid'. A law counts once. -/
mutual
def uptoBulk {H : Type} : DataW H → Nat
  | .lit (.string bytes) => bytes.length + 1
  | .lit _ => 1
  | .nil => 1
  | .ptr d => uptoBulk d + 1
  | .slice elems spare => uptoBulkAll elems + uptoBulkAll spare + 1
  | .agg parts => uptoBulkAll parts + 1
  | .iface _ d => uptoBulk d + 1
  | .map entries => uptoBulkEntries entries + 1
  | .held _ => 1
def uptoBulkAll {H : Type} : List (DataW H) → Nat
  | [] => 0
  | d :: r => uptoBulk d + uptoBulkAll r
def uptoBulkEntries {H : Type} : List (Lit × DataW H) → Nat
  | [] => 0
  | x :: r => uptoBulkEntry x + uptoBulkEntries r
def uptoBulkEntry {H : Type} : Lit × DataW H → Nat
  | (.string bytes, d) => bytes.length + uptoBulk d + 1
  | (_, d) => uptoBulk d + 1
 end
def uptoSmall : (H : Type) → List (DataW H) → Bool := fun _ ds => decide (uptoBulkAll ds ≤ 1048576)
def OpenSpec.upto (s : _root_.Go.ChangeSpec) : _root_.Go.OpenSpec := { _root_.Go.OpenSpec.ofChange s with cond := some uptoSmall }

/-- 'laws.FnSetOf', WHERE WHAT IT READS IS OF BULK AT MOST 1048576: true; the input reads as it did. -/
def fnSetOfUptoRow : OpenClaim := { program := "ytgimceanhmhgkaa", sum := "e24eae7838bde325d1519cb9eb51d4dc3d30126cfe0720573b71803371874b86", func := "loop.example/setshadows/laws.FnSetOf", spec := "fnSetOf", apart := false, narrowed := true }
def FnSetOfUptoSaid : Prop := fnSetOfUptoRow.holds Try.pinned (OpenSpec.upto fnSetOfSpec)

/-- 'laws.FnExactSetIn', WHERE WHAT IT READS IS OF BULK AT MOST 1048576: true; the input reads as it did. -/
def fnExactSetInUptoRow : OpenClaim := { program := "ytgimceanhmhgkaa", sum := "e24eae7838bde325d1519cb9eb51d4dc3d30126cfe0720573b71803371874b86", func := "loop.example/setshadows/laws.FnExactSetIn", spec := "fnExactSetIn", apart := false, narrowed := true }
def FnExactSetInUptoSaid : Prop := fnExactSetInUptoRow.holds Try.pinned (OpenSpec.upto fnExactSetInSpec)

/-- 'laws.FnExactSetSize', WHERE WHAT IT READS IS OF BULK AT MOST 1048576: true; the input reads as it did. -/
def fnExactSetSizeUptoRow : OpenClaim := { program := "ytgimceanhmhgkaa", sum := "e24eae7838bde325d1519cb9eb51d4dc3d30126cfe0720573b71803371874b86", func := "loop.example/setshadows/laws.FnExactSetSize", spec := "fnExactSetSize", apart := false, narrowed := true }
def FnExactSetSizeUptoSaid : Prop := fnExactSetSizeUptoRow.holds Try.pinned (OpenSpec.upto fnExactSetSizeSpec)

/-- 'laws.FnExactSetOf', WHERE WHAT IT READS IS OF BULK AT MOST 1048576: true; the input reads as it did. -/
def fnExactSetOfUptoRow : OpenClaim := { program := "ytgimceanhmhgkaa", sum := "e24eae7838bde325d1519cb9eb51d4dc3d30126cfe0720573b71803371874b86", func := "loop.example/setshadows/laws.FnExactSetOf", spec := "fnExactSetOf", apart := false, narrowed := true }
def FnExactSetOfUptoSaid : Prop := fnExactSetOfUptoRow.holds Try.pinned (OpenSpec.upto fnExactSetOfSpec)

/-- 'laws.FnExactSetOther', WHERE WHAT IT READS IS OF BULK AT MOST 1048576: true; the input reads as it did. -/
def fnExactSetOtherUptoRow : OpenClaim := { program := "ytgimceanhmhgkaa", sum := "e24eae7838bde325d1519cb9eb51d4dc3d30126cfe0720573b71803371874b86", func := "loop.example/setshadows/laws.FnExactSetOther", spec := "fnExactSetOther", apart := false, narrowed := true }
def FnExactSetOtherUptoSaid : Prop := fnExactSetOtherUptoRow.holds Try.pinned (OpenSpec.upto fnExactSetOtherSpec)

/-- 'laws.FnExactSetMoved', WHERE WHAT IT READS IS OF BULK AT MOST 1048576: true; the input reads as it did. -/
def fnExactSetMovedUptoRow : OpenClaim := { program := "ytgimceanhmhgkaa", sum := "e24eae7838bde325d1519cb9eb51d4dc3d30126cfe0720573b71803371874b86", func := "loop.example/setshadows/laws.FnExactSetMoved", spec := "fnExactSetMoved", apart := false, narrowed := true }
def FnExactSetMovedUptoSaid : Prop := fnExactSetMovedUptoRow.holds Try.pinned (OpenSpec.upto fnExactSetMovedSpec)

/-- 'laws.FnExactSetUnrank', WHERE WHAT IT READS IS OF BULK AT MOST 1048576: true; the input reads as it did. -/
def fnExactSetUnrankUptoRow : OpenClaim := { program := "ytgimceanhmhgkaa", sum := "e24eae7838bde325d1519cb9eb51d4dc3d30126cfe0720573b71803371874b86", func := "loop.example/setshadows/laws.FnExactSetUnrank", spec := "fnExactSetUnrank", apart := false, narrowed := true }
def FnExactSetUnrankUptoSaid : Prop := fnExactSetUnrankUptoRow.holds Try.pinned (OpenSpec.upto fnExactSetUnrankSpec)

/-- 'laws.FnExactSetRead', WHERE WHAT IT READS IS OF BULK AT MOST 1048576: true; the input reads as it did. -/
def fnExactSetReadUptoRow : OpenClaim := { program := "ytgimceanhmhgkaa", sum := "e24eae7838bde325d1519cb9eb51d4dc3d30126cfe0720573b71803371874b86", func := "loop.example/setshadows/laws.FnExactSetRead", spec := "fnExactSetRead", apart := false, narrowed := true }
def FnExactSetReadUptoSaid : Prop := fnExactSetReadUptoRow.holds Try.pinned (OpenSpec.upto fnExactSetReadSpec)

/-- 'laws.FnExactChoose', WHERE WHAT IT READS IS OF BULK AT MOST 1048576: true; the input reads as it did. -/
def fnExactChooseUptoRow : OpenClaim := { program := "ytgimceanhmhgkaa", sum := "e24eae7838bde325d1519cb9eb51d4dc3d30126cfe0720573b71803371874b86", func := "loop.example/setshadows/laws.FnExactChoose", spec := "fnExactChoose", apart := false, narrowed := true }
def FnExactChooseUptoSaid : Prop := fnExactChooseUptoRow.holds Try.pinned (OpenSpec.upto fnExactChooseSpec)

/-- 'laws.FnExactCascade', WHERE WHAT IT READS IS OF BULK AT MOST 1048576: true; the input reads as it did. -/
def fnExactCascadeUptoRow : OpenClaim := { program := "ytgimceanhmhgkaa", sum := "e24eae7838bde325d1519cb9eb51d4dc3d30126cfe0720573b71803371874b86", func := "loop.example/setshadows/laws.FnExactCascade", spec := "fnExactCascade", apart := false, narrowed := true }
def FnExactCascadeUptoSaid : Prop := fnExactCascadeUptoRow.holds Try.pinned (OpenSpec.upto fnExactCascadeSpec)

end Rows
end Go.Proofs.Ytgimceanhmhgkaa
