/-
  No cell of these rows narrows 'for every input' (looked for: loops, veiled, ifaces, maps, wideKeys, modest, calm, conditions, laid).
  DERIVED. THE GIVEN ROWS OF THIS SEAT. 9 by the template 'for every input the law returns true; each argument reads behind the call as it read before'; 0 by the template 'total and deterministic' (their statements: YtffnpignkimkhaaTotals.lean).
  GIVEN WITH THE SEED: the statements are not yours to turn. If you find one false, say at which input.
  Laid BY PROGRAM, IN A SANDBOX (cutbox-rows.mjs): the forced cells as the released guide's own fill.sh prints them over the translation 6a221320f1e7d4ad… (all of the seat's roots in one cut). By AI agents, Wed Nov 11 2026. No macro, syntax, notation, axiom, sorry.
-/
import Derived.Test.YtffnpignkimkhaaChecked
import GoSem.Claim
import GoSem.ClaimJoined
import GoSem.ClaimMapViews
import Derived.JoinedTies
import Derived.KernelRfl
namespace Go.Proofs.Ytffnpignkimkhaa
/- THE CELL 'sum', in the pinned program and in every row, IS THE sha256 OF THE DUMP (.gsa) THAT YtffnpignkimkhaaProg.lean LOADS. Nothing in Lean hashes anything: it is a label: what it is worth is what the hold of that sum in a sandbox is worth. -/
noncomputable def Try.pinned : Pinned := { name := "ytffnpignkimkhaa", sum := "6a221320f1e7d4adf8283d93814303b00c2140fc734653584ca47085ddf62e7f", checked := Try.checked }
namespace Rows
def none {H : Type} : Left H := { results := [], args := [] }

/-- 'laws.FnExactAntichainIn': WHATEVER THE INPUT: true; the input reads as it did. -/
def fnExactAntichainInSpec : ChangeSpec := { name := "fnExactAntichainIn", fn := fun _ => fun
  | [d1, d2] => { results := [.lit (.bool true)], args := [d1, d2] }
  | _ => none }
def fnExactAntichainInRow : OpenClaim := { program := "ytffnpignkimkhaa", sum := "6a221320f1e7d4adf8283d93814303b00c2140fc734653584ca47085ddf62e7f", func := "loop.example/setshadows/laws.FnExactAntichainIn", spec := "fnExactAntichainIn", inPlace := ["slices.overlaps[loop.example/setshadows/impl.set]"], unfollowed := true, recurses := true, apart := false }
def FnExactAntichainInSaid : Prop := fnExactAntichainInRow.holds Try.pinned (OpenSpec.ofChange fnExactAntichainInSpec)

/-- ITS FALSE NEIGHBOUR: 'it returns false'. Refute it at one input. -/
def fnExactAntichainInWrong : ChangeSpec := { name := "fnExactAntichainIn", fn := fun _ => fun
  | [d1, d2] => { results := [.lit (.bool false)], args := [d1, d2] }
  | _ => none }
def FnExactAntichainInWrongFalsely : Prop := fnExactAntichainInRow.holds Try.pinned (OpenSpec.ofChange fnExactAntichainInWrong)

/-- 'laws.FnExactAntichainTop': WHATEVER THE INPUT: true; the input reads as it did. -/
def fnExactAntichainTopSpec : ChangeSpec := { name := "fnExactAntichainTop", fn := fun _ => fun
  | [d1, d2] => { results := [.lit (.bool true)], args := [d1, d2] }
  | _ => none }
def fnExactAntichainTopRow : OpenClaim := { program := "ytffnpignkimkhaa", sum := "6a221320f1e7d4adf8283d93814303b00c2140fc734653584ca47085ddf62e7f", func := "loop.example/setshadows/laws.FnExactAntichainTop", spec := "fnExactAntichainTop", inPlace := ["slices.overlaps[loop.example/setshadows/impl.set]"], unfollowed := true, recurses := true, apart := false }
def FnExactAntichainTopSaid : Prop := fnExactAntichainTopRow.holds Try.pinned (OpenSpec.ofChange fnExactAntichainTopSpec)

/-- ITS FALSE NEIGHBOUR: 'it returns false'. Refute it at one input. -/
def fnExactAntichainTopWrong : ChangeSpec := { name := "fnExactAntichainTop", fn := fun _ => fun
  | [d1, d2] => { results := [.lit (.bool false)], args := [d1, d2] }
  | _ => none }
def FnExactAntichainTopWrongFalsely : Prop := fnExactAntichainTopRow.holds Try.pinned (OpenSpec.ofChange fnExactAntichainTopWrong)

/-- 'laws.FnExactAntichainBottom': WHATEVER THE INPUT: true; the input reads as it did. -/
def fnExactAntichainBottomSpec : ChangeSpec := { name := "fnExactAntichainBottom", fn := fun _ => fun
  | [d1, d2] => { results := [.lit (.bool true)], args := [d1, d2] }
  | _ => none }
def fnExactAntichainBottomRow : OpenClaim := { program := "ytffnpignkimkhaa", sum := "6a221320f1e7d4adf8283d93814303b00c2140fc734653584ca47085ddf62e7f", func := "loop.example/setshadows/laws.FnExactAntichainBottom", spec := "fnExactAntichainBottom", inPlace := ["slices.overlaps[loop.example/setshadows/impl.set]"], unfollowed := true, recurses := true, apart := false }
def FnExactAntichainBottomSaid : Prop := fnExactAntichainBottomRow.holds Try.pinned (OpenSpec.ofChange fnExactAntichainBottomSpec)

/-- ITS FALSE NEIGHBOUR: 'it returns false'. Refute it at one input. -/
def fnExactAntichainBottomWrong : ChangeSpec := { name := "fnExactAntichainBottom", fn := fun _ => fun
  | [d1, d2] => { results := [.lit (.bool false)], args := [d1, d2] }
  | _ => none }
def FnExactAntichainBottomWrongFalsely : Prop := fnExactAntichainBottomRow.holds Try.pinned (OpenSpec.ofChange fnExactAntichainBottomWrong)

/-- 'laws.FnExactClosedDown': WHATEVER THE INPUT: true; the input reads as it did. -/
def fnExactClosedDownSpec : ChangeSpec := { name := "fnExactClosedDown", fn := fun _ => fun
  | [d1, d2] => { results := [.lit (.bool true)], args := [d1, d2] }
  | _ => none }
def fnExactClosedDownRow : OpenClaim := { program := "ytffnpignkimkhaa", sum := "6a221320f1e7d4adf8283d93814303b00c2140fc734653584ca47085ddf62e7f", func := "loop.example/setshadows/laws.FnExactClosedDown", spec := "fnExactClosedDown", inPlace := ["slices.overlaps[loop.example/setshadows/impl.set]"], unfollowed := true, recurses := true, apart := false }
def FnExactClosedDownSaid : Prop := fnExactClosedDownRow.holds Try.pinned (OpenSpec.ofChange fnExactClosedDownSpec)

/-- ITS FALSE NEIGHBOUR: 'it returns false'. Refute it at one input. -/
def fnExactClosedDownWrong : ChangeSpec := { name := "fnExactClosedDown", fn := fun _ => fun
  | [d1, d2] => { results := [.lit (.bool false)], args := [d1, d2] }
  | _ => none }
def FnExactClosedDownWrongFalsely : Prop := fnExactClosedDownRow.holds Try.pinned (OpenSpec.ofChange fnExactClosedDownWrong)

/-- 'laws.FnExactClosedUp': WHATEVER THE INPUT: true; the input reads as it did. -/
def fnExactClosedUpSpec : ChangeSpec := { name := "fnExactClosedUp", fn := fun _ => fun
  | [d1, d2] => { results := [.lit (.bool true)], args := [d1, d2] }
  | _ => none }
def fnExactClosedUpRow : OpenClaim := { program := "ytffnpignkimkhaa", sum := "6a221320f1e7d4adf8283d93814303b00c2140fc734653584ca47085ddf62e7f", func := "loop.example/setshadows/laws.FnExactClosedUp", spec := "fnExactClosedUp", inPlace := ["slices.overlaps[loop.example/setshadows/impl.set]"], unfollowed := true, recurses := true, apart := false }
def FnExactClosedUpSaid : Prop := fnExactClosedUpRow.holds Try.pinned (OpenSpec.ofChange fnExactClosedUpSpec)

/-- ITS FALSE NEIGHBOUR: 'it returns false'. Refute it at one input. -/
def fnExactClosedUpWrong : ChangeSpec := { name := "fnExactClosedUp", fn := fun _ => fun
  | [d1, d2] => { results := [.lit (.bool false)], args := [d1, d2] }
  | _ => none }
def FnExactClosedUpWrongFalsely : Prop := fnExactClosedUpRow.holds Try.pinned (OpenSpec.ofChange fnExactClosedUpWrong)

/-- 'laws.FnExactWeightOf': WHATEVER THE INPUT: true; the input reads as it did. -/
def fnExactWeightOfSpec : ChangeSpec := { name := "fnExactWeightOf", fn := fun _ => fun
  | [d1, d2] => { results := [.lit (.bool true)], args := [d1, d2] }
  | _ => none }
def fnExactWeightOfRow : OpenClaim := { program := "ytffnpignkimkhaa", sum := "6a221320f1e7d4adf8283d93814303b00c2140fc734653584ca47085ddf62e7f", func := "loop.example/setshadows/laws.FnExactWeightOf", spec := "fnExactWeightOf", inPlace := ["slices.overlaps[loop.example/setshadows/impl.set]"], unfollowed := true, recurses := true, apart := false }
def FnExactWeightOfSaid : Prop := fnExactWeightOfRow.holds Try.pinned (OpenSpec.ofChange fnExactWeightOfSpec)

/-- ITS FALSE NEIGHBOUR: 'it returns false'. Refute it at one input. -/
def fnExactWeightOfWrong : ChangeSpec := { name := "fnExactWeightOf", fn := fun _ => fun
  | [d1, d2] => { results := [.lit (.bool false)], args := [d1, d2] }
  | _ => none }
def FnExactWeightOfWrongFalsely : Prop := fnExactWeightOfRow.holds Try.pinned (OpenSpec.ofChange fnExactWeightOfWrong)

/-- 'laws.FnExactChainPairs': WHATEVER THE INPUT: true; the input reads as it did. -/
def fnExactChainPairsSpec : ChangeSpec := { name := "fnExactChainPairs", fn := fun _ => fun
  | [d1, d2] => { results := [.lit (.bool true)], args := [d1, d2] }
  | _ => none }
def fnExactChainPairsRow : OpenClaim := { program := "ytffnpignkimkhaa", sum := "6a221320f1e7d4adf8283d93814303b00c2140fc734653584ca47085ddf62e7f", func := "loop.example/setshadows/laws.FnExactChainPairs", spec := "fnExactChainPairs", apart := false }
def FnExactChainPairsSaid : Prop := fnExactChainPairsRow.holds Try.pinned (OpenSpec.ofChange fnExactChainPairsSpec)

/-- ITS FALSE NEIGHBOUR: 'it returns false'. Refute it at one input. -/
def fnExactChainPairsWrong : ChangeSpec := { name := "fnExactChainPairs", fn := fun _ => fun
  | [d1, d2] => { results := [.lit (.bool false)], args := [d1, d2] }
  | _ => none }
def FnExactChainPairsWrongFalsely : Prop := fnExactChainPairsRow.holds Try.pinned (OpenSpec.ofChange fnExactChainPairsWrong)

/-- 'laws.FnExactChainWide': WHATEVER THE INPUT: true; the input reads as it did. -/
def fnExactChainWideSpec : ChangeSpec := { name := "fnExactChainWide", fn := fun _ => fun
  | [d1, d2] => { results := [.lit (.bool true)], args := [d1, d2] }
  | _ => none }
def fnExactChainWideRow : OpenClaim := { program := "ytffnpignkimkhaa", sum := "6a221320f1e7d4adf8283d93814303b00c2140fc734653584ca47085ddf62e7f", func := "loop.example/setshadows/laws.FnExactChainWide", spec := "fnExactChainWide", inPlace := ["slices.overlaps[loop.example/setshadows/impl.set]"], unfollowed := true, recurses := true, apart := false }
def FnExactChainWideSaid : Prop := fnExactChainWideRow.holds Try.pinned (OpenSpec.ofChange fnExactChainWideSpec)

/-- ITS FALSE NEIGHBOUR: 'it returns false'. Refute it at one input. -/
def fnExactChainWideWrong : ChangeSpec := { name := "fnExactChainWide", fn := fun _ => fun
  | [d1, d2] => { results := [.lit (.bool false)], args := [d1, d2] }
  | _ => none }
def FnExactChainWideWrongFalsely : Prop := fnExactChainWideRow.holds Try.pinned (OpenSpec.ofChange fnExactChainWideWrong)

/-- 'laws.FnExactChainLong': WHATEVER THE INPUT: true; the input reads as it did. -/
def fnExactChainLongSpec : ChangeSpec := { name := "fnExactChainLong", fn := fun _ => fun
  | [d1, d2] => { results := [.lit (.bool true)], args := [d1, d2] }
  | _ => none }
def fnExactChainLongRow : OpenClaim := { program := "ytffnpignkimkhaa", sum := "6a221320f1e7d4adf8283d93814303b00c2140fc734653584ca47085ddf62e7f", func := "loop.example/setshadows/laws.FnExactChainLong", spec := "fnExactChainLong", inPlace := ["slices.overlaps[loop.example/setshadows/impl.set]"], unfollowed := true, recurses := true, apart := false }
def FnExactChainLongSaid : Prop := fnExactChainLongRow.holds Try.pinned (OpenSpec.ofChange fnExactChainLongSpec)

/-- ITS FALSE NEIGHBOUR: 'it returns false'. Refute it at one input. -/
def fnExactChainLongWrong : ChangeSpec := { name := "fnExactChainLong", fn := fun _ => fun
  | [d1, d2] => { results := [.lit (.bool false)], args := [d1, d2] }
  | _ => none }
def FnExactChainLongWrongFalsely : Prop := fnExactChainLongRow.holds Try.pinned (OpenSpec.ofChange fnExactChainLongWrong)

/- THE SECOND FORM. 'bulk': how many values and letters a reading holds, each counted each time it is reached (what is shared counts as often as it is met; a slice's spare places count too). A statement '..UptoSaid' is the law's where the arguments, and the package variables that the reading takes, are together of bulk at most 1048576: NARROWER than '..Said'. Prove '..Said' where nothing that the law and all that it calls make is longer than what came in: it says more and counts as full. Else prove '..UptoSaid'. A law counts once. -/
mutual
def uptoBulk {H : Type} : DataW H → Nat
  | .lit (.string bytes) => bytes.length + 1
  | .lit _ => 1
  | .nil => 1
  | .ptr d => uptoBulk d + 1
  | .slice elems spare => uptoBulkAll elems + uptoBulkAll spare + 1
  | .agg parts => uptoBulkAll parts + 1
  | .iface _ d => uptoBulk d + 1
  | .map entries => uptoBulkEntries entries + 1
  | .held _ => 1
def uptoBulkAll {H : Type} : List (DataW H) → Nat
  | [] => 0
  | d :: r => uptoBulk d + uptoBulkAll r
def uptoBulkEntries {H : Type} : List (Lit × DataW H) → Nat
  | [] => 0
  | x :: r => uptoBulkEntry x + uptoBulkEntries r
def uptoBulkEntry {H : Type} : Lit × DataW H → Nat
  | (.string bytes, d) => bytes.length + uptoBulk d + 1
  | (_, d) => uptoBulk d + 1
 end
def uptoSmall : (H : Type) → List (DataW H) → Bool := fun _ ds => decide (uptoBulkAll ds ≤ 1048576)
def OpenSpec.upto (s : _root_.Go.ChangeSpec) : _root_.Go.OpenSpec := { _root_.Go.OpenSpec.ofChange s with cond := some uptoSmall }

/-- 'laws.FnExactAntichainIn', WHERE WHAT IT READS IS OF BULK AT MOST 1048576: true; the input reads as it did. -/
def fnExactAntichainInUptoRow : OpenClaim := { program := "ytffnpignkimkhaa", sum := "6a221320f1e7d4adf8283d93814303b00c2140fc734653584ca47085ddf62e7f", func := "loop.example/setshadows/laws.FnExactAntichainIn", spec := "fnExactAntichainIn", inPlace := ["slices.overlaps[loop.example/setshadows/impl.set]"], unfollowed := true, recurses := true, apart := false, narrowed := true }
def FnExactAntichainInUptoSaid : Prop := fnExactAntichainInUptoRow.holds Try.pinned (OpenSpec.upto fnExactAntichainInSpec)

/-- 'laws.FnExactAntichainTop', WHERE WHAT IT READS IS OF BULK AT MOST 1048576: true; the input reads as it did. -/
def fnExactAntichainTopUptoRow : OpenClaim := { program := "ytffnpignkimkhaa", sum := "6a221320f1e7d4adf8283d93814303b00c2140fc734653584ca47085ddf62e7f", func := "loop.example/setshadows/laws.FnExactAntichainTop", spec := "fnExactAntichainTop", inPlace := ["slices.overlaps[loop.example/setshadows/impl.set]"], unfollowed := true, recurses := true, apart := false, narrowed := true }
def FnExactAntichainTopUptoSaid : Prop := fnExactAntichainTopUptoRow.holds Try.pinned (OpenSpec.upto fnExactAntichainTopSpec)

/-- 'laws.FnExactAntichainBottom', WHERE WHAT IT READS IS OF BULK AT MOST 1048576: true; the input reads as it did. -/
def fnExactAntichainBottomUptoRow : OpenClaim := { program := "ytffnpignkimkhaa", sum := "6a221320f1e7d4adf8283d93814303b00c2140fc734653584ca47085ddf62e7f", func := "loop.example/setshadows/laws.FnExactAntichainBottom", spec := "fnExactAntichainBottom", inPlace := ["slices.overlaps[loop.example/setshadows/impl.set]"], unfollowed := true, recurses := true, apart := false, narrowed := true }
def FnExactAntichainBottomUptoSaid : Prop := fnExactAntichainBottomUptoRow.holds Try.pinned (OpenSpec.upto fnExactAntichainBottomSpec)

/-- 'laws.FnExactClosedDown', WHERE WHAT IT READS IS OF BULK AT MOST 1048576: true; the input reads as it did. -/
def fnExactClosedDownUptoRow : OpenClaim := { program := "ytffnpignkimkhaa", sum := "6a221320f1e7d4adf8283d93814303b00c2140fc734653584ca47085ddf62e7f", func := "loop.example/setshadows/laws.FnExactClosedDown", spec := "fnExactClosedDown", inPlace := ["slices.overlaps[loop.example/setshadows/impl.set]"], unfollowed := true, recurses := true, apart := false, narrowed := true }
def FnExactClosedDownUptoSaid : Prop := fnExactClosedDownUptoRow.holds Try.pinned (OpenSpec.upto fnExactClosedDownSpec)

/-- 'laws.FnExactClosedUp', WHERE WHAT IT READS IS OF BULK AT MOST 1048576: true; the input reads as it did. -/
def fnExactClosedUpUptoRow : OpenClaim := { program := "ytffnpignkimkhaa", sum := "6a221320f1e7d4adf8283d93814303b00c2140fc734653584ca47085ddf62e7f", func := "loop.example/setshadows/laws.FnExactClosedUp", spec := "fnExactClosedUp", inPlace := ["slices.overlaps[loop.example/setshadows/impl.set]"], unfollowed := true, recurses := true, apart := false, narrowed := true }
def FnExactClosedUpUptoSaid : Prop := fnExactClosedUpUptoRow.holds Try.pinned (OpenSpec.upto fnExactClosedUpSpec)

/-- 'laws.FnExactWeightOf', WHERE WHAT IT READS IS OF BULK AT MOST 1048576: true; the input reads as it did. -/
def fnExactWeightOfUptoRow : OpenClaim := { program := "ytffnpignkimkhaa", sum := "6a221320f1e7d4adf8283d93814303b00c2140fc734653584ca47085ddf62e7f", func := "loop.example/setshadows/laws.FnExactWeightOf", spec := "fnExactWeightOf", inPlace := ["slices.overlaps[loop.example/setshadows/impl.set]"], unfollowed := true, recurses := true, apart := false, narrowed := true }
def FnExactWeightOfUptoSaid : Prop := fnExactWeightOfUptoRow.holds Try.pinned (OpenSpec.upto fnExactWeightOfSpec)

/-- 'laws.FnExactChainPairs', WHERE WHAT IT READS IS OF BULK AT MOST 1048576: true; the input reads as it did. -/
def fnExactChainPairsUptoRow : OpenClaim := { program := "ytffnpignkimkhaa", sum := "6a221320f1e7d4adf8283d93814303b00c2140fc734653584ca47085ddf62e7f", func := "loop.example/setshadows/laws.FnExactChainPairs", spec := "fnExactChainPairs", apart := false, narrowed := true }
def FnExactChainPairsUptoSaid : Prop := fnExactChainPairsUptoRow.holds Try.pinned (OpenSpec.upto fnExactChainPairsSpec)

/-- 'laws.FnExactChainWide', WHERE WHAT IT READS IS OF BULK AT MOST 1048576: true; the input reads as it did. -/
def fnExactChainWideUptoRow : OpenClaim := { program := "ytffnpignkimkhaa", sum := "6a221320f1e7d4adf8283d93814303b00c2140fc734653584ca47085ddf62e7f", func := "loop.example/setshadows/laws.FnExactChainWide", spec := "fnExactChainWide", inPlace := ["slices.overlaps[loop.example/setshadows/impl.set]"], unfollowed := true, recurses := true, apart := false, narrowed := true }
def FnExactChainWideUptoSaid : Prop := fnExactChainWideUptoRow.holds Try.pinned (OpenSpec.upto fnExactChainWideSpec)

/-- 'laws.FnExactChainLong', WHERE WHAT IT READS IS OF BULK AT MOST 1048576: true; the input reads as it did. -/
def fnExactChainLongUptoRow : OpenClaim := { program := "ytffnpignkimkhaa", sum := "6a221320f1e7d4adf8283d93814303b00c2140fc734653584ca47085ddf62e7f", func := "loop.example/setshadows/laws.FnExactChainLong", spec := "fnExactChainLong", inPlace := ["slices.overlaps[loop.example/setshadows/impl.set]"], unfollowed := true, recurses := true, apart := false, narrowed := true }
def FnExactChainLongUptoSaid : Prop := fnExactChainLongUptoRow.holds Try.pinned (OpenSpec.upto fnExactChainLongSpec)

end Rows
end Go.Proofs.Ytffnpignkimkhaa
