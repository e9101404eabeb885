/-
  No cell of these rows narrows 'for every input' (looked for: loops, veiled, ifaces, maps, wideKeys, modest, calm, conditions, laid).
  DERIVED. THE GIVEN ROWS OF THIS SEAT. 4 by the template 'for every input the law returns true; each argument reads behind the call as it read before'; 0 by the template 'total and deterministic' (their statements: YtgkbaenjniapiaaTotals.lean).
  GIVEN WITH THE SEED: the statements are not yours to turn. If you find one false, say at which input.
  Laid BY PROGRAM, IN A SANDBOX (cutbox-rows.mjs): the forced cells as the released guide's own fill.sh prints them over the translation 1c9d03e33030d5fa… (all of the seat's roots in one cut). By AI agents, Wed Nov 11 2026. No macro, syntax, notation, axiom, sorry.
-/
import Derived.Test.YtgkbaenjniapiaaChecked
import GoSem.Claim
import GoSem.ClaimJoined
import GoSem.ClaimMapViews
import Derived.JoinedTies
import Derived.KernelRfl
namespace Go.Proofs.Ytgkbaenjniapiaa
/- THE CELL 'sum', in the pinned program and in every row, IS THE sha256 OF THE DUMP (.gsa) THAT YtgkbaenjniapiaaProg.lean LOADS. Nothing in Lean hashes anything: it is a label: what it is worth is what the hold of that sum in a sandbox is worth. -/
noncomputable def Try.pinned : Pinned := { name := "ytgkbaenjniapiaa", sum := "1c9d03e33030d5fa5771fdf18675cca8e64ae7f414e318cf08ffe21e50d2ee50", checked := Try.checked }
namespace Rows
def none {H : Type} : Left H := { results := [], args := [] }

/-- 'laws.FnGrow': WHATEVER THE INPUT: true; the input reads as it did. -/
def fnGrowSpec : ChangeSpec := { name := "fnGrow", fn := fun _ => fun
  | [d] => { results := [.lit (.bool true)], args := [d] }
  | _ => none }
def fnGrowRow : OpenClaim := { program := "ytgkbaenjniapiaa", sum := "1c9d03e33030d5fa5771fdf18675cca8e64ae7f414e318cf08ffe21e50d2ee50", func := "loop.example/setshadows/laws.FnGrow", spec := "fnGrow", inPlace := ["slices.overlaps[loop.example/setshadows/impl.set]"], unfollowed := true, recurses := true, apart := false }
def FnGrowSaid : Prop := fnGrowRow.holds Try.pinned (OpenSpec.ofChange fnGrowSpec)

/-- ITS FALSE NEIGHBOUR: 'it returns false'. Refute it at one input. -/
def fnGrowWrong : ChangeSpec := { name := "fnGrow", fn := fun _ => fun
  | [d] => { results := [.lit (.bool false)], args := [d] }
  | _ => none }
def FnGrowWrongFalsely : Prop := fnGrowRow.holds Try.pinned (OpenSpec.ofChange fnGrowWrong)

/-- 'laws.FnFlower': WHATEVER THE INPUT: true; the input reads as it did. -/
def fnFlowerSpec : ChangeSpec := { name := "fnFlower", fn := fun _ => fun
  | [d] => { results := [.lit (.bool true)], args := [d] }
  | _ => none }
def fnFlowerRow : OpenClaim := { program := "ytgkbaenjniapiaa", sum := "1c9d03e33030d5fa5771fdf18675cca8e64ae7f414e318cf08ffe21e50d2ee50", func := "loop.example/setshadows/laws.FnFlower", spec := "fnFlower", inPlace := ["slices.overlaps[loop.example/setshadows/impl.set]"], unfollowed := true, recurses := true, apart := false }
def FnFlowerSaid : Prop := fnFlowerRow.holds Try.pinned (OpenSpec.ofChange fnFlowerSpec)

/-- ITS FALSE NEIGHBOUR: 'it returns false'. Refute it at one input. -/
def fnFlowerWrong : ChangeSpec := { name := "fnFlower", fn := fun _ => fun
  | [d] => { results := [.lit (.bool false)], args := [d] }
  | _ => none }
def FnFlowerWrongFalsely : Prop := fnFlowerRow.holds Try.pinned (OpenSpec.ofChange fnFlowerWrong)

/-- 'laws.FnWide': WHATEVER THE INPUT: true; the input reads as it did. -/
def fnWideSpec : ChangeSpec := { name := "fnWide", fn := fun _ => fun
  | [d] => { results := [.lit (.bool true)], args := [d] }
  | _ => none }
def fnWideRow : OpenClaim := { program := "ytgkbaenjniapiaa", sum := "1c9d03e33030d5fa5771fdf18675cca8e64ae7f414e318cf08ffe21e50d2ee50", func := "loop.example/setshadows/laws.FnWide", spec := "fnWide", inPlace := ["slices.overlaps[loop.example/setshadows/impl.set]"], unfollowed := true, recurses := true, apart := false }
def FnWideSaid : Prop := fnWideRow.holds Try.pinned (OpenSpec.ofChange fnWideSpec)

/-- ITS FALSE NEIGHBOUR: 'it returns false'. Refute it at one input. -/
def fnWideWrong : ChangeSpec := { name := "fnWide", fn := fun _ => fun
  | [d] => { results := [.lit (.bool false)], args := [d] }
  | _ => none }
def FnWideWrongFalsely : Prop := fnWideRow.holds Try.pinned (OpenSpec.ofChange fnWideWrong)

/-- 'laws.FnLong': WHATEVER THE INPUT: true; the input reads as it did. -/
def fnLongSpec : ChangeSpec := { name := "fnLong", fn := fun _ => fun
  | [d] => { results := [.lit (.bool true)], args := [d] }
  | _ => none }
def fnLongRow : OpenClaim := { program := "ytgkbaenjniapiaa", sum := "1c9d03e33030d5fa5771fdf18675cca8e64ae7f414e318cf08ffe21e50d2ee50", func := "loop.example/setshadows/laws.FnLong", spec := "fnLong", inPlace := ["slices.overlaps[loop.example/setshadows/impl.set]"], unfollowed := true, recurses := true, apart := false }
def FnLongSaid : Prop := fnLongRow.holds Try.pinned (OpenSpec.ofChange fnLongSpec)

/-- ITS FALSE NEIGHBOUR: 'it returns false'. Refute it at one input. -/
def fnLongWrong : ChangeSpec := { name := "fnLong", fn := fun _ => fun
  | [d] => { results := [.lit (.bool false)], args := [d] }
  | _ => none }
def FnLongWrongFalsely : Prop := fnLongRow.holds Try.pinned (OpenSpec.ofChange fnLongWrong)

/- THE SECOND FORM. 'bulk': how many values and letters a reading holds, each counted each time it is reached (what is shared counts as often as it is met; a slice's spare places count too). A statement '..UptoSaid' is the law's where the arguments, and the package variables that the reading takes, are together of bulk at most 1048576: NARROWER than '..Said'. Prove '..Said' where nothing that the law and all that it calls make is longer than what came in: it says more and counts as full. Else prove '..UptoSaid'. A law counts once. -/
mutual
def uptoBulk {H : Type} : DataW H → Nat
  | .lit (.string bytes) => bytes.length + 1
  | .lit _ => 1
  | .nil => 1
  | .ptr d => uptoBulk d + 1
  | .slice elems spare => uptoBulkAll elems + uptoBulkAll spare + 1
  | .agg parts => uptoBulkAll parts + 1
  | .iface _ d => uptoBulk d + 1
  | .map entries => uptoBulkEntries entries + 1
  | .held _ => 1
def uptoBulkAll {H : Type} : List (DataW H) → Nat
  | [] => 0
  | d :: r => uptoBulk d + uptoBulkAll r
def uptoBulkEntries {H : Type} : List (Lit × DataW H) → Nat
  | [] => 0
  | x :: r => uptoBulkEntry x + uptoBulkEntries r
def uptoBulkEntry {H : Type} : Lit × DataW H → Nat
  | (.string bytes, d) => bytes.length + uptoBulk d + 1
  | (_, d) => uptoBulk d + 1
 end
def uptoSmall : (H : Type) → List (DataW H) → Bool := fun _ ds => decide (uptoBulkAll ds ≤ 1048576)
def OpenSpec.upto (s : _root_.Go.ChangeSpec) : _root_.Go.OpenSpec := { _root_.Go.OpenSpec.ofChange s with cond := some uptoSmall }

/-- 'laws.FnGrow', WHERE WHAT IT READS IS OF BULK AT MOST 1048576: true; the input reads as it did. -/
def fnGrowUptoRow : OpenClaim := { program := "ytgkbaenjniapiaa", sum := "1c9d03e33030d5fa5771fdf18675cca8e64ae7f414e318cf08ffe21e50d2ee50", func := "loop.example/setshadows/laws.FnGrow", spec := "fnGrow", inPlace := ["slices.overlaps[loop.example/setshadows/impl.set]"], unfollowed := true, recurses := true, apart := false, narrowed := true }
def FnGrowUptoSaid : Prop := fnGrowUptoRow.holds Try.pinned (OpenSpec.upto fnGrowSpec)

/-- 'laws.FnFlower', WHERE WHAT IT READS IS OF BULK AT MOST 1048576: true; the input reads as it did. -/
def fnFlowerUptoRow : OpenClaim := { program := "ytgkbaenjniapiaa", sum := "1c9d03e33030d5fa5771fdf18675cca8e64ae7f414e318cf08ffe21e50d2ee50", func := "loop.example/setshadows/laws.FnFlower", spec := "fnFlower", inPlace := ["slices.overlaps[loop.example/setshadows/impl.set]"], unfollowed := true, recurses := true, apart := false, narrowed := true }
def FnFlowerUptoSaid : Prop := fnFlowerUptoRow.holds Try.pinned (OpenSpec.upto fnFlowerSpec)

/-- 'laws.FnWide', WHERE WHAT IT READS IS OF BULK AT MOST 1048576: true; the input reads as it did. -/
def fnWideUptoRow : OpenClaim := { program := "ytgkbaenjniapiaa", sum := "1c9d03e33030d5fa5771fdf18675cca8e64ae7f414e318cf08ffe21e50d2ee50", func := "loop.example/setshadows/laws.FnWide", spec := "fnWide", inPlace := ["slices.overlaps[loop.example/setshadows/impl.set]"], unfollowed := true, recurses := true, apart := false, narrowed := true }
def FnWideUptoSaid : Prop := fnWideUptoRow.holds Try.pinned (OpenSpec.upto fnWideSpec)

/-- 'laws.FnLong', WHERE WHAT IT READS IS OF BULK AT MOST 1048576: true; the input reads as it did. -/
def fnLongUptoRow : OpenClaim := { program := "ytgkbaenjniapiaa", sum := "1c9d03e33030d5fa5771fdf18675cca8e64ae7f414e318cf08ffe21e50d2ee50", func := "loop.example/setshadows/laws.FnLong", spec := "fnLong", inPlace := ["slices.overlaps[loop.example/setshadows/impl.set]"], unfollowed := true, recurses := true, apart := false, narrowed := true }
def FnLongUptoSaid : Prop := fnLongUptoRow.holds Try.pinned (OpenSpec.upto fnLongSpec)

end Rows
end Go.Proofs.Ytgkbaenjniapiaa
