/-
  No cell of these rows narrows 'for every input' (looked for: loops, veiled, ifaces, maps, wideKeys, modest, calm, conditions, laid).
  DERIVED. THE GIVEN ROWS OF THIS SEAT. 8 by the template 'for every input the law returns true; each argument reads behind the call as it read before'; 0 by the template 'total and deterministic' (their statements: YtcejbebepjkpnaaTotals.lean).
  GIVEN WITH THE SEED: the statements are not yours to turn. If you find one false, say at which input.
  Laid BY PROGRAM, IN A SANDBOX (cutbox-rows.mjs): the forced cells as the released guide's own fill.sh prints them over the translation c2411866386bb5d3… (all of the seat's roots in one cut). By AI agents, Wed Nov 11 2026. No macro, syntax, notation, axiom, sorry.
-/
import Derived.Test.YtcejbebepjkpnaaChecked
import GoSem.Claim
import GoSem.ClaimJoined
import GoSem.ClaimMapViews
import Derived.JoinedTies
import Derived.KernelRfl
namespace Go.Proofs.Ytcejbebepjkpnaa
/- THE CELL 'sum', in the pinned program and in every row, IS THE sha256 OF THE DUMP (.gsa) THAT YtcejbebepjkpnaaProg.lean LOADS. Nothing in Lean hashes anything: it is a label: what it is worth is what the hold of that sum in a sandbox is worth. -/
noncomputable def Try.pinned : Pinned := { name := "ytcejbebepjkpnaa", sum := "c2411866386bb5d3d1153e79629f7082308e4349f823c119b49ae7fc8e255e68", checked := Try.checked }
namespace Rows
def none {H : Type} : Left H := { results := [], args := [] }

/-- 'laws.FnLeast': WHATEVER THE INPUT: true; the input reads as it did. -/
def fnLeastSpec : ChangeSpec := { name := "fnLeast", fn := fun _ => fun
  | [d] => { results := [.lit (.bool true)], args := [d] }
  | _ => none }
def fnLeastRow : OpenClaim := { program := "ytcejbebepjkpnaa", sum := "c2411866386bb5d3d1153e79629f7082308e4349f823c119b49ae7fc8e255e68", func := "loop.example/setshadows/laws.FnLeast", spec := "fnLeast", apart := false }
def FnLeastSaid : Prop := fnLeastRow.holds Try.pinned (OpenSpec.ofChange fnLeastSpec)

/-- ITS FALSE NEIGHBOUR: 'it returns false'. Refute it at one input. -/
def fnLeastWrong : ChangeSpec := { name := "fnLeast", fn := fun _ => fun
  | [d] => { results := [.lit (.bool false)], args := [d] }
  | _ => none }
def FnLeastWrongFalsely : Prop := fnLeastRow.holds Try.pinned (OpenSpec.ofChange fnLeastWrong)

/-- 'laws.FnExactSetUnrank': WHATEVER THE INPUT: true; the input reads as it did. -/
def fnExactSetUnrankSpec : ChangeSpec := { name := "fnExactSetUnrank", fn := fun _ => fun
  | [d1, d2, d3] => { results := [.lit (.bool true)], args := [d1, d2, d3] }
  | _ => none }
def fnExactSetUnrankRow : OpenClaim := { program := "ytcejbebepjkpnaa", sum := "c2411866386bb5d3d1153e79629f7082308e4349f823c119b49ae7fc8e255e68", func := "loop.example/setshadows/laws.FnExactSetUnrank", spec := "fnExactSetUnrank", apart := false }
def FnExactSetUnrankSaid : Prop := fnExactSetUnrankRow.holds Try.pinned (OpenSpec.ofChange fnExactSetUnrankSpec)

/-- ITS FALSE NEIGHBOUR: 'it returns false'. Refute it at one input. -/
def fnExactSetUnrankWrong : ChangeSpec := { name := "fnExactSetUnrank", fn := fun _ => fun
  | [d1, d2, d3] => { results := [.lit (.bool false)], args := [d1, d2, d3] }
  | _ => none }
def FnExactSetUnrankWrongFalsely : Prop := fnExactSetUnrankRow.holds Try.pinned (OpenSpec.ofChange fnExactSetUnrankWrong)

/-- 'laws.FnExactFamilyLevel': WHATEVER THE INPUT: true; the input reads as it did. -/
def fnExactFamilyLevelSpec : ChangeSpec := { name := "fnExactFamilyLevel", fn := fun _ => fun
  | [d1, d2] => { results := [.lit (.bool true)], args := [d1, d2] }
  | _ => none }
def fnExactFamilyLevelRow : OpenClaim := { program := "ytcejbebepjkpnaa", sum := "c2411866386bb5d3d1153e79629f7082308e4349f823c119b49ae7fc8e255e68", func := "loop.example/setshadows/laws.FnExactFamilyLevel", spec := "fnExactFamilyLevel", inPlace := ["slices.overlaps[loop.example/setshadows/impl.set]"], unfollowed := true, recurses := true, apart := false }
def FnExactFamilyLevelSaid : Prop := fnExactFamilyLevelRow.holds Try.pinned (OpenSpec.ofChange fnExactFamilyLevelSpec)

/-- ITS FALSE NEIGHBOUR: 'it returns false'. Refute it at one input. -/
def fnExactFamilyLevelWrong : ChangeSpec := { name := "fnExactFamilyLevel", fn := fun _ => fun
  | [d1, d2] => { results := [.lit (.bool false)], args := [d1, d2] }
  | _ => none }
def FnExactFamilyLevelWrongFalsely : Prop := fnExactFamilyLevelRow.holds Try.pinned (OpenSpec.ofChange fnExactFamilyLevelWrong)

/-- 'laws.FnExactShadowFirst': WHATEVER THE INPUT: true; the input reads as it did. -/
def fnExactShadowFirstSpec : ChangeSpec := { name := "fnExactShadowFirst", fn := fun _ => fun
  | [d1, d2, d3] => { results := [.lit (.bool true)], args := [d1, d2, d3] }
  | _ => none }
def fnExactShadowFirstRow : OpenClaim := { program := "ytcejbebepjkpnaa", sum := "c2411866386bb5d3d1153e79629f7082308e4349f823c119b49ae7fc8e255e68", func := "loop.example/setshadows/laws.FnExactShadowFirst", spec := "fnExactShadowFirst", inPlace := ["slices.overlaps[loop.example/setshadows/impl.set]"], unfollowed := true, recurses := true, apart := false }
def FnExactShadowFirstSaid : Prop := fnExactShadowFirstRow.holds Try.pinned (OpenSpec.ofChange fnExactShadowFirstSpec)

/-- ITS FALSE NEIGHBOUR: 'it returns false'. Refute it at one input. -/
def fnExactShadowFirstWrong : ChangeSpec := { name := "fnExactShadowFirst", fn := fun _ => fun
  | [d1, d2, d3] => { results := [.lit (.bool false)], args := [d1, d2, d3] }
  | _ => none }
def FnExactShadowFirstWrongFalsely : Prop := fnExactShadowFirstRow.holds Try.pinned (OpenSpec.ofChange fnExactShadowFirstWrong)

/-- 'laws.FnExactShadowLeast': WHATEVER THE INPUT: true; the input reads as it did. -/
def fnExactShadowLeastSpec : ChangeSpec := { name := "fnExactShadowLeast", fn := fun _ => fun
  | [d1, d2] => { results := [.lit (.bool true)], args := [d1, d2] }
  | _ => none }
def fnExactShadowLeastRow : OpenClaim := { program := "ytcejbebepjkpnaa", sum := "c2411866386bb5d3d1153e79629f7082308e4349f823c119b49ae7fc8e255e68", func := "loop.example/setshadows/laws.FnExactShadowLeast", spec := "fnExactShadowLeast", apart := false }
def FnExactShadowLeastSaid : Prop := fnExactShadowLeastRow.holds Try.pinned (OpenSpec.ofChange fnExactShadowLeastSpec)

/-- ITS FALSE NEIGHBOUR: 'it returns false'. Refute it at one input. -/
def fnExactShadowLeastWrong : ChangeSpec := { name := "fnExactShadowLeast", fn := fun _ => fun
  | [d1, d2] => { results := [.lit (.bool false)], args := [d1, d2] }
  | _ => none }
def FnExactShadowLeastWrongFalsely : Prop := fnExactShadowLeastRow.holds Try.pinned (OpenSpec.ofChange fnExactShadowLeastWrong)

/-- 'laws.FnExactShadowEven': WHATEVER THE INPUT: true; the input reads as it did. -/
def fnExactShadowEvenSpec : ChangeSpec := { name := "fnExactShadowEven", fn := fun _ => fun
  | [d1, d2] => { results := [.lit (.bool true)], args := [d1, d2] }
  | _ => none }
def fnExactShadowEvenRow : OpenClaim := { program := "ytcejbebepjkpnaa", sum := "c2411866386bb5d3d1153e79629f7082308e4349f823c119b49ae7fc8e255e68", func := "loop.example/setshadows/laws.FnExactShadowEven", spec := "fnExactShadowEven", inPlace := ["slices.overlaps[loop.example/setshadows/impl.set]"], unfollowed := true, recurses := true, apart := false }
def FnExactShadowEvenSaid : Prop := fnExactShadowEvenRow.holds Try.pinned (OpenSpec.ofChange fnExactShadowEvenSpec)

/-- ITS FALSE NEIGHBOUR: 'it returns false'. Refute it at one input. -/
def fnExactShadowEvenWrong : ChangeSpec := { name := "fnExactShadowEven", fn := fun _ => fun
  | [d1, d2] => { results := [.lit (.bool false)], args := [d1, d2] }
  | _ => none }
def FnExactShadowEvenWrongFalsely : Prop := fnExactShadowEvenRow.holds Try.pinned (OpenSpec.ofChange fnExactShadowEvenWrong)

/-- 'laws.FnExactShadowProfile': WHATEVER THE INPUT: true; the input reads as it did. -/
def fnExactShadowProfileSpec : ChangeSpec := { name := "fnExactShadowProfile", fn := fun _ => fun
  | [d1, d2] => { results := [.lit (.bool true)], args := [d1, d2] }
  | _ => none }
def fnExactShadowProfileRow : OpenClaim := { program := "ytcejbebepjkpnaa", sum := "c2411866386bb5d3d1153e79629f7082308e4349f823c119b49ae7fc8e255e68", func := "loop.example/setshadows/laws.FnExactShadowProfile", spec := "fnExactShadowProfile", apart := false }
def FnExactShadowProfileSaid : Prop := fnExactShadowProfileRow.holds Try.pinned (OpenSpec.ofChange fnExactShadowProfileSpec)

/-- ITS FALSE NEIGHBOUR: 'it returns false'. Refute it at one input. -/
def fnExactShadowProfileWrong : ChangeSpec := { name := "fnExactShadowProfile", fn := fun _ => fun
  | [d1, d2] => { results := [.lit (.bool false)], args := [d1, d2] }
  | _ => none }
def FnExactShadowProfileWrongFalsely : Prop := fnExactShadowProfileRow.holds Try.pinned (OpenSpec.ofChange fnExactShadowProfileWrong)

/-- 'laws.FnExactShadowDown': WHATEVER THE INPUT: true; the input reads as it did. -/
def fnExactShadowDownSpec : ChangeSpec := { name := "fnExactShadowDown", fn := fun _ => fun
  | [d1, d2] => { results := [.lit (.bool true)], args := [d1, d2] }
  | _ => none }
def fnExactShadowDownRow : OpenClaim := { program := "ytcejbebepjkpnaa", sum := "c2411866386bb5d3d1153e79629f7082308e4349f823c119b49ae7fc8e255e68", func := "loop.example/setshadows/laws.FnExactShadowDown", spec := "fnExactShadowDown", inPlace := ["slices.overlaps[loop.example/setshadows/impl.set]"], unfollowed := true, recurses := true, apart := false }
def FnExactShadowDownSaid : Prop := fnExactShadowDownRow.holds Try.pinned (OpenSpec.ofChange fnExactShadowDownSpec)

/-- ITS FALSE NEIGHBOUR: 'it returns false'. Refute it at one input. -/
def fnExactShadowDownWrong : ChangeSpec := { name := "fnExactShadowDown", fn := fun _ => fun
  | [d1, d2] => { results := [.lit (.bool false)], args := [d1, d2] }
  | _ => none }
def FnExactShadowDownWrongFalsely : Prop := fnExactShadowDownRow.holds Try.pinned (OpenSpec.ofChange fnExactShadowDownWrong)

/- THE SECOND FORM. 'bulk': how many values and letters a reading holds, each counted each time it is reached (what is shared counts as often as it is met; a slice's spare places count too). A statement '..UptoSaid' is the law's where the arguments, and the package variables that the reading takes, are together of bulk at most 1048576: NARROWER than '..Said'. Prove '..Said' where nothing that the law and all that it calls make is longer than what came in: it says more and counts as full. Else prove '..UptoSaid'. A law counts once. -/
mutual
def uptoBulk {H : Type} : DataW H → Nat
  | .lit (.string bytes) => bytes.length + 1
  | .lit _ => 1
  | .nil => 1
  | .ptr d => uptoBulk d + 1
  | .slice elems spare => uptoBulkAll elems + uptoBulkAll spare + 1
  | .agg parts => uptoBulkAll parts + 1
  | .iface _ d => uptoBulk d + 1
  | .map entries => uptoBulkEntries entries + 1
  | .held _ => 1
def uptoBulkAll {H : Type} : List (DataW H) → Nat
  | [] => 0
  | d :: r => uptoBulk d + uptoBulkAll r
def uptoBulkEntries {H : Type} : List (Lit × DataW H) → Nat
  | [] => 0
  | x :: r => uptoBulkEntry x + uptoBulkEntries r
def uptoBulkEntry {H : Type} : Lit × DataW H → Nat
  | (.string bytes, d) => bytes.length + uptoBulk d + 1
  | (_, d) => uptoBulk d + 1
 end
def uptoSmall : (H : Type) → List (DataW H) → Bool := fun _ ds => decide (uptoBulkAll ds ≤ 1048576)
def OpenSpec.upto (s : _root_.Go.ChangeSpec) : _root_.Go.OpenSpec := { _root_.Go.OpenSpec.ofChange s with cond := some uptoSmall }

/-- 'laws.FnLeast', WHERE WHAT IT READS IS OF BULK AT MOST 1048576: true; the input reads as it did. -/
def fnLeastUptoRow : OpenClaim := { program := "ytcejbebepjkpnaa", sum := "c2411866386bb5d3d1153e79629f7082308e4349f823c119b49ae7fc8e255e68", func := "loop.example/setshadows/laws.FnLeast", spec := "fnLeast", apart := false, narrowed := true }
def FnLeastUptoSaid : Prop := fnLeastUptoRow.holds Try.pinned (OpenSpec.upto fnLeastSpec)

/-- 'laws.FnExactSetUnrank', WHERE WHAT IT READS IS OF BULK AT MOST 1048576: true; the input reads as it did. -/
def fnExactSetUnrankUptoRow : OpenClaim := { program := "ytcejbebepjkpnaa", sum := "c2411866386bb5d3d1153e79629f7082308e4349f823c119b49ae7fc8e255e68", func := "loop.example/setshadows/laws.FnExactSetUnrank", spec := "fnExactSetUnrank", apart := false, narrowed := true }
def FnExactSetUnrankUptoSaid : Prop := fnExactSetUnrankUptoRow.holds Try.pinned (OpenSpec.upto fnExactSetUnrankSpec)

/-- 'laws.FnExactFamilyLevel', WHERE WHAT IT READS IS OF BULK AT MOST 1048576: true; the input reads as it did. -/
def fnExactFamilyLevelUptoRow : OpenClaim := { program := "ytcejbebepjkpnaa", sum := "c2411866386bb5d3d1153e79629f7082308e4349f823c119b49ae7fc8e255e68", func := "loop.example/setshadows/laws.FnExactFamilyLevel", spec := "fnExactFamilyLevel", inPlace := ["slices.overlaps[loop.example/setshadows/impl.set]"], unfollowed := true, recurses := true, apart := false, narrowed := true }
def FnExactFamilyLevelUptoSaid : Prop := fnExactFamilyLevelUptoRow.holds Try.pinned (OpenSpec.upto fnExactFamilyLevelSpec)

/-- 'laws.FnExactShadowFirst', WHERE WHAT IT READS IS OF BULK AT MOST 1048576: true; the input reads as it did. -/
def fnExactShadowFirstUptoRow : OpenClaim := { program := "ytcejbebepjkpnaa", sum := "c2411866386bb5d3d1153e79629f7082308e4349f823c119b49ae7fc8e255e68", func := "loop.example/setshadows/laws.FnExactShadowFirst", spec := "fnExactShadowFirst", inPlace := ["slices.overlaps[loop.example/setshadows/impl.set]"], unfollowed := true, recurses := true, apart := false, narrowed := true }
def FnExactShadowFirstUptoSaid : Prop := fnExactShadowFirstUptoRow.holds Try.pinned (OpenSpec.upto fnExactShadowFirstSpec)

/-- 'laws.FnExactShadowLeast', WHERE WHAT IT READS IS OF BULK AT MOST 1048576: true; the input reads as it did. -/
def fnExactShadowLeastUptoRow : OpenClaim := { program := "ytcejbebepjkpnaa", sum := "c2411866386bb5d3d1153e79629f7082308e4349f823c119b49ae7fc8e255e68", func := "loop.example/setshadows/laws.FnExactShadowLeast", spec := "fnExactShadowLeast", apart := false, narrowed := true }
def FnExactShadowLeastUptoSaid : Prop := fnExactShadowLeastUptoRow.holds Try.pinned (OpenSpec.upto fnExactShadowLeastSpec)

/-- 'laws.FnExactShadowEven', WHERE WHAT IT READS IS OF BULK AT MOST 1048576: true; the input reads as it did. -/
def fnExactShadowEvenUptoRow : OpenClaim := { program := "ytcejbebepjkpnaa", sum := "c2411866386bb5d3d1153e79629f7082308e4349f823c119b49ae7fc8e255e68", func := "loop.example/setshadows/laws.FnExactShadowEven", spec := "fnExactShadowEven", inPlace := ["slices.overlaps[loop.example/setshadows/impl.set]"], unfollowed := true, recurses := true, apart := false, narrowed := true }
def FnExactShadowEvenUptoSaid : Prop := fnExactShadowEvenUptoRow.holds Try.pinned (OpenSpec.upto fnExactShadowEvenSpec)

/-- 'laws.FnExactShadowProfile', WHERE WHAT IT READS IS OF BULK AT MOST 1048576: true; the input reads as it did. -/
def fnExactShadowProfileUptoRow : OpenClaim := { program := "ytcejbebepjkpnaa", sum := "c2411866386bb5d3d1153e79629f7082308e4349f823c119b49ae7fc8e255e68", func := "loop.example/setshadows/laws.FnExactShadowProfile", spec := "fnExactShadowProfile", apart := false, narrowed := true }
def FnExactShadowProfileUptoSaid : Prop := fnExactShadowProfileUptoRow.holds Try.pinned (OpenSpec.upto fnExactShadowProfileSpec)

/-- 'laws.FnExactShadowDown', WHERE WHAT IT READS IS OF BULK AT MOST 1048576: true; the input reads as it did. -/
def fnExactShadowDownUptoRow : OpenClaim := { program := "ytcejbebepjkpnaa", sum := "c2411866386bb5d3d1153e79629f7082308e4349f823c119b49ae7fc8e255e68", func := "loop.example/setshadows/laws.FnExactShadowDown", spec := "fnExactShadowDown", inPlace := ["slices.overlaps[loop.example/setshadows/impl.set]"], unfollowed := true, recurses := true, apart := false, narrowed := true }
def FnExactShadowDownUptoSaid : Prop := fnExactShadowDownUptoRow.holds Try.pinned (OpenSpec.upto fnExactShadowDownSpec)

end Rows
end Go.Proofs.Ytcejbebepjkpnaa
