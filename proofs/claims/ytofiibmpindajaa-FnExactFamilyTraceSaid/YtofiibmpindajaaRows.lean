/-
  No cell of these rows narrows 'for every input' (looked for: loops, veiled, ifaces, maps, wideKeys, modest, calm, conditions, laid).
  DERIVED. THE GIVEN ROWS OF THIS SEAT. 5 by the template 'for every input the law returns true; each argument reads behind the call as it read before'; 0 by the template 'total and deterministic' (their statements: YtofiibmpindajaaTotals.lean).
  GIVEN WITH THE SEED: the statements are not yours to turn. If you find one false, say at which input.
  Laid BY PROGRAM, IN A SANDBOX (cutbox-rows.mjs): the forced cells as the released guide's own fill.sh prints them over the translation dab1c2ff8a5d814b… (all of the seat's roots in one cut). By AI agents, Wed Nov 11 2026. No macro, syntax, notation, axiom, sorry.
-/
import Derived.Test.YtofiibmpindajaaChecked
import GoSem.Claim
import GoSem.ClaimJoined
import GoSem.ClaimMapViews
import Derived.JoinedTies
import Derived.KernelRfl
namespace Go.Proofs.Ytofiibmpindajaa
/- THE CELL 'sum', in the pinned program and in every row, IS THE sha256 OF THE DUMP (.gsa) THAT YtofiibmpindajaaProg.lean LOADS. Nothing in Lean hashes anything: it is a label: what it is worth is what the hold of that sum in a sandbox is worth. -/
noncomputable def Try.pinned : Pinned := { name := "ytofiibmpindajaa", sum := "dab1c2ff8a5d814ba54b8a753d013bad9e2de5ee6cb0b3d31acb4c709b162e4a", checked := Try.checked }
namespace Rows
def none {H : Type} : Left H := { results := [], args := [] }

/-- 'laws.FnTrace': WHATEVER THE INPUT: true; the input reads as it did. -/
def fnTraceSpec : ChangeSpec := { name := "fnTrace", fn := fun _ => fun
  | [d] => { results := [.lit (.bool true)], args := [d] }
  | _ => none }
def fnTraceRow : OpenClaim := { program := "ytofiibmpindajaa", sum := "dab1c2ff8a5d814ba54b8a753d013bad9e2de5ee6cb0b3d31acb4c709b162e4a", func := "loop.example/setshadows/laws.FnTrace", spec := "fnTrace", inPlace := ["slices.overlaps[loop.example/setshadows/impl.set]"], unfollowed := true, recurses := true, apart := false }
def FnTraceSaid : Prop := fnTraceRow.holds Try.pinned (OpenSpec.ofChange fnTraceSpec)

/-- ITS FALSE NEIGHBOUR: 'it returns false'. Refute it at one input. -/
def fnTraceWrong : ChangeSpec := { name := "fnTrace", fn := fun _ => fun
  | [d] => { results := [.lit (.bool false)], args := [d] }
  | _ => none }
def FnTraceWrongFalsely : Prop := fnTraceRow.holds Try.pinned (OpenSpec.ofChange fnTraceWrong)

/-- 'laws.FnTraceBound': WHATEVER THE INPUT: true; the input reads as it did. -/
def fnTraceBoundSpec : ChangeSpec := { name := "fnTraceBound", fn := fun _ => fun
  | [d] => { results := [.lit (.bool true)], args := [d] }
  | _ => none }
def fnTraceBoundRow : OpenClaim := { program := "ytofiibmpindajaa", sum := "dab1c2ff8a5d814ba54b8a753d013bad9e2de5ee6cb0b3d31acb4c709b162e4a", func := "loop.example/setshadows/laws.FnTraceBound", spec := "fnTraceBound", inPlace := ["slices.overlaps[loop.example/setshadows/impl.set]"], unfollowed := true, recurses := true, apart := false }
def FnTraceBoundSaid : Prop := fnTraceBoundRow.holds Try.pinned (OpenSpec.ofChange fnTraceBoundSpec)

/-- ITS FALSE NEIGHBOUR: 'it returns false'. Refute it at one input. -/
def fnTraceBoundWrong : ChangeSpec := { name := "fnTraceBound", fn := fun _ => fun
  | [d] => { results := [.lit (.bool false)], args := [d] }
  | _ => none }
def FnTraceBoundWrongFalsely : Prop := fnTraceBoundRow.holds Try.pinned (OpenSpec.ofChange fnTraceBoundWrong)

/-- 'laws.FnExactFamilyTrace': WHATEVER THE INPUT: true; the input reads as it did. -/
def fnExactFamilyTraceSpec : ChangeSpec := { name := "fnExactFamilyTrace", fn := fun _ => fun
  | [d1, d2, d3] => { results := [.lit (.bool true)], args := [d1, d2, d3] }
  | _ => none }
def fnExactFamilyTraceRow : OpenClaim := { program := "ytofiibmpindajaa", sum := "dab1c2ff8a5d814ba54b8a753d013bad9e2de5ee6cb0b3d31acb4c709b162e4a", func := "loop.example/setshadows/laws.FnExactFamilyTrace", spec := "fnExactFamilyTrace", inPlace := ["slices.overlaps[loop.example/setshadows/impl.set]"], unfollowed := true, recurses := true, apart := false }
def FnExactFamilyTraceSaid : Prop := fnExactFamilyTraceRow.holds Try.pinned (OpenSpec.ofChange fnExactFamilyTraceSpec)

/-- ITS FALSE NEIGHBOUR: 'it returns false'. Refute it at one input. -/
def fnExactFamilyTraceWrong : ChangeSpec := { name := "fnExactFamilyTrace", fn := fun _ => fun
  | [d1, d2, d3] => { results := [.lit (.bool false)], args := [d1, d2, d3] }
  | _ => none }
def FnExactFamilyTraceWrongFalsely : Prop := fnExactFamilyTraceRow.holds Try.pinned (OpenSpec.ofChange fnExactFamilyTraceWrong)

/-- 'laws.FnExactTraceBound': WHATEVER THE INPUT: true; the input reads as it did. -/
def fnExactTraceBoundSpec : ChangeSpec := { name := "fnExactTraceBound", fn := fun _ => fun
  | [d1, d2] => { results := [.lit (.bool true)], args := [d1, d2] }
  | _ => none }
def fnExactTraceBoundRow : OpenClaim := { program := "ytofiibmpindajaa", sum := "dab1c2ff8a5d814ba54b8a753d013bad9e2de5ee6cb0b3d31acb4c709b162e4a", func := "loop.example/setshadows/laws.FnExactTraceBound", spec := "fnExactTraceBound", apart := false }
def FnExactTraceBoundSaid : Prop := fnExactTraceBoundRow.holds Try.pinned (OpenSpec.ofChange fnExactTraceBoundSpec)

/-- ITS FALSE NEIGHBOUR: 'it returns false'. Refute it at one input. -/
def fnExactTraceBoundWrong : ChangeSpec := { name := "fnExactTraceBound", fn := fun _ => fun
  | [d1, d2] => { results := [.lit (.bool false)], args := [d1, d2] }
  | _ => none }
def FnExactTraceBoundWrongFalsely : Prop := fnExactTraceBoundRow.holds Try.pinned (OpenSpec.ofChange fnExactTraceBoundWrong)

/-- 'laws.FnExactTraceMost': WHATEVER THE INPUT: true; the input reads as it did. -/
def fnExactTraceMostSpec : ChangeSpec := { name := "fnExactTraceMost", fn := fun _ => fun
  | [d1, d2] => { results := [.lit (.bool true)], args := [d1, d2] }
  | _ => none }
def fnExactTraceMostRow : OpenClaim := { program := "ytofiibmpindajaa", sum := "dab1c2ff8a5d814ba54b8a753d013bad9e2de5ee6cb0b3d31acb4c709b162e4a", func := "loop.example/setshadows/laws.FnExactTraceMost", spec := "fnExactTraceMost", inPlace := ["slices.overlaps[loop.example/setshadows/impl.set]"], unfollowed := true, recurses := true, apart := false }
def FnExactTraceMostSaid : Prop := fnExactTraceMostRow.holds Try.pinned (OpenSpec.ofChange fnExactTraceMostSpec)

/-- ITS FALSE NEIGHBOUR: 'it returns false'. Refute it at one input. -/
def fnExactTraceMostWrong : ChangeSpec := { name := "fnExactTraceMost", fn := fun _ => fun
  | [d1, d2] => { results := [.lit (.bool false)], args := [d1, d2] }
  | _ => none }
def FnExactTraceMostWrongFalsely : Prop := fnExactTraceMostRow.holds Try.pinned (OpenSpec.ofChange fnExactTraceMostWrong)

/- THE SECOND FORM. 'bulk': how many values and letters a reading holds, each counted each time it is reached (what is shared counts as often as it is met; a slice's spare places count too). A statement '..UptoSaid' is the law's where the arguments, and the package variables that the reading takes, are together of bulk at most 1048576: NARROWER than '..Said'. Prove '..Said' where nothing that the law and all that it calls make is longer than what came in: it says more and counts as full. Else prove '..UptoSaid'. A law counts once. -/
mutual
def uptoBulk {H : Type} : DataW H → Nat
  | .lit (.string bytes) => bytes.length + 1
  | .lit _ => 1
  | .nil => 1
  | .ptr d => uptoBulk d + 1
  | .slice elems spare => uptoBulkAll elems + uptoBulkAll spare + 1
  | .agg parts => uptoBulkAll parts + 1
  | .iface _ d => uptoBulk d + 1
  | .map entries => uptoBulkEntries entries + 1
  | .held _ => 1
def uptoBulkAll {H : Type} : List (DataW H) → Nat
  | [] => 0
  | d :: r => uptoBulk d + uptoBulkAll r
def uptoBulkEntries {H : Type} : List (Lit × DataW H) → Nat
  | [] => 0
  | x :: r => uptoBulkEntry x + uptoBulkEntries r
def uptoBulkEntry {H : Type} : Lit × DataW H → Nat
  | (.string bytes, d) => bytes.length + uptoBulk d + 1
  | (_, d) => uptoBulk d + 1
 end
def uptoSmall : (H : Type) → List (DataW H) → Bool := fun _ ds => decide (uptoBulkAll ds ≤ 1048576)
def OpenSpec.upto (s : _root_.Go.ChangeSpec) : _root_.Go.OpenSpec := { _root_.Go.OpenSpec.ofChange s with cond := some uptoSmall }

/-- 'laws.FnTrace', WHERE WHAT IT READS IS OF BULK AT MOST 1048576: true; the input reads as it did. -/
def fnTraceUptoRow : OpenClaim := { program := "ytofiibmpindajaa", sum := "dab1c2ff8a5d814ba54b8a753d013bad9e2de5ee6cb0b3d31acb4c709b162e4a", func := "loop.example/setshadows/laws.FnTrace", spec := "fnTrace", inPlace := ["slices.overlaps[loop.example/setshadows/impl.set]"], unfollowed := true, recurses := true, apart := false, narrowed := true }
def FnTraceUptoSaid : Prop := fnTraceUptoRow.holds Try.pinned (OpenSpec.upto fnTraceSpec)

/-- 'laws.FnTraceBound', WHERE WHAT IT READS IS OF BULK AT MOST 1048576: true; the input reads as it did. -/
def fnTraceBoundUptoRow : OpenClaim := { program := "ytofiibmpindajaa", sum := "dab1c2ff8a5d814ba54b8a753d013bad9e2de5ee6cb0b3d31acb4c709b162e4a", func := "loop.example/setshadows/laws.FnTraceBound", spec := "fnTraceBound", inPlace := ["slices.overlaps[loop.example/setshadows/impl.set]"], unfollowed := true, recurses := true, apart := false, narrowed := true }
def FnTraceBoundUptoSaid : Prop := fnTraceBoundUptoRow.holds Try.pinned (OpenSpec.upto fnTraceBoundSpec)

/-- 'laws.FnExactFamilyTrace', WHERE WHAT IT READS IS OF BULK AT MOST 1048576: true; the input reads as it did. -/
def fnExactFamilyTraceUptoRow : OpenClaim := { program := "ytofiibmpindajaa", sum := "dab1c2ff8a5d814ba54b8a753d013bad9e2de5ee6cb0b3d31acb4c709b162e4a", func := "loop.example/setshadows/laws.FnExactFamilyTrace", spec := "fnExactFamilyTrace", inPlace := ["slices.overlaps[loop.example/setshadows/impl.set]"], unfollowed := true, recurses := true, apart := false, narrowed := true }
def FnExactFamilyTraceUptoSaid : Prop := fnExactFamilyTraceUptoRow.holds Try.pinned (OpenSpec.upto fnExactFamilyTraceSpec)

/-- 'laws.FnExactTraceBound', WHERE WHAT IT READS IS OF BULK AT MOST 1048576: true; the input reads as it did. -/
def fnExactTraceBoundUptoRow : OpenClaim := { program := "ytofiibmpindajaa", sum := "dab1c2ff8a5d814ba54b8a753d013bad9e2de5ee6cb0b3d31acb4c709b162e4a", func := "loop.example/setshadows/laws.FnExactTraceBound", spec := "fnExactTraceBound", apart := false, narrowed := true }
def FnExactTraceBoundUptoSaid : Prop := fnExactTraceBoundUptoRow.holds Try.pinned (OpenSpec.upto fnExactTraceBoundSpec)

/-- 'laws.FnExactTraceMost', WHERE WHAT IT READS IS OF BULK AT MOST 1048576: true; the input reads as it did. -/
def fnExactTraceMostUptoRow : OpenClaim := { program := "ytofiibmpindajaa", sum := "dab1c2ff8a5d814ba54b8a753d013bad9e2de5ee6cb0b3d31acb4c709b162e4a", func := "loop.example/setshadows/laws.FnExactTraceMost", spec := "fnExactTraceMost", inPlace := ["slices.overlaps[loop.example/setshadows/impl.set]"], unfollowed := true, recurses := true, apart := false, narrowed := true }
def FnExactTraceMostUptoSaid : Prop := fnExactTraceMostUptoRow.holds Try.pinned (OpenSpec.upto fnExactTraceMostSpec)

end Rows
end Go.Proofs.Ytofiibmpindajaa
