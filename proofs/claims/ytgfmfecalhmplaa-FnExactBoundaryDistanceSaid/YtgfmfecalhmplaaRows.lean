/-
  No cell of these rows narrows 'for every input' (looked for: loops, veiled, ifaces, maps, wideKeys, modest, calm, conditions, laid).
  DERIVED. THE GIVEN ROWS OF THIS SEAT. 4 by the template 'for every input the law returns true; each argument reads behind the call as it read before'; 0 by the template 'total and deterministic' (their statements: YtgfmfecalhmplaaTotals.lean).
  GIVEN WITH THE SEED: the statements are not yours to turn. If you find one false, say at which input.
  Laid BY PROGRAM, IN A SANDBOX (cutbox-rows.mjs): the forced cells as the released guide's own fill.sh prints them over the translation 9b133c764ac29227… (all of the seat's roots in one cut). By AI agents, Wed Nov 11 2026. No macro, syntax, notation, axiom, sorry.
-/
import Derived.Test.YtgfmfecalhmplaaChecked
import GoSem.Claim
import GoSem.ClaimJoined
import GoSem.ClaimMapViews
import Derived.JoinedTies
import Derived.KernelRfl
namespace Go.Proofs.Ytgfmfecalhmplaa
/- THE CELL 'sum', in the pinned program and in every row, IS THE sha256 OF THE DUMP (.gsa) THAT YtgfmfecalhmplaaProg.lean LOADS. Nothing in Lean hashes anything: it is a label: what it is worth is what the hold of that sum in a sandbox is worth. -/
noncomputable def Try.pinned : Pinned := { name := "ytgfmfecalhmplaa", sum := "9b133c764ac2922739d44bdf265d739bd357167f34c5cf25de8c00ac03f52beb", checked := Try.checked }
namespace Rows
def none {H : Type} : Left H := { results := [], args := [] }

/-- 'laws.FnDigits': WHATEVER THE INPUT: true; the input reads as it did. -/
def fnDigitsSpec : ChangeSpec := { name := "fnDigits", fn := fun _ => fun
  | [d] => { results := [.lit (.bool true)], args := [d] }
  | _ => none }
def fnDigitsRow : OpenClaim := { program := "ytgfmfecalhmplaa", sum := "9b133c764ac2922739d44bdf265d739bd357167f34c5cf25de8c00ac03f52beb", func := "loop.example/setshadows/laws.FnDigits", spec := "fnDigits", apart := false }
def FnDigitsSaid : Prop := fnDigitsRow.holds Try.pinned (OpenSpec.ofChange fnDigitsSpec)

/-- ITS FALSE NEIGHBOUR: 'it returns false'. Refute it at one input. -/
def fnDigitsWrong : ChangeSpec := { name := "fnDigits", fn := fun _ => fun
  | [d] => { results := [.lit (.bool false)], args := [d] }
  | _ => none }
def FnDigitsWrongFalsely : Prop := fnDigitsRow.holds Try.pinned (OpenSpec.ofChange fnDigitsWrong)

/-- 'laws.FnExactBoundaryBall': WHATEVER THE INPUT: true; the input reads as it did. -/
def fnExactBoundaryBallSpec : ChangeSpec := { name := "fnExactBoundaryBall", fn := fun _ => fun
  | [d1, d2, d3] => { results := [.lit (.bool true)], args := [d1, d2, d3] }
  | _ => none }
def fnExactBoundaryBallRow : OpenClaim := { program := "ytgfmfecalhmplaa", sum := "9b133c764ac2922739d44bdf265d739bd357167f34c5cf25de8c00ac03f52beb", func := "loop.example/setshadows/laws.FnExactBoundaryBall", spec := "fnExactBoundaryBall", inPlace := ["slices.overlaps[loop.example/setshadows/impl.set]"], unfollowed := true, recurses := true, apart := false }
def FnExactBoundaryBallSaid : Prop := fnExactBoundaryBallRow.holds Try.pinned (OpenSpec.ofChange fnExactBoundaryBallSpec)

/-- ITS FALSE NEIGHBOUR: 'it returns false'. Refute it at one input. -/
def fnExactBoundaryBallWrong : ChangeSpec := { name := "fnExactBoundaryBall", fn := fun _ => fun
  | [d1, d2, d3] => { results := [.lit (.bool false)], args := [d1, d2, d3] }
  | _ => none }
def FnExactBoundaryBallWrongFalsely : Prop := fnExactBoundaryBallRow.holds Try.pinned (OpenSpec.ofChange fnExactBoundaryBallWrong)

/-- 'laws.FnExactBoundaryDigits': WHATEVER THE INPUT: true; the input reads as it did. -/
def fnExactBoundaryDigitsSpec : ChangeSpec := { name := "fnExactBoundaryDigits", fn := fun _ => fun
  | [d] => { results := [.lit (.bool true)], args := [d] }
  | _ => none }
def fnExactBoundaryDigitsRow : OpenClaim := { program := "ytgfmfecalhmplaa", sum := "9b133c764ac2922739d44bdf265d739bd357167f34c5cf25de8c00ac03f52beb", func := "loop.example/setshadows/laws.FnExactBoundaryDigits", spec := "fnExactBoundaryDigits", apart := false }
def FnExactBoundaryDigitsSaid : Prop := fnExactBoundaryDigitsRow.holds Try.pinned (OpenSpec.ofChange fnExactBoundaryDigitsSpec)

/-- ITS FALSE NEIGHBOUR: 'it returns false'. Refute it at one input. -/
def fnExactBoundaryDigitsWrong : ChangeSpec := { name := "fnExactBoundaryDigits", fn := fun _ => fun
  | [d] => { results := [.lit (.bool false)], args := [d] }
  | _ => none }
def FnExactBoundaryDigitsWrongFalsely : Prop := fnExactBoundaryDigitsRow.holds Try.pinned (OpenSpec.ofChange fnExactBoundaryDigitsWrong)

/-- 'laws.FnExactBoundaryDistance': WHATEVER THE INPUT: true; the input reads as it did. -/
def fnExactBoundaryDistanceSpec : ChangeSpec := { name := "fnExactBoundaryDistance", fn := fun _ => fun
  | [d1, d2] => { results := [.lit (.bool true)], args := [d1, d2] }
  | _ => none }
def fnExactBoundaryDistanceRow : OpenClaim := { program := "ytgfmfecalhmplaa", sum := "9b133c764ac2922739d44bdf265d739bd357167f34c5cf25de8c00ac03f52beb", func := "loop.example/setshadows/laws.FnExactBoundaryDistance", spec := "fnExactBoundaryDistance", inPlace := ["slices.overlaps[loop.example/setshadows/impl.set]"], unfollowed := true, recurses := true, apart := false }
def FnExactBoundaryDistanceSaid : Prop := fnExactBoundaryDistanceRow.holds Try.pinned (OpenSpec.ofChange fnExactBoundaryDistanceSpec)

/-- ITS FALSE NEIGHBOUR: 'it returns false'. Refute it at one input. -/
def fnExactBoundaryDistanceWrong : ChangeSpec := { name := "fnExactBoundaryDistance", fn := fun _ => fun
  | [d1, d2] => { results := [.lit (.bool false)], args := [d1, d2] }
  | _ => none }
def FnExactBoundaryDistanceWrongFalsely : Prop := fnExactBoundaryDistanceRow.holds Try.pinned (OpenSpec.ofChange fnExactBoundaryDistanceWrong)

/- THE SECOND FORM. 'bulk': how many values and letters a reading holds, each counted each time it is reached (what is shared counts as often as it is met; a slice's spare places count too). A statement '..UptoSaid' is the law's where the arguments, and the package variables that the reading takes, are together of bulk at most 1048576: NARROWER than '..Said'. Prove '..Said' where nothing that the law and all that it calls make is longer than what came in: it says more and counts as full. Else prove '..UptoSaid'. A law counts once. -/
mutual
def uptoBulk {H : Type} : DataW H → Nat
  | .lit (.string bytes) => bytes.length + 1
  | .lit _ => 1
  | .nil => 1
  | .ptr d => uptoBulk d + 1
  | .slice elems spare => uptoBulkAll elems + uptoBulkAll spare + 1
  | .agg parts => uptoBulkAll parts + 1
  | .iface _ d => uptoBulk d + 1
  | .map entries => uptoBulkEntries entries + 1
  | .held _ => 1
def uptoBulkAll {H : Type} : List (DataW H) → Nat
  | [] => 0
  | d :: r => uptoBulk d + uptoBulkAll r
def uptoBulkEntries {H : Type} : List (Lit × DataW H) → Nat
  | [] => 0
  | x :: r => uptoBulkEntry x + uptoBulkEntries r
def uptoBulkEntry {H : Type} : Lit × DataW H → Nat
  | (.string bytes, d) => bytes.length + uptoBulk d + 1
  | (_, d) => uptoBulk d + 1
 end
def uptoSmall : (H : Type) → List (DataW H) → Bool := fun _ ds => decide (uptoBulkAll ds ≤ 1048576)
def OpenSpec.upto (s : _root_.Go.ChangeSpec) : _root_.Go.OpenSpec := { _root_.Go.OpenSpec.ofChange s with cond := some uptoSmall }

/-- 'laws.FnDigits', WHERE WHAT IT READS IS OF BULK AT MOST 1048576: true; the input reads as it did. -/
def fnDigitsUptoRow : OpenClaim := { program := "ytgfmfecalhmplaa", sum := "9b133c764ac2922739d44bdf265d739bd357167f34c5cf25de8c00ac03f52beb", func := "loop.example/setshadows/laws.FnDigits", spec := "fnDigits", apart := false, narrowed := true }
def FnDigitsUptoSaid : Prop := fnDigitsUptoRow.holds Try.pinned (OpenSpec.upto fnDigitsSpec)

/-- 'laws.FnExactBoundaryBall', WHERE WHAT IT READS IS OF BULK AT MOST 1048576: true; the input reads as it did. -/
def fnExactBoundaryBallUptoRow : OpenClaim := { program := "ytgfmfecalhmplaa", sum := "9b133c764ac2922739d44bdf265d739bd357167f34c5cf25de8c00ac03f52beb", func := "loop.example/setshadows/laws.FnExactBoundaryBall", spec := "fnExactBoundaryBall", inPlace := ["slices.overlaps[loop.example/setshadows/impl.set]"], unfollowed := true, recurses := true, apart := false, narrowed := true }
def FnExactBoundaryBallUptoSaid : Prop := fnExactBoundaryBallUptoRow.holds Try.pinned (OpenSpec.upto fnExactBoundaryBallSpec)

/-- 'laws.FnExactBoundaryDigits', WHERE WHAT IT READS IS OF BULK AT MOST 1048576: true; the input reads as it did. -/
def fnExactBoundaryDigitsUptoRow : OpenClaim := { program := "ytgfmfecalhmplaa", sum := "9b133c764ac2922739d44bdf265d739bd357167f34c5cf25de8c00ac03f52beb", func := "loop.example/setshadows/laws.FnExactBoundaryDigits", spec := "fnExactBoundaryDigits", apart := false, narrowed := true }
def FnExactBoundaryDigitsUptoSaid : Prop := fnExactBoundaryDigitsUptoRow.holds Try.pinned (OpenSpec.upto fnExactBoundaryDigitsSpec)

/-- 'laws.FnExactBoundaryDistance', WHERE WHAT IT READS IS OF BULK AT MOST 1048576: true; the input reads as it did. -/
def fnExactBoundaryDistanceUptoRow : OpenClaim := { program := "ytgfmfecalhmplaa", sum := "9b133c764ac2922739d44bdf265d739bd357167f34c5cf25de8c00ac03f52beb", func := "loop.example/setshadows/laws.FnExactBoundaryDistance", spec := "fnExactBoundaryDistance", inPlace := ["slices.overlaps[loop.example/setshadows/impl.set]"], unfollowed := true, recurses := true, apart := false, narrowed := true }
def FnExactBoundaryDistanceUptoSaid : Prop := fnExactBoundaryDistanceUptoRow.holds Try.pinned (OpenSpec.upto fnExactBoundaryDistanceSpec)

end Rows
end Go.Proofs.Ytgfmfecalhmplaa
