/- Fractions. -/
import Derived.Test.YtaljnnjlhmlcoaaCk1
import Derived.BigQuiet
namespace Go.Proofs.Ytaljnnjlhmlcoaa
open Go.ChangeShapes Go.WideShapes Go.ChangeAt Go.RowKit Go.Proofs

/-- what a function that returns a fraction leaves. -/
def FracPost (a b : Nat) (w : World) (e : Ending) (w' : World) : Prop := e = .returned (.agg #[.int .i64 (a : Nat), .int .i64 (b : Nat)]) ∧ Below w.heap.size w w'
theorem frac_fin {w W1 : World} {h : Nat} (x y : Value) (hb : Below w.heap.size w W1) (hh : w.heap.size ≤ h) : Below w.heap.size w ((W1.setCell ⟨h, 0, none⟩ x).setCell ⟨h, 1, none⟩ y) :=
  below_setCell (below_setCell hb hh _) hh _

end Go.Proofs.Ytaljnnjlhmlcoaa
