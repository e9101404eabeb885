/- The closed facts on the whole program that each row asks: once for all laws of the seat. -/
import Derived.Test.YtoglcinfnhhkhaaRows
import Derived.Test.YtoglcinfnhhkhaaChecked
import Derived.ProofKit
namespace Go.Proofs.Ytoglcinfnhhkhaa

theorem andB {a b : Bool} (h1 : a = true) (h2 : b = true) : (a && b) = true := by rw [h1, h2]; rfl
theorem pStops : Try.checked.prog.stopsHeard = true := by kernel_rfl
theorem pEnter : Try.checked.prog.mayEnter = true := by kernel_rfl
theorem pLifts : (Rows.fnDownProfileRow.lifted == Try.checked.prog.liftsFinal) = true := by kernel_rfl
theorem pMake : (Try.checked.prog.make == some Rows.fnDownProfileRow.make) = true := by kernel_rfl
end Go.Proofs.Ytoglcinfnhhkhaa
