/- A closed fact on the whole program that each row asks (a great seat). -/
import Derived.Test.YtojfamjgghikoaaGreatDoorRows
import Derived.Test.YtojfamjgghikoaaGreatDoorChecked
import Derived.ProofKit
namespace Go.Proofs.YtojfamjgghikoaaGreatDoor

theorem pLifts : (Rows.fnExecuteNoneRow.lifted == Tryz.checked.prog.liftsFinal) = true := by kernel_rfl
end Go.Proofs.YtojfamjgghikoaaGreatDoor
