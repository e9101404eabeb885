/- A closed fact on the whole program that each row asks (a great seat). -/
import Derived.Test.YtojfamjgghikoaaGreatDoorRows
import Derived.Test.YtojfamjgghikoaaGreatDoorChecked
import Derived.ProofKit
namespace Go.Proofs.YtojfamjgghikoaaGreatDoor

theorem pMake : (Tryz.checked.prog.make == some Rows.fnExecuteNoneRow.make) = true := by kernel_rfl
end Go.Proofs.YtojfamjgghikoaaGreatDoor
