/- A closed fact on the whole program that each row asks (a great seat). -/
import Derived.Test.YtojfamjgghikoaaGreatDoorRows
import Derived.Test.YtojfamjgghikoaaGreatDoorChecked
import Derived.ProofKit
namespace Go.Proofs.YtojfamjgghikoaaGreatDoor

theorem pEnter : Tryz.checked.prog.mayEnter = true := by kernel_rfl
end Go.Proofs.YtojfamjgghikoaaGreatDoor
