/- A closed fact on the whole program that each row asks (a great seat). -/
import Derived.Test.YtojfamjgghikoaaGreatDoorRows
import Derived.Test.YtojfamjgghikoaaGreatDoorChecked
import Derived.ProofKit
namespace Go.Proofs.YtojfamjgghikoaaGreatDoor

theorem andB {a b : Bool} (h1 : a = true) (h2 : b = true) : (a && b) = true := by rw [h1, h2]; rfl
theorem pStops : Tryz.checked.prog.stopsHeard = true := by kernel_rfl
end Go.Proofs.YtojfamjgghikoaaGreatDoor
