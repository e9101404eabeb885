/- The exact laws on sets that take integers: the Go text returns true. -/
import Derived.Test.YtojfamjgghikoaaGreatDoorSets2
namespace Go.Proofs.YtojfamjgghikoaaGreatDoor
open Go.ChangeShapes Go.WideShapes Go.ChangeAt Go.RowKit

theorem setB_cases (n s : Int) : setB n s = true ∨ setB n s = false := by cases setB n s <;> simp

/-! SetSize -/
def sizeOut (n s : Int) : Value := if setB n s then .tuple #[.int .i64 (cntI s), .bool true] else .tuple #[.int .i64 0, .bool false]
theorem sizeOut_yes {n s : Int} (h : setB n s = true) : sizeOut n s = .tuple #[.int .i64 (cntI s), .bool true] := by unfold sizeOut; rw [if_pos h]
theorem sizeOut_no {n s : Int} (h : setB n s = false) : sizeOut n s = .tuple #[.int .i64 0, .bool false] := by unfold sizeOut; rw [if_neg (by simp [h])]
end Go.Proofs.YtojfamjgghikoaaGreatDoor
