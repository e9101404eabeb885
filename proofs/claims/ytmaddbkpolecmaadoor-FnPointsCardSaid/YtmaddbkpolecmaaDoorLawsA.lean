/- The exact laws on sets that take integers: the Go text returns true. -/
import Derived.Test.YtmaddbkpolecmaaDoorSets2
namespace Go.Proofs.YtmaddbkpolecmaaDoor
open Go.ChangeShapes Go.WideShapes Go.ChangeAt Go.RowKit

theorem setB_cases (n s : Int) : setB n s = true ∨ setB n s = false := by cases setB n s <;> simp

/-! SetSize -/
def sizeOut (n s : Int) : Value := if setB n s then .tuple #[.int .i64 (cntI s), .bool true] else .tuple #[.int .i64 0, .bool false]
theorem sizeOut_yes {n s : Int} (h : setB n s = true) : sizeOut n s = .tuple #[.int .i64 (cntI s), .bool true] := by unfold sizeOut; rw [if_pos h]
theorem sizeOut_no {n s : Int} (h : setB n s = false) : sizeOut n s = .tuple #[.int .i64 0, .bool false] := by unfold sizeOut; rw [if_neg (by simp [h])]
theorem im_size_yes (n s : Int) (h : setB n s = true) (w : World) : Calls Tryd.prog 19 #[.int .i64 n, .int .i64 s] w fun e w' => e = .returned (.tuple #[.int .i64 (cntI s), .bool true]) ∧ w = w' := by
  obtain ⟨hs1, hs2⟩ := setB_lt h
  have h1 := Lib.hid (fun W => set_in_yes n s h W)
  clear h
  go_enter Tryd.func19, Tryd.ntmps19
  go_wp2_with (first | (go_at_call 10; refine (h1.out _).mono ?_; rintro e w' ⟨rfl, rfl⟩) | (go_at_call 40; refine (set_size _ hs1 hs2 _).mono ?_; rintro e w' ⟨rfl, rfl⟩))
  go_ret2
  exact ⟨rfl, rfl⟩
theorem im_size_no (n s : Int) (h : setB n s = false) (w : World) : Calls Tryd.prog 19 #[.int .i64 n, .int .i64 s] w fun e w' => e = .returned (.tuple #[.int .i64 0, .bool false]) ∧ w = w' := by
  have h1 := Lib.hid (fun W => set_in_no n s h W)
  clear h
  go_enter Tryd.func19, Tryd.ntmps19
  go_wp2_with (first | (go_at_call 10; refine (h1.out _).mono ?_; rintro e w' ⟨rfl, rfl⟩))
  go_ret2
  exact ⟨rfl, rfl⟩
end Go.Proofs.YtmaddbkpolecmaaDoor
