/- The exact laws on sets that take integers, further: others, moved sets, ways to choose. -/
import Derived.Test.YtoglcinfnhhkhabDoorLawsA
namespace Go.Proofs.YtoglcinfnhhkhabDoor
open Go.ChangeShapes Go.WideShapes Go.ChangeAt Go.RowKit

theorem ret_ib {k : IntKind} {a b : Int} {c : Bool} (h : a = b) : Ending.returned (.tuple #[.int k a, .bool c]) = .returned (.tuple #[.int k b, .bool c]) := by rw [h]
theorem all_pts (n : Int) (h1 : 1 ≤ n) (h2 : n ≤ 8) (w : World) : Calls Tryd.prog 21 #[.int .i64 n] w fun e w' => e = .returned (.int .u64 (2 ^ n.toNat - 1)) ∧ w = w' := by
  go_enter Tryd.func21, Tryd.ntmps21
  go_wp2
  go_ret
  exact ⟨ret_int (all_wrap h1 h2), rfl⟩

/-! Choose -/
/-- what Choose answers. -/
def chooseOk (n k : Int) : Prop := 0 ≤ n ∧ n ≤ 40 ∧ 0 ≤ k ∧ k ≤ 40
theorem im_Choose_yes (n k : Int) (h : chooseOk n k) (w : World) : Calls Tryd.prog 8 #[.int .i64 n, .int .i64 k] w fun e w' => e = .returned (.tuple #[.int .i64 (chI n k), .bool true]) ∧ w = w' := by
  obtain ⟨a, b, c, d⟩ := h
  go_enter Tryd.func8, Tryd.ntmps8
  go_wp2_with (go_at_call 18; refine (choose_in _ _ (by omega) (by omega) (by omega) (by omega) _).mono ?_; rintro e w' ⟨rfl, rfl⟩)
  go_ret2
  exact ⟨rfl, rfl⟩
theorem im_Choose_no (n k : Int) (h : ¬ chooseOk n k) (w : World) : Calls Tryd.prog 8 #[.int .i64 n, .int .i64 k] w fun e w' => e = .returned (.tuple #[.int .i64 0, .bool false]) ∧ w = w' := by
  by_cases a : 0 ≤ n <;> by_cases b : n ≤ 40 <;> by_cases c : 0 ≤ k <;> by_cases d : k ≤ 40
  all_goals first | (exfalso; first | exact h ⟨a, b, c, d⟩ | omega) | skip
  all_goals
    clear h
    go_enter Tryd.func8, Tryd.ntmps8
    go_wp2_with fail
    go_ret2
    exact ⟨rfl, rfl⟩
end Go.Proofs.YtoglcinfnhhkhabDoor
