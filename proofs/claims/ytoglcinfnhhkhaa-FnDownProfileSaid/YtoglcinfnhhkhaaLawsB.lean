/- The exact laws on sets that take integers, further: others, moved sets, ways to choose. -/
import Derived.Test.YtoglcinfnhhkhaaLawsA
namespace Go.Proofs.Ytoglcinfnhhkhaa
open Go.ChangeShapes Go.WideShapes Go.ChangeAt Go.RowKit

theorem ret_ib {k : IntKind} {a b : Int} {c : Bool} (h : a = b) : Ending.returned (.tuple #[.int k a, .bool c]) = .returned (.tuple #[.int k b, .bool c]) := by rw [h]
theorem all_pts (n : Int) (h1 : 1 ≤ n) (h2 : n ≤ 8) (w : World) : Calls Try.prog 29 #[.int .i64 n] w fun e w' => e = .returned (.int .u64 (2 ^ n.toNat - 1)) ∧ w = w' := by
  go_enter Try.func29, Try.ntmps29
  go_wp2
  go_ret
  exact ⟨ret_int (all_wrap h1 h2), rfl⟩

/-! Choose -/
/-- what Choose answers. -/
def chooseOk (n k : Int) : Prop := 0 ≤ n ∧ n ≤ 40 ∧ 0 ≤ k ∧ k ≤ 40
end Go.Proofs.Ytoglcinfnhhkhaa
