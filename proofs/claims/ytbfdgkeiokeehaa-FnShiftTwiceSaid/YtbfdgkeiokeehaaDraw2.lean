/- The laws' reader: drawn families and sets. -/
import Derived.Test.YtbfdgkeiokeehaaDraw
import Derived.Test.YtbfdgkeiokeehaaSpec7
import Derived.Lib.MinMax
import Derived.RegionTactic
namespace Go.Proofs.Ytbfdgkeiokeehaa
open Go.ChangeShapes Go.WideShapes Go.ChangeAt Go.RowKit Go.Proofs

theorem cap_at (n : Int) (h0 : 0 ≤ n) (h9 : n ≤ 9) (w : World) : Calls Try.prog 56 #[.int .i64 n] w fun e w' => ∃ c, e = .returned (.int .i64 c) ∧ (1 ≤ c ∧ c ≤ 256) ∧ w = w' := by
  rcases (by omega : n = 0 ∨ n = 1 ∨ n = 2 ∨ n = 3 ∨ n = 4 ∨ n = 5 ∨ n = 6 ∨ n = 7 ∨ n = 8 ∨ n = 9) with rfl | rfl | rfl | rfl | rfl | rfl | rfl | rfl | rfl | rfl
  all_goals
    go_enter Try.func56, Try.ntmps56
    go_wp2
    go_ret
    exact ⟨_, rfl, ⟨by decide +kernel, by decide +kernel⟩, rfl⟩
/-- what a draw of a number leaves. -/
def NumDraw (r S : Nat) (p : Int) (w : World) (e : Ending) (w' : World) : Prop := ∃ s p', e = .returned (.int .i64 s) ∧ -1 ≤ s ∧ s ≤ 1000000 ∧ Rdr w' r S p' ∧ 0 ≤ p' ∧ p' ≤ p + 100 ∧ Only r w w'
theorem part_at (a b : Int) (w : World) : Calls Try.prog 78 #[.int .i64 a, .int .i64 b] w fun e w' => ∃ c, e = .returned (.bool c) ∧ w = w' := by
  go_enter Try.func78, Try.ntmps78
  go_wp2
  go_ret
  exact ⟨_, rfl, rfl⟩
end Go.Proofs.Ytbfdgkeiokeehaa
