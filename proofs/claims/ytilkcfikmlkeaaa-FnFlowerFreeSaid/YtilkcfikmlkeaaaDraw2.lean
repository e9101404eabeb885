/- The laws' reader: drawn families and sets. -/
import Derived.Test.YtilkcfikmlkeaaaDrawS
import Derived.Test.YtilkcfikmlkeaaaAllSp
import Derived.Lib.MinMax
import Derived.RegionTactic
namespace Go.Proofs.Ytilkcfikmlkeaaa
open Go.ChangeShapes Go.WideShapes Go.ChangeAt Go.RowKit Go.Proofs

theorem part_at (a b : Int) (w : World) : Calls Try.prog 50 #[.int .i64 a, .int .i64 b] w fun e w' => ∃ c, e = .returned (.bool c) ∧ w = w' := by
  go_enter Try.func50, Try.ntmps50
  go_wp2
  go_ret
  exact ⟨_, rfl, rfl⟩
end Go.Proofs.Ytilkcfikmlkeaaa
