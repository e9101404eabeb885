/- The laws' reader: drawn families and sets. -/
import Derived.Test.YtielgfjecjoloaaDrawS
import Derived.Test.YtielgfjecjoloaaSpec7
import Derived.Lib.MinMax
import Derived.RegionTactic
namespace Go.Proofs.Ytielgfjecjoloaa
open Go.ChangeShapes Go.WideShapes Go.ChangeAt Go.RowKit Go.Proofs

theorem part_at (a b : Int) (w : World) : Calls Try.prog 71 #[.int .i64 a, .int .i64 b] w fun e w' => ∃ c, e = .returned (.bool c) ∧ w = w' := by
  go_enter Try.func71, Try.ntmps71
  go_wp2
  go_ret
  exact ⟨_, rfl, rfl⟩
end Go.Proofs.Ytielgfjecjoloaa
