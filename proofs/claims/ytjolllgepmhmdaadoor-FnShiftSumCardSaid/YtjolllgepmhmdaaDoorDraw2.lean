/- The laws' reader: drawn families and sets. -/
import Derived.Test.YtjolllgepmhmdaaDoorDrawS
import Derived.Test.YtjolllgepmhmdaaDoorSpec7
import Derived.Lib.MinMax
import Derived.RegionTactic
namespace Go.Proofs.YtjolllgepmhmdaaDoor
open Go.ChangeShapes Go.WideShapes Go.ChangeAt Go.RowKit Go.Proofs

theorem part_at (a b : Int) (w : World) : Calls Tryd.prog 36 #[.int .i64 a, .int .i64 b] w fun e w' => ∃ c, e = .returned (.bool c) ∧ w = w' := by
  go_enter Tryd.func36, Tryd.ntmps36
  go_wp2
  go_ret
  exact ⟨_, rfl, rfl⟩
end Go.Proofs.YtjolllgepmhmdaaDoor
