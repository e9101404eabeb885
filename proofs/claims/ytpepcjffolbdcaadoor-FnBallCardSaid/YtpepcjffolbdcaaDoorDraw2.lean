/- The laws' reader: drawn families and sets. -/
import Derived.Test.YtpepcjffolbdcaaDoorDrawS
import Derived.Test.YtpepcjffolbdcaaDoorAllSp
import Derived.Lib.MinMax
import Derived.RegionTactic
namespace Go.Proofs.YtpepcjffolbdcaaDoor
open Go.ChangeShapes Go.WideShapes Go.ChangeAt Go.RowKit Go.Proofs

theorem part_at (a b : Int) (w : World) : Calls Tryd.prog 126 #[.int .i64 a, .int .i64 b] w fun e w' => ∃ c, e = .returned (.bool c) ∧ w = w' := by
  go_enter Tryd.func126, Tryd.ntmps126
  go_wp2
  go_ret
  exact ⟨_, rfl, rfl⟩
end Go.Proofs.YtpepcjffolbdcaaDoor
