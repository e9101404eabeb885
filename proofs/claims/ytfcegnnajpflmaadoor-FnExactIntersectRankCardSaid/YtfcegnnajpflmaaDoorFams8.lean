/- What the program makes of one family with a function of its own. -/
import Derived.Test.YtfcegnnajpflmaaDoorFams7
import Derived.Test.YtfcegnnajpflmaaDoorLawsB
import Derived.Test.YtfcegnnajpflmaaDoorBits
namespace Go.Proofs.YtfcegnnajpflmaaDoor
open Go.ChangeShapes Go.WideShapes Go.ChangeAt Go.RowKit Go.Proofs

theorem mkfunc (fn : Fn) (first cap : Array Value) (w : World) : (Instr.makeFunc fn first cap).run Tryd.prog w = .ok (.func fn first cap) w := rfl
theorem fam_len {n : Int} {xs : List Int} (h : famB n xs = true) : xs.length ≤ 100000 := by have := famB_len h; omega

end Go.Proofs.YtfcegnnajpflmaaDoor
