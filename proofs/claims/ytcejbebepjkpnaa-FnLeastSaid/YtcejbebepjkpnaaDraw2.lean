/- The laws' reader: drawn families and sets. -/
import Derived.Test.YtcejbebepjkpnaaDraw
import Derived.Test.YtcejbebepjkpnaaSpec7
import Derived.Lib.MinMax
import Derived.RegionTactic
namespace Go.Proofs.Ytcejbebepjkpnaa
open Go.ChangeShapes Go.WideShapes Go.ChangeAt Go.RowKit Go.Proofs

/-- what a draw of a number leaves. -/
def NumDraw (r S : Nat) (p : Int) (w : World) (e : Ending) (w' : World) : Prop := ∃ s p', e = .returned (.int .i64 s) ∧ -1 ≤ s ∧ s ≤ 1000000 ∧ Rdr w' r S p' ∧ 0 ≤ p' ∧ p' ≤ p + 100 ∧ Only r w w'
end Go.Proofs.Ytcejbebepjkpnaa
