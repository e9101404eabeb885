/- Families: unions, the rest, levels. -/
import Derived.Test.YtcejbebepjkpnaaDoorFams10
namespace Go.Proofs.YtcejbebepjkpnaaDoor
open Go.ChangeShapes Go.WideShapes Go.ChangeAt Go.RowKit Go.Proofs

end Go.Proofs.YtcejbebepjkpnaaDoor
