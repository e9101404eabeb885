/- Families: unions, the rest, levels. -/
import Derived.Test.YtcdngooephcamaaFams10
namespace Go.Proofs.Ytcdngooephcamaa
open Go.ChangeShapes Go.WideShapes Go.ChangeAt Go.RowKit Go.Proofs

end Go.Proofs.Ytcdngooephcamaa
