/- Families: unions, the rest, levels. -/
import Derived.Test.YtpepcjffolbdcaaFams10
namespace Go.Proofs.Ytpepcjffolbdcaa
open Go.ChangeShapes Go.WideShapes Go.ChangeAt Go.RowKit Go.Proofs

end Go.Proofs.Ytpepcjffolbdcaa
