/- Families: unions, the rest, levels. -/
import Derived.Test.YtaljnnjlhmlcoaaFams10
namespace Go.Proofs.Ytaljnnjlhmlcoaa
open Go.ChangeShapes Go.WideShapes Go.ChangeAt Go.RowKit Go.Proofs

end Go.Proofs.Ytaljnnjlhmlcoaa
