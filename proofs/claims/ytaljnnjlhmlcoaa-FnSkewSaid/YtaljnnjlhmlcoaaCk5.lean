/- Sums of fractions: the program's WeightOf. -/
import Derived.Test.YtaljnnjlhmlcoaaCk4
namespace Go.Proofs.Ytaljnnjlhmlcoaa
open Go.ChangeShapes Go.WideShapes Go.ChangeAt Go.RowKit Go.Proofs

end Go.Proofs.Ytaljnnjlhmlcoaa
