/- The model's PairsWeight and the exact law. -/
import Derived.Test.YtaljnnjlhmlcoaaIs5
namespace Go.Proofs.Ytaljnnjlhmlcoaa
open Go.ChangeShapes Go.WideShapes Go.ChangeAt Go.RowKit Go.Proofs

end Go.Proofs.Ytaljnnjlhmlcoaa
