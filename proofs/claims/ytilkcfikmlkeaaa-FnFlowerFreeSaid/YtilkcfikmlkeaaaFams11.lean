/- Families: unions, the rest, levels. -/
import Derived.Test.YtilkcfikmlkeaaaFams10
namespace Go.Proofs.Ytilkcfikmlkeaaa
open Go.ChangeShapes Go.WideShapes Go.ChangeAt Go.RowKit Go.Proofs

end Go.Proofs.Ytilkcfikmlkeaaa
