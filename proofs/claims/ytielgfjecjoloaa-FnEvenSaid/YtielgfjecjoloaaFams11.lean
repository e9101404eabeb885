/- Families: unions, the rest, levels. -/
import Derived.Test.YtielgfjecjoloaaFams10
namespace Go.Proofs.Ytielgfjecjoloaa
open Go.ChangeShapes Go.WideShapes Go.ChangeAt Go.RowKit Go.Proofs

end Go.Proofs.Ytielgfjecjoloaa
