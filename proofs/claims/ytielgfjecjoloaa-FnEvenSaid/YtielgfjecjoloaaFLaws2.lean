/- The exact laws of functions of a list and a number. -/
import Derived.Test.YtielgfjecjoloaaFLaws
namespace Go.Proofs.Ytielgfjecjoloaa
open Go.ChangeShapes Go.WideShapes Go.ChangeAt Go.RowKit Go.Proofs

end Go.Proofs.Ytielgfjecjoloaa
