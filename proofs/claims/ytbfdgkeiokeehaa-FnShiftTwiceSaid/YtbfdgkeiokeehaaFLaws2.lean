/- The exact laws of functions of a list and a number. -/
import Derived.Test.YtbfdgkeiokeehaaFLaws
namespace Go.Proofs.Ytbfdgkeiokeehaa
open Go.ChangeShapes Go.WideShapes Go.ChangeAt Go.RowKit Go.Proofs

end Go.Proofs.Ytbfdgkeiokeehaa
