/- The exact laws of functions of a list and a number. -/
import Derived.Test.YtoglcinfnhhkhaaFLaws
namespace Go.Proofs.Ytoglcinfnhhkhaa
open Go.ChangeShapes Go.WideShapes Go.ChangeAt Go.RowKit Go.Proofs

end Go.Proofs.Ytoglcinfnhhkhaa
