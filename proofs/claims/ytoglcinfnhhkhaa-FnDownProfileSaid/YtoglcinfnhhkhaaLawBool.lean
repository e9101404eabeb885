/- The law of a function of a number and a list that answers a bool. -/
import Derived.Test.YtoglcinfnhhkhaaFLaws
namespace Go.Proofs.Ytoglcinfnhhkhaa
open Go.ChangeShapes Go.WideShapes Go.ChangeAt Go.RowKit Go.Proofs
end Go.Proofs.Ytoglcinfnhhkhaa
