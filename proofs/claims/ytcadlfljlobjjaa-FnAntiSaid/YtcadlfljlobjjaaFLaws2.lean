/- The exact laws of functions of a list and a number. -/
import Derived.Test.YtcadlfljlobjjaaFLaws
namespace Go.Proofs.Ytcadlfljlobjjaa
open Go.ChangeShapes Go.WideShapes Go.ChangeAt Go.RowKit Go.Proofs

end Go.Proofs.Ytcadlfljlobjjaa
