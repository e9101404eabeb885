/- Families: unions, the rest, levels. -/
import Derived.Test.YtcadlfljlobjjaaFams10
namespace Go.Proofs.Ytcadlfljlobjjaa
open Go.ChangeShapes Go.WideShapes Go.ChangeAt Go.RowKit Go.Proofs

end Go.Proofs.Ytcadlfljlobjjaa
