/- Families: unions, the rest, levels. -/
import Derived.Test.YtbfdgkeiokeehaaFams10
namespace Go.Proofs.Ytbfdgkeiokeehaa
open Go.ChangeShapes Go.WideShapes Go.ChangeAt Go.RowKit Go.Proofs

end Go.Proofs.Ytbfdgkeiokeehaa
