/- Families: unions, the rest, levels. -/
import Derived.Test.YtoglcinfnhhkhaaFams10
namespace Go.Proofs.Ytoglcinfnhhkhaa
open Go.ChangeShapes Go.WideShapes Go.ChangeAt Go.RowKit Go.Proofs

end Go.Proofs.Ytoglcinfnhhkhaa
