/- Families: unions, the rest, levels. -/
import Derived.Test.YtapijjfhdhkakaaDoorFams10
namespace Go.Proofs.YtapijjfhdhkakaaDoor
open Go.ChangeShapes Go.WideShapes Go.ChangeAt Go.RowKit Go.Proofs

end Go.Proofs.YtapijjfhdhkakaaDoor
