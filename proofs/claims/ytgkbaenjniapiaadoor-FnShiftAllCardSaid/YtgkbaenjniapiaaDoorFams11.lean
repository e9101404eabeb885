/- Families: unions, the rest, levels. -/
import Derived.Test.YtgkbaenjniapiaaDoorFams10
namespace Go.Proofs.YtgkbaenjniapiaaDoor
open Go.ChangeShapes Go.WideShapes Go.ChangeAt Go.RowKit Go.Proofs

end Go.Proofs.YtgkbaenjniapiaaDoor
