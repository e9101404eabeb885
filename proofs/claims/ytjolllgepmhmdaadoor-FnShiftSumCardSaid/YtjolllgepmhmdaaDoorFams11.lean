/- Families: unions, the rest, levels. -/
import Derived.Test.YtjolllgepmhmdaaDoorFams10
namespace Go.Proofs.YtjolllgepmhmdaaDoor
open Go.ChangeShapes Go.WideShapes Go.ChangeAt Go.RowKit Go.Proofs

end Go.Proofs.YtjolllgepmhmdaaDoor
