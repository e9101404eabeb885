/- Families: unions, the rest, levels. -/
import Derived.Test.YtfcegnnajpflmaaDoorFams10
namespace Go.Proofs.YtfcegnnajpflmaaDoor
open Go.ChangeShapes Go.WideShapes Go.ChangeAt Go.RowKit Go.Proofs

end Go.Proofs.YtfcegnnajpflmaaDoor
