/- The law of a function of a number and a list that answers a bool. -/
import Derived.Test.YtfcegnnajpflmaaDoorFLaws
namespace Go.Proofs.YtfcegnnajpflmaaDoor
open Go.ChangeShapes Go.WideShapes Go.ChangeAt Go.RowKit Go.Proofs
end Go.Proofs.YtfcegnnajpflmaaDoor
