/- Families: unions, the rest, levels. -/
import Derived.Test.YtpjapoaagbdlfaaDoorFams10
namespace Go.Proofs.YtpjapoaagbdlfaaDoor
open Go.ChangeShapes Go.WideShapes Go.ChangeAt Go.RowKit Go.Proofs

end Go.Proofs.YtpjapoaagbdlfaaDoor
