/- Families: unions, the rest, levels. -/
import Derived.Test.YtgfmfecalhmplaaFams10
namespace Go.Proofs.Ytgfmfecalhmplaa
open Go.ChangeShapes Go.WideShapes Go.ChangeAt Go.RowKit Go.Proofs

end Go.Proofs.Ytgfmfecalhmplaa
