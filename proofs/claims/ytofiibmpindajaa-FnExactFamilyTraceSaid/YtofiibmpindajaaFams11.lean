/- Families: unions, the rest, levels. -/
import Derived.Test.YtofiibmpindajaaFams10
namespace Go.Proofs.Ytofiibmpindajaa
open Go.ChangeShapes Go.WideShapes Go.ChangeAt Go.RowKit Go.Proofs

end Go.Proofs.Ytofiibmpindajaa
