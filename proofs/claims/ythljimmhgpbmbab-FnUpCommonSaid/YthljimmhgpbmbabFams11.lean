/- Families: unions, the rest, levels. -/
import Derived.Test.YthljimmhgpbmbabFams10
namespace Go.Proofs.Ythljimmhgpbmbab
open Go.ChangeShapes Go.WideShapes Go.ChangeAt Go.RowKit Go.Proofs

end Go.Proofs.Ythljimmhgpbmbab
