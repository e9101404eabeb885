/- Families: unions, the rest, levels. -/
import Derived.Test.YthljimmhgpbmbaaFams10
namespace Go.Proofs.Ythljimmhgpbmbaa
open Go.ChangeShapes Go.WideShapes Go.ChangeAt Go.RowKit Go.Proofs

end Go.Proofs.Ythljimmhgpbmbaa
