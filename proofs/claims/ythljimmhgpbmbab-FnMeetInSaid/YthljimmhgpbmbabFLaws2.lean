/- The exact laws of functions of a list and a number. -/
import Derived.Test.YthljimmhgpbmbabFLaws
namespace Go.Proofs.Ythljimmhgpbmbab
open Go.ChangeShapes Go.WideShapes Go.ChangeAt Go.RowKit Go.Proofs

end Go.Proofs.Ythljimmhgpbmbab
