/- The law of a function of a number and two lists that answers a bool. -/
import Derived.Test.YthljimmhgpbmbabFLaws
namespace Go.Proofs.Ythljimmhgpbmbab
open Go.ChangeShapes Go.WideShapes Go.ChangeAt Go.RowKit Go.Proofs
end Go.Proofs.Ythljimmhgpbmbab
