/- The exact laws of functions of a list and a number. -/
import Derived.Test.YthljimmhgpbmbaaFLaws
namespace Go.Proofs.Ythljimmhgpbmbaa
open Go.ChangeShapes Go.WideShapes Go.ChangeAt Go.RowKit Go.Proofs

end Go.Proofs.Ythljimmhgpbmbaa
