/- Linked sets: what a pointer leads to, their number. -/
import Derived.Test.YtjhjmbiecihjhaaDoorCp1
namespace Go.Proofs.YtjhjmbiecihjhaaDoor
open Go.ChangeShapes Go.WideShapes Go.ChangeAt Go.RowKit Go.Proofs

end Go.Proofs.YtjhjmbiecihjhaaDoor
