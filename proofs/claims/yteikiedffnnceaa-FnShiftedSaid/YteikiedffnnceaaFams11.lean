/- Families: unions, the rest, levels. -/
import Derived.Test.YteikiedffnnceaaFams10
namespace Go.Proofs.Yteikiedffnnceaa
open Go.ChangeShapes Go.WideShapes Go.ChangeAt Go.RowKit Go.Proofs

end Go.Proofs.Yteikiedffnnceaa
