/- Families as lists of numbers: written out, compared, read. -/
import Derived.Test.YtffnpignkimkhaaDoorFams
namespace Go.Proofs.YtffnpignkimkhaaDoor
open Go.ChangeShapes Go.WideShapes Go.ChangeAt Go.RowKit Go.Proofs

end Go.Proofs.YtffnpignkimkhaaDoor
