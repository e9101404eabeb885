/- Families: unions, the rest, levels. -/
import Derived.Test.YtffnpignkimkhaaDoorFams10
namespace Go.Proofs.YtffnpignkimkhaaDoor
open Go.ChangeShapes Go.WideShapes Go.ChangeAt Go.RowKit Go.Proofs

end Go.Proofs.YtffnpignkimkhaaDoor
