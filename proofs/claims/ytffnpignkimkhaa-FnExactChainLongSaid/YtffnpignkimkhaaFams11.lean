/- Families: unions, the rest, levels. -/
import Derived.Test.YtffnpignkimkhaaFams10
namespace Go.Proofs.Ytffnpignkimkhaa
open Go.ChangeShapes Go.WideShapes Go.ChangeAt Go.RowKit Go.Proofs

end Go.Proofs.Ytffnpignkimkhaa
