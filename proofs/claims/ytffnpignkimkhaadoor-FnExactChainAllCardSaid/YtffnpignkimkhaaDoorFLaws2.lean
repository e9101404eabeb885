/- The exact laws of functions of a list and a number. -/
import Derived.Test.YtffnpignkimkhaaDoorFLaws
namespace Go.Proofs.YtffnpignkimkhaaDoor
open Go.ChangeShapes Go.WideShapes Go.ChangeAt Go.RowKit Go.Proofs

end Go.Proofs.YtffnpignkimkhaaDoor
