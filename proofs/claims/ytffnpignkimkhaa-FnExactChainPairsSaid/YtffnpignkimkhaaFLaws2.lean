/- The exact laws of functions of a list and a number. -/
import Derived.Test.YtffnpignkimkhaaFLaws
namespace Go.Proofs.Ytffnpignkimkhaa
open Go.ChangeShapes Go.WideShapes Go.ChangeAt Go.RowKit Go.Proofs

end Go.Proofs.Ytffnpignkimkhaa
