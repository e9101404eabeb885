/- The exact laws of functions of a list and a number. -/
import Derived.Test.YtgkbaenjniapiaaFLaws
namespace Go.Proofs.Ytgkbaenjniapiaa
open Go.ChangeShapes Go.WideShapes Go.ChangeAt Go.RowKit Go.Proofs

end Go.Proofs.Ytgkbaenjniapiaa
