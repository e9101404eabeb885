/- The law of a function of a number and a list that answers a bool. -/
import Derived.Test.YtpjapoaagbdlfaaDoorFLaws
namespace Go.Proofs.YtpjapoaagbdlfaaDoor
open Go.ChangeShapes Go.WideShapes Go.ChangeAt Go.RowKit Go.Proofs
end Go.Proofs.YtpjapoaagbdlfaaDoor
