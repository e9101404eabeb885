/- The law of a function of a number and a list that answers a bool. -/
import Derived.Test.YtpjapoaagbdlfaaGreatDoorFLaws
namespace Go.Proofs.YtpjapoaagbdlfaaGreatDoor
open Go.ChangeShapes Go.WideShapes Go.ChangeAt Go.RowKit Go.Proofs
end Go.Proofs.YtpjapoaagbdlfaaGreatDoor
