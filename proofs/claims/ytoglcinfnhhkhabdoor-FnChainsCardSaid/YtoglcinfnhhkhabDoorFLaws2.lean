/- The exact laws of functions of a list and a number. -/
import Derived.Test.YtoglcinfnhhkhabDoorFLaws
namespace Go.Proofs.YtoglcinfnhhkhabDoor
open Go.ChangeShapes Go.WideShapes Go.ChangeAt Go.RowKit Go.Proofs

end Go.Proofs.YtoglcinfnhhkhabDoor
