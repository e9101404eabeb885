/- Families as lists of numbers: written out, compared, read. -/
import Derived.Test.YtoglcinfnhhkhabDoorFams
namespace Go.Proofs.YtoglcinfnhhkhabDoor
open Go.ChangeShapes Go.WideShapes Go.ChangeAt Go.RowKit Go.Proofs

end Go.Proofs.YtoglcinfnhhkhabDoor
