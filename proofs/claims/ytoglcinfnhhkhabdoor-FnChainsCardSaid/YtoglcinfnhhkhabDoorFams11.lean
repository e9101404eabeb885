/- Families: unions, the rest, levels. -/
import Derived.Test.YtoglcinfnhhkhabDoorFams10
namespace Go.Proofs.YtoglcinfnhhkhabDoor
open Go.ChangeShapes Go.WideShapes Go.ChangeAt Go.RowKit Go.Proofs

end Go.Proofs.YtoglcinfnhhkhabDoor
