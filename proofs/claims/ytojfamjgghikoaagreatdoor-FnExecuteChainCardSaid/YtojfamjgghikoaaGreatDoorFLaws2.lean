/- The exact laws of functions of a list and a number. -/
import Derived.Test.YtojfamjgghikoaaGreatDoorFLaws
namespace Go.Proofs.YtojfamjgghikoaaGreatDoor
open Go.ChangeShapes Go.WideShapes Go.ChangeAt Go.RowKit Go.Proofs

end Go.Proofs.YtojfamjgghikoaaGreatDoor
