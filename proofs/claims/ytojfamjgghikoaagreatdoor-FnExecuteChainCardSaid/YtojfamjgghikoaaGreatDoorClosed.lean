/- The closed facts on the whole program that each row asks: once for all laws of a great seat. -/
import Derived.Test.YtojfamjgghikoaaGreatDoorCloA
import Derived.Test.YtojfamjgghikoaaGreatDoorCloB
import Derived.Test.YtojfamjgghikoaaGreatDoorCloC
import Derived.Test.YtojfamjgghikoaaGreatDoorCloD
namespace Go.Proofs.YtojfamjgghikoaaGreatDoor
end Go.Proofs.YtojfamjgghikoaaGreatDoor
