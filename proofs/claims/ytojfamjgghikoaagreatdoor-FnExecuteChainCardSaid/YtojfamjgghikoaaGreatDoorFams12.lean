/- Families: the rest, levels. -/
import Derived.Test.YtojfamjgghikoaaGreatDoorFams10
namespace Go.Proofs.YtojfamjgghikoaaGreatDoor
open Go.ChangeShapes Go.WideShapes Go.ChangeAt Go.RowKit Go.Proofs

theorem upI_lt {n : Int} (n1 : 1 ≤ n) (n2 : n ≤ 8) : ∀ z ∈ sortL (upI (2 ^ n.toNat)), setB n z = true := fun z hz => by
  have h := mem_upI.1 (mem_sortL.1 hz)
  have : ((2 ^ n.toNat : Nat) : Int) = 2 ^ n.toNat := by simp
  exact setB_mk ⟨n1, n2, h.1, by omega⟩
end Go.Proofs.YtojfamjgghikoaaGreatDoor
