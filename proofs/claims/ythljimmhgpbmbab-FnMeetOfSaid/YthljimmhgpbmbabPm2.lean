/- The model's UnionPrimes. -/
import Derived.Test.YthljimmhgpbmbabAllC9
import Derived.Test.YthljimmhgpbmbabCs2
namespace Go.Proofs.Ythljimmhgpbmbab
open Go.ChangeShapes Go.WideShapes Go.ChangeAt Go.RowKit Go.Proofs

theorem bel_same {xs : List Int} {k : Nat} {x : Int} (hk : k < xs.length) (hx : xs.getD k 0 = x) : belI x (xs.take (k + 1)) = belI x (xs.take k) := by
  rw [bel_take hk hx]
  have : partO x x = false := by unfold partO; simp
  rw [this]; rfl
theorem bel_other {xs : List Int} {k : Nat} {x z : Int} (hk : k < xs.length) (hz : xs.getD k 0 = z) (hne : z ≠ x) : belI x (xs.take (k + 1)) = if partB z x then orI (belI x (xs.take k)) z else belI x (xs.take k) := by
  rw [bel_take hk hz]
  have : partO z x = partB z x := by
    unfold partO
    have h : (z != x) = true := by simpa using hne
    rw [h, Bool.true_and]
  rw [this]
end Go.Proofs.Ythljimmhgpbmbab
