/- The longest of some chains of which a set is a part of the first set. -/
import Derived.Test.YtjhjmbiecihjhaaDoorCl1
import Derived.Test.YtjhjmbiecihjhaaDoorLk
namespace Go.Proofs.YtjhjmbiecihjhaaDoor
open Go.ChangeShapes Go.WideShapes Go.ChangeAt Go.RowKit Go.Proofs

/-- the greatest length of the first j of some chains of which s is a part of the first set. -/
def lgst (s : Int) (C : Nat → List Int) : Nat → Nat
  | 0 => 0
  | j + 1 => max (lgst s C j) (if partB s ((C j).headD 0) then (C j).length else 0)
theorem lgst_le (s : Int) (C : Nat → List Int) (B : Nat) : ∀ j, (∀ i, i < j → (C i).length ≤ B) → lgst s C j ≤ B
  | 0, _ => Nat.zero_le _
  | j + 1, h => by
    have h1 := lgst_le s C B j (fun i hi => h i (by omega))
    have h2 := h j (by omega)
    unfold lgst
    split <;> omega
/-- the one that is found. -/
def bestV (s : Int) (C : Nat → List Int) (V : Nat → Value) : Nat → Value
  | 0 => .pointer none
  | j + 1 => if (if partB s ((C j).headD 0) then (C j).length else 0) > lgst s C j then V j else bestV s C V j
end Go.Proofs.YtjhjmbiecihjhaaDoor
