/- What is made of one family or of two, read from lists. -/
import Derived.Test.YtoglcinfnhhkhabDoorFams6
namespace Go.Proofs.YtoglcinfnhhkhabDoor
open Go.ChangeShapes Go.WideShapes Go.ChangeAt Go.RowKit Go.Proofs

/-- the function value g, bound to cs, makes ys of the family xs. -/
def FamMap (g : Nat) (cs : Array Value) (xs ys : List Int) (w : World) : Prop :=
  ∀ (W : World) (lv : Value), Below w.heap.size w W → SRow W W.heap.size lv xs → Calls Tryd.prog g (#[.agg #[lv, (Value.func (.func 32) #[] #[])]] ++ cs) W (FamPost W ys)
/-- the function value g makes ys of two families. -/
def FamMap2 (g : Nat) (cs : Array Value) (xs zs ys : List Int) (w : World) : Prop :=
  ∀ (W : World) (lv lu : Value), Below w.heap.size w W → SRow W W.heap.size lv xs → SRow W W.heap.size lu zs → Calls Tryd.prog g (#[.agg #[lv, (Value.func (.func 32) #[] #[])], .agg #[lu, (Value.func (.func 32) #[] #[])]] ++ cs) W (FamPost W ys)
/-- the list if the bool holds. -/
def ifL (b : Bool) (ys : List Int) : List Int := if b then ys else []
theorem own_empty (w : World) (B S g c : Nat) : Own w B S (.slice (some ⟨g, 0, none⟩) 0 c) [] := ⟨_, c, rfl, fun h => by simp at h⟩
end Go.Proofs.YtoglcinfnhhkhabDoor
