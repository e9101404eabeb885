/- Families read from lists; FamilyIn and FamilyOf. -/
import Derived.Test.YtoglcinfnhhkhabDoorFams3
namespace Go.Proofs.YtoglcinfnhhkhabDoor
open Go.ChangeShapes Go.WideShapes Go.ChangeAt Go.RowKit Go.Proofs

theorem famB_of {n : Int} {xs : List Int} (h : colB n xs = true) : famB n xs = sameB (sortL xs) xs := by unfold famB sameB; rw [h, Bool.true_and]
theorem famB_no {n : Int} {xs : List Int} (h : colB n xs = false) : famB n xs = false := by unfold famB; rw [h, Bool.false_and]
theorem ret_vb {v : Value} {c d : Bool} (h : c = d) : Ending.returned (.tuple #[v, .bool c]) = .returned (.tuple #[v, .bool d]) := by rw [h]
theorem SetL.cast {w : World} {B : Nat} {v : Value} {ys zs : List Int} (e : ys = zs) (h : SetL w B v ys) : SetL w B v zs := e ▸ h
theorem same_yes {xs ys : List Int} (h : sameB xs ys = true) : xs = ys := of_decide_eq_true h
/-- what readFamily leaves. -/
def ReadPost (n : Int) (xs : List Int) (w : World) (e : Ending) (w' : World) : Prop :=
  (famB n xs = true ∧ ∃ v, e = .returned (.tuple #[.agg #[v, (Value.func (.func 32) #[] #[])], .bool true]) ∧ SetL w' w.heap.size v xs ∧ Below w.heap.size w w') ∨
  (famB n xs = false ∧ e = .returned (.tuple #[.agg #[.slice none 0 0, .nilFunc], .bool false]) ∧ Below w.heap.size w w')
/-- what a function that returns a list and a bool leaves. -/
def ListPost (L : List Int) (b : Bool) (w : World) (e : Ending) (w' : World) : Prop := ∃ v, e = .returned (.tuple #[v, .bool b]) ∧ Own w' w.heap.size w'.heap.size v L ∧ Below w.heap.size w w'
/-- what FamilyOf says. -/
def famOfL (n : Int) (xs : List Int) : List Int := if colB n xs then sortL xs else []
end Go.Proofs.YtoglcinfnhhkhabDoor
