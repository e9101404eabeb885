/- The ball order of sets: plain mathematics. -/
import Derived.Test.YtpjapoaagbdlfaaGreatDoorBn1
import Derived.Test.YtpjapoaagbdlfaaGreatDoorIter
namespace Go.Proofs.YtpjapoaagbdlfaaGreatDoor
open Go.ChangeShapes Go.WideShapes Go.ChangeAt Go.RowKit Go.Proofs

/-- the points below k, the first one the weightiest. -/
def rvTo (s : Int) : Nat → Int
  | 0 => 0
  | k + 1 => 2 * rvTo s k + (if hasB s (k : Nat) then 1 else 0)
/-- the place of a set in ball order, up to gaps. -/
def bkI (s : Int) : Int := cntI s * 256 + (255 - rvTo s 8)
/-- the set of a place. -/
def unb (k : Int) : Int := rvTo (255 - k % 256) 8
/-- what slices.Compare says. -/
def lexI : List Int → List Int → Int
  | [], [] => 0
  | [], _ :: _ => -1
  | _ :: _, [] => 1
  | x :: xs, y :: ys => if x < y then -1 else if y < x then 1 else lexI xs ys
/-- whether the first of the last k points in which two sets differ is in the first one. -/
def fdB (a b : Int) : Nat → Bool
  | 0 => false
  | k + 1 => if hasB a (7 - (k : Nat) : Int) != hasB b (7 - (k : Nat) : Int) then hasB a (7 - (k : Nat) : Int) else fdB a b k
theorem bk_dec : ∀ s : Fin 256, 0 ≤ bkI (s.val : Nat) ∧ bkI (s.val : Nat) < 4096 ∧ unb (bkI (s.val : Nat)) = (s.val : Nat) := by decide +kernel
theorem bk_facts {s : Int} (h1 : 0 ≤ s) (h2 : s < 256) : 0 ≤ bkI s ∧ bkI s < 4096 ∧ unb (bkI s) = s :=
  all256 (P := fun s => 0 ≤ bkI s ∧ bkI s < 4096 ∧ unb (bkI s) = s) bk_dec h1 h2
/-- what cmp.Compare says of numbers. -/
def cmI (x y : Int) : Int := if x < y then -1 else if y < x then 1 else 0
/-- what compareInBallOrder says. -/
def bcI (a b : Int) : Int := if cmI (cntI a) (cntI b) != 0 then cmI (cntI a) (cntI b) else lexI (ptsI a) (ptsI b)
/-- what the model's l8Ahead says. -/
def ahB (a b : Int) : Bool := if cntI a != cntI b then decide (cntI a < cntI b) else fdB a b 8
end Go.Proofs.YtpjapoaagbdlfaaGreatDoor
