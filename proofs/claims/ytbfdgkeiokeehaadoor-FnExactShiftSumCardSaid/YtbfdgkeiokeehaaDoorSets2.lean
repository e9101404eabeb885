/- What the functions on sets return: points in sets, sizes, ways to choose. -/
import Derived.Test.YtbfdgkeiokeehaaDoorSets
namespace Go.Proofs.YtbfdgkeiokeehaaDoor
open Go.ChangeShapes Go.WideShapes Go.ChangeAt Go.RowKit

/-- p is a point of n. -/
def ptB (n p : Int) : Bool := decide (0 ≤ p ∧ p < n)
theorem ptB_yes {n p : Int} (h : ptB n p = true) : 0 ≤ p ∧ p < n := of_decide_eq_true h
theorem ptB_cases (n p : Int) : ptB n p = true ∨ ptB n p = false := by cases ptB n p <;> simp
theorem ptB_mk {n p : Int} (h1 : 0 ≤ p) (h2 : p < n) : ptB n p = true := decide_eq_true ⟨h1, h2⟩
theorem ptB_mk0 {n p : Int} (h : ¬ (0 ≤ p ∧ p < n)) : ptB n p = false := decide_eq_false h
/-- x lies between a and b. -/
def inB (x a b : Int) : Bool := decide (a ≤ x ∧ x ≤ b)
theorem inB_pt (n p : Int) : inB p 0 (n - 1) = ptB n p := by
  unfold inB ptB
  exact decide_eq_decide.2 (by omega)
theorem l6in (x a b : Int) (w : World) : Calls Tryd.prog 19 #[.int .i64 x, .int .i64 a, .int .i64 b] w fun e w' => e = .returned (.bool (inB x a b)) ∧ w = w' := by
  by_cases h1 : a ≤ x <;> by_cases h2 : x ≤ b
  all_goals
    have hp := Lib.hid (show inB x a b = decide (a ≤ x ∧ x ≤ b) from rfl)
    go_enter Tryd.func19, Tryd.ntmps19
    go_wp2
    go_ret
    exact ⟨ret_bool (by rw [hp.out]; simp; try omega), rfl⟩
theorem grown_drewN {w W : World} (h : Grown w W) (a : Nat) : Grown w (W.drewN a) := h

end Go.Proofs.YtbfdgkeiokeehaaDoor
