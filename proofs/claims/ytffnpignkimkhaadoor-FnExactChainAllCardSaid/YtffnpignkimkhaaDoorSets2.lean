/- What the functions on sets return: points in sets, sizes, ways to choose. -/
import Derived.Test.YtffnpignkimkhaaDoorSets
namespace Go.Proofs.YtffnpignkimkhaaDoor
open Go.ChangeShapes Go.WideShapes Go.ChangeAt Go.RowKit

/-- p is a point of n. -/
def ptB (n p : Int) : Bool := decide (0 ≤ p ∧ p < n)
theorem ptB_yes {n p : Int} (h : ptB n p = true) : 0 ≤ p ∧ p < n := of_decide_eq_true h
theorem ptB_cases (n p : Int) : ptB n p = true ∨ ptB n p = false := by cases ptB n p <;> simp
theorem ptB_mk {n p : Int} (h1 : 0 ≤ p) (h2 : p < n) : ptB n p = true := decide_eq_true ⟨h1, h2⟩
theorem ptB_mk0 {n p : Int} (h : ¬ (0 ≤ p ∧ p < n)) : ptB n p = false := decide_eq_false h
/-- x lies between a and b. -/
def inB (x a b : Int) : Bool := decide (a ≤ x ∧ x ≤ b)
theorem inB_pt (n p : Int) : inB p 0 (n - 1) = ptB n p := by
  unfold inB ptB
  exact decide_eq_decide.2 (by omega)
theorem l6in (x a b : Int) (w : World) : Calls Tryd.prog 37 #[.int .i64 x, .int .i64 a, .int .i64 b] w fun e w' => e = .returned (.bool (inB x a b)) ∧ w = w' := by
  by_cases h1 : a ≤ x <;> by_cases h2 : x ≤ b
  all_goals
    have hp := Lib.hid (show inB x a b = decide (a ≤ x ∧ x ≤ b) from rfl)
    go_enter Tryd.func37, Tryd.ntmps37
    go_wp2
    go_ret
    exact ⟨ret_bool (by rw [hp.out]; simp; try omega), rfl⟩
theorem grown_drewN {w W : World} (h : Grown w W) (a : Nat) : Grown w (W.drewN a) := h

theorem set_has (s p : Int) (h1 : 0 ≤ s) (h2 : s < 256) (h3 : 0 ≤ p) (h4 : p ≤ 7) (w : World) : Calls Tryd.prog 34 #[.int .u64 s, .int .i64 p] w fun e w' => e = .returned (.bool (hasB s p)) ∧ w = w' := by
  go_enter Tryd.func34, Tryd.ntmps34
  go_wp2
  go_ret
  exact ⟨ret_bool (has_u64 h1 h2 h3 h4), rfl⟩
theorem set_with (s p : Int) (h1 : 0 ≤ s) (h2 : s < 256) (h3 : 0 ≤ p) (h4 : p ≤ 7) (w : World) : Calls Tryd.prog 33 #[.int .u64 s, .int .i64 p] w fun e w' => e = .returned (.int .u64 (withI s p)) ∧ w = w' := by
  go_enter Tryd.func33, Tryd.ntmps33
  go_wp2
  go_ret
  exact ⟨ret_int (with_u64 h1 h2 h3 h4), rfl⟩
theorem l1has (s p : Int) (h1 : 0 ≤ s) (h2 : s < 256) (h3 : 0 ≤ p) (h4 : p ≤ 7) (w : World) : Calls Tryd.prog 39 #[.int .i64 s, .int .i64 p] w fun e w' => e = .returned (.bool (hasB s p)) ∧ w = w' := by
  go_enter Tryd.func39, Tryd.ntmps39
  go_wp2
  go_ret
  exact ⟨ret_bool (has_i64 h1 h2 h3 h4), rfl⟩

end Go.Proofs.YtffnpignkimkhaaDoor
