/- What the functions on sets return: points in sets, sizes, ways to choose. -/
import Derived.Test.YtoglcinfnhhkhabDoorSets
namespace Go.Proofs.YtoglcinfnhhkhabDoor
open Go.ChangeShapes Go.WideShapes Go.ChangeAt Go.RowKit

/-- p is a point of n. -/
def ptB (n p : Int) : Bool := decide (0 ≤ p ∧ p < n)
theorem ptB_yes {n p : Int} (h : ptB n p = true) : 0 ≤ p ∧ p < n := of_decide_eq_true h
theorem ptB_cases (n p : Int) : ptB n p = true ∨ ptB n p = false := by cases ptB n p <;> simp
theorem ptB_mk {n p : Int} (h1 : 0 ≤ p) (h2 : p < n) : ptB n p = true := decide_eq_true ⟨h1, h2⟩
theorem ptB_mk0 {n p : Int} (h : ¬ (0 ≤ p ∧ p < n)) : ptB n p = false := decide_eq_false h
/-- x lies between a and b. -/
def inB (x a b : Int) : Bool := decide (a ≤ x ∧ x ≤ b)
theorem inB_pt (n p : Int) : inB p 0 (n - 1) = ptB n p := by
  unfold inB ptB
  exact decide_eq_decide.2 (by omega)
theorem l6in (x a b : Int) (w : World) : Calls Tryd.prog 28 #[.int .i64 x, .int .i64 a, .int .i64 b] w fun e w' => e = .returned (.bool (inB x a b)) ∧ w = w' := by
  by_cases h1 : a ≤ x <;> by_cases h2 : x ≤ b
  all_goals
    have hp := Lib.hid (show inB x a b = decide (a ≤ x ∧ x ≤ b) from rfl)
    go_enter Tryd.func28, Tryd.ntmps28
    go_wp2
    go_ret
    exact ⟨ret_bool (by rw [hp.out]; simp; try omega), rfl⟩
theorem grown_drewN {w W : World} (h : Grown w W) (a : Nat) : Grown w (W.drewN a) := h

theorem set_has (s p : Int) (h1 : 0 ≤ s) (h2 : s < 256) (h3 : 0 ≤ p) (h4 : p ≤ 7) (w : World) : Calls Tryd.prog 25 #[.int .u64 s, .int .i64 p] w fun e w' => e = .returned (.bool (hasB s p)) ∧ w = w' := by
  go_enter Tryd.func25, Tryd.ntmps25
  go_wp2
  go_ret
  exact ⟨ret_bool (has_u64 h1 h2 h3 h4), rfl⟩
theorem set_with (s p : Int) (h1 : 0 ≤ s) (h2 : s < 256) (h3 : 0 ≤ p) (h4 : p ≤ 7) (w : World) : Calls Tryd.prog 24 #[.int .u64 s, .int .i64 p] w fun e w' => e = .returned (.int .u64 (withI s p)) ∧ w = w' := by
  go_enter Tryd.func24, Tryd.ntmps24
  go_wp2
  go_ret
  exact ⟨ret_int (with_u64 h1 h2 h3 h4), rfl⟩
theorem l1has (s p : Int) (h1 : 0 ≤ s) (h2 : s < 256) (h3 : 0 ≤ p) (h4 : p ≤ 7) (w : World) : Calls Tryd.prog 30 #[.int .i64 s, .int .i64 p] w fun e w' => e = .returned (.bool (hasB s p)) ∧ w = w' := by
  go_enter Tryd.func30, Tryd.ntmps30
  go_wp2
  go_ret
  exact ⟨ret_bool (has_i64 h1 h2 h3 h4), rfl⟩

theorem choose_in (n k : Int) (h1 : 0 ≤ n) (h2 : n ≤ 41) (h3 : 0 ≤ k) (h4 : k ≤ 41) (w : World) : Calls Tryd.prog 18 #[.int .i64 n, .int .i64 k] w fun e w' => e = .returned (.int .i64 (chI n k)) ∧ w = w' := by
  by_cases hkn : n < k
  · have hc := Lib.hid (show chI n k = 0 by unfold chI; rw [if_pos hkn])
    go_enter Tryd.func18, Tryd.ntmps18
    go_wp2
    go_ret
    exact ⟨ret_int hc.out.symm, rfl⟩
  · have hst := ch_steps h2 h3 (by omega)
    have hc := Lib.hid (show chI n k = chS n k k.toNat by unfold chI; rw [if_neg hkn])
    have hst := Lib.hid hst
    go_enter Tryd.func18, Tryd.ntmps18
    go_wp2
    go_loop [5, 6] (fun v i => ∃ j : Nat, (j : Int) ≤ k ∧ i = .int .i64 (j + 1) ∧ v = .int .i64 (chS n k j)) (fun _ i => (k + 1 - intOf i).toNat)
    case atStart => exact ⟨0, by omega, rfl, rfl⟩
    case round =>
      obtain ⟨j, hj, rfl, rfl⟩ := hrel
      by_cases hlt : (j : Int) < k
      · obtain ⟨a1, a2, a3, a4⟩ := hst.out j hlt
        simp only [Int.natCast_add, Int.cast_ofNat_Int] at a3 a4
        have hS := Lib.hid (show chS n k (j + 1) = chS n k j * (n - k + (j + 1)) / (j + 1) from rfl)
        go_wp2
        go_round
        case rel => exact ⟨j + 1, by omega, by go_num, by rw [hS.out]⟩
        case measure => simp [intOf]; omega
      · have e : j = k.toNat := by omega
        subst e
        go_wp2
        go_ret
        exact ⟨ret_int hc.out.symm, rfl⟩
end Go.Proofs.YtoglcinfnhhkhabDoor
