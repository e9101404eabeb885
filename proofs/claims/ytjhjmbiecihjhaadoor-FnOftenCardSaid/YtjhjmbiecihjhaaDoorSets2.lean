/- What the functions on sets return: points in sets, sizes, ways to choose. -/
import Derived.Test.YtjhjmbiecihjhaaDoorSets
namespace Go.Proofs.YtjhjmbiecihjhaaDoor
open Go.ChangeShapes Go.WideShapes Go.ChangeAt Go.RowKit

/-- p is a point of n. -/
def ptB (n p : Int) : Bool := decide (0 ≤ p ∧ p < n)
theorem ptB_yes {n p : Int} (h : ptB n p = true) : 0 ≤ p ∧ p < n := of_decide_eq_true h
theorem ptB_cases (n p : Int) : ptB n p = true ∨ ptB n p = false := by cases ptB n p <;> simp
theorem ptB_mk {n p : Int} (h1 : 0 ≤ p) (h2 : p < n) : ptB n p = true := decide_eq_true ⟨h1, h2⟩
theorem ptB_mk0 {n p : Int} (h : ¬ (0 ≤ p ∧ p < n)) : ptB n p = false := decide_eq_false h
/-- x lies between a and b. -/
def inB (x a b : Int) : Bool := decide (a ≤ x ∧ x ≤ b)
theorem inB_pt (n p : Int) : inB p 0 (n - 1) = ptB n p := by
  unfold inB ptB
  exact decide_eq_decide.2 (by omega)
theorem l6in (x a b : Int) (w : World) : Calls Tryd.prog 49 #[.int .i64 x, .int .i64 a, .int .i64 b] w fun e w' => e = .returned (.bool (inB x a b)) ∧ w = w' := by
  by_cases h1 : a ≤ x <;> by_cases h2 : x ≤ b
  all_goals
    have hp := Lib.hid (show inB x a b = decide (a ≤ x ∧ x ≤ b) from rfl)
    go_enter Tryd.func49, Tryd.ntmps49
    go_wp2
    go_ret
    exact ⟨ret_bool (by rw [hp.out]; simp; try omega), rfl⟩
theorem grown_drewN {w W : World} (h : Grown w W) (a : Nat) : Grown w (W.drewN a) := h

theorem set_with (s p : Int) (h1 : 0 ≤ s) (h2 : s < 256) (h3 : 0 ≤ p) (h4 : p ≤ 7) (w : World) : Calls Tryd.prog 59 #[.int .u64 s, .int .i64 p] w fun e w' => e = .returned (.int .u64 (withI s p)) ∧ w = w' := by
  go_enter Tryd.func59, Tryd.ntmps59
  go_wp2
  go_ret
  exact ⟨ret_int (with_u64 h1 h2 h3 h4), rfl⟩
theorem l1size (s : Int) (h1 : 0 ≤ s) (h2 : s < 256) (w : World) : Calls Tryd.prog 85 #[.int .i64 s] w fun e w' => e = .returned (.int .i64 (cntI s)) ∧ w = w' := by
  go_enter Tryd.func85, Tryd.ntmps85
  go_wp2
  go_loop [3, 4] (fun n i => ∃ k : Nat, k ≤ 8 ∧ i = .int .i64 k ∧ n = .int .i64 (cntTo s k : Nat)) (fun _ i => 8 - (intOf i).toNat)
  case atStart => exact ⟨0, by omega, rfl, rfl⟩
  case round =>
    obtain ⟨k, hk, rfl, rfl⟩ := hrel
    have hc := cnt_le s k
    by_cases hlt : k < 8
    · have hb := Lib.hid (bit_i64 (s := s) (p := (k : Nat)) h1 h2 (by omega) (by omega))
      have hx : 0 ≤ bits .and .i64 (s / 2 ^ k) 1 ∧ bits .and .i64 (s / 2 ^ k) 1 ≤ 1 := by
        have := hb.out; simp only [Int.toNat_natCast] at this; rw [this]; split <;> omega
      obtain ⟨hx1, hx2⟩ := hx
      go_wp2
      go_round
      case rel =>
        refine ⟨k + 1, by omega, by go_num, ?_⟩
        have := hb.out
        simp only [Int.toNat_natCast] at this
        simp only [cntTo, this]
        by_cases hh : hasB s k <;> simp [hh]
      case measure => simp [intOf]; omega
    · obtain rfl : k = 8 := by omega
      go_wp2
      go_ret
      exact ⟨rfl, rfl⟩

end Go.Proofs.YtjhjmbiecihjhaaDoor
