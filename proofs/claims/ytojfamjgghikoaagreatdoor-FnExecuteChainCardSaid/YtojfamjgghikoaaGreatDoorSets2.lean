/- What the functions on sets return: points in sets, sizes, ways to choose. -/
import Derived.Test.YtojfamjgghikoaaGreatDoorSets
namespace Go.Proofs.YtojfamjgghikoaaGreatDoor
open Go.ChangeShapes Go.WideShapes Go.ChangeAt Go.RowKit

/-- p is a point of n. -/
def ptB (n p : Int) : Bool := decide (0 ≤ p ∧ p < n)
theorem ptB_yes {n p : Int} (h : ptB n p = true) : 0 ≤ p ∧ p < n := of_decide_eq_true h
theorem ptB_cases (n p : Int) : ptB n p = true ∨ ptB n p = false := by cases ptB n p <;> simp
theorem ptB_mk {n p : Int} (h1 : 0 ≤ p) (h2 : p < n) : ptB n p = true := decide_eq_true ⟨h1, h2⟩
theorem ptB_mk0 {n p : Int} (h : ¬ (0 ≤ p ∧ p < n)) : ptB n p = false := decide_eq_false h
/-- x lies between a and b. -/
def inB (x a b : Int) : Bool := decide (a ≤ x ∧ x ≤ b)
theorem inB_pt (n p : Int) : inB p 0 (n - 1) = ptB n p := by
  unfold inB ptB
  exact decide_eq_decide.2 (by omega)
theorem l6in (x a b : Int) (w : World) : Calls Tryz.prog 40 #[.int .i64 x, .int .i64 a, .int .i64 b] w fun e w' => e = .returned (.bool (inB x a b)) ∧ w = w' := by
  by_cases h1 : a ≤ x <;> by_cases h2 : x ≤ b
  all_goals
    have hp := Lib.hid (show inB x a b = decide (a ≤ x ∧ x ≤ b) from rfl)
    go_enter Tryz.func40, Tryz.ntmps40
    go_wp2
    go_ret
    exact ⟨ret_bool (by rw [hp.out]; simp; try omega), rfl⟩
theorem grown_drewN {w W : World} (h : Grown w W) (a : Nat) : Grown w (W.drewN a) := h

theorem set_has (s p : Int) (h1 : 0 ≤ s) (h2 : s < 256) (h3 : 0 ≤ p) (h4 : p ≤ 7) (w : World) : Calls Tryz.prog 73 #[.int .u64 s, .int .i64 p] w fun e w' => e = .returned (.bool (hasB s p)) ∧ w = w' := by
  go_enter Tryz.func73, Tryz.ntmps73
  go_wp2
  go_ret
  exact ⟨ret_bool (has_u64 h1 h2 h3 h4), rfl⟩
theorem set_with (s p : Int) (h1 : 0 ≤ s) (h2 : s < 256) (h3 : 0 ≤ p) (h4 : p ≤ 7) (w : World) : Calls Tryz.prog 72 #[.int .u64 s, .int .i64 p] w fun e w' => e = .returned (.int .u64 (withI s p)) ∧ w = w' := by
  go_enter Tryz.func72, Tryz.ntmps72
  go_wp2
  go_ret
  exact ⟨ret_int (with_u64 h1 h2 h3 h4), rfl⟩
theorem set_without (s p : Int) (h1 : 0 ≤ s) (h2 : s < 256) (h3 : 0 ≤ p) (h4 : p ≤ 7) (w : World) : Calls Tryz.prog 258 #[.int .u64 s, .int .i64 p] w fun e w' => e = .returned (.int .u64 (lessI s p)) ∧ w = w' := by
  go_enter Tryz.func258, Tryz.ntmps258
  go_wp2
  go_ret
  exact ⟨ret_int (less_u64 h1 h2 h3 h4), rfl⟩
theorem l1has (s p : Int) (h1 : 0 ≤ s) (h2 : s < 256) (h3 : 0 ≤ p) (h4 : p ≤ 7) (w : World) : Calls Tryz.prog 76 #[.int .i64 s, .int .i64 p] w fun e w' => e = .returned (.bool (hasB s p)) ∧ w = w' := by
  go_enter Tryz.func76, Tryz.ntmps76
  go_wp2
  go_ret
  exact ⟨ret_bool (has_i64 h1 h2 h3 h4), rfl⟩

set_option maxRecDepth 100000 in
theorem ones64 (s : Int) (h1 : 0 ≤ s) (h2 : s < 256) (w : World) : Calls Tryz.prog 192 #[.int .u64 s] w fun e w' => e = .returned (.int .i64 (cntI s)) ∧ w = w' := by
  go_enter Tryz.func192, Tryz.ntmps192
  go_wp2
  go_ret
  refine ⟨ret_int ?_, rfl⟩
  revert h1 h2
  revert s
  refine all256r ?_
  decide +kernel

theorem ones (s : Int) (h1 : 0 ≤ s) (h2 : s < 256) (w : World) : Calls Tryz.prog 132 #[.int .u64 s] w fun e w' => e = .returned (.int .i64 (cntI s)) ∧ w = w' := by
  go_enter Tryz.func132, Tryz.ntmps132
  go_wp2_with (go_at_call 192; refine (ones64 _ h1 h2 _).mono ?_; rintro e w' ⟨rfl, rfl⟩)
  go_ret
  exact ⟨rfl, rfl⟩
theorem set_size (s : Int) (h1 : 0 ≤ s) (h2 : s < 256) (w : World) : Calls Tryz.prog 67 #[.int .u64 s] w fun e w' => e = .returned (.int .i64 (cntI s)) ∧ w = w' := by
  go_enter Tryz.func67, Tryz.ntmps67
  go_wp2_with (go_at_call 132; refine (ones _ h1 h2 _).mono ?_; rintro e w' ⟨rfl, rfl⟩)
  go_ret
  exact ⟨rfl, rfl⟩

theorem l1size (s : Int) (h1 : 0 ≤ s) (h2 : s < 256) (w : World) : Calls Tryz.prog 68 #[.int .i64 s] w fun e w' => e = .returned (.int .i64 (cntI s)) ∧ w = w' := by
  go_enter Tryz.func68, Tryz.ntmps68
  go_wp2
  go_loop [3, 4] (fun n i => ∃ k : Nat, k ≤ 8 ∧ i = .int .i64 k ∧ n = .int .i64 (cntTo s k : Nat)) (fun _ i => 8 - (intOf i).toNat)
  case atStart => exact ⟨0, by omega, rfl, rfl⟩
  case round =>
    obtain ⟨k, hk, rfl, rfl⟩ := hrel
    have hc := cnt_le s k
    by_cases hlt : k < 8
    · have hb := Lib.hid (bit_i64 (s := s) (p := (k : Nat)) h1 h2 (by omega) (by omega))
      have hx : 0 ≤ bits .and .i64 (s / 2 ^ k) 1 ∧ bits .and .i64 (s / 2 ^ k) 1 ≤ 1 := by
        have := hb.out; simp only [Int.toNat_natCast] at this; rw [this]; split <;> omega
      obtain ⟨hx1, hx2⟩ := hx
      go_wp2
      go_round
      case rel =>
        refine ⟨k + 1, by omega, by go_num, ?_⟩
        have := hb.out
        simp only [Int.toNat_natCast] at this
        simp only [cntTo, this]
        by_cases hh : hasB s k <;> simp [hh]
      case measure => simp [intOf]; omega
    · obtain rfl : k = 8 := by omega
      go_wp2
      go_ret
      exact ⟨rfl, rfl⟩

theorem choose_in (n k : Int) (h1 : 0 ≤ n) (h2 : n ≤ 41) (h3 : 0 ≤ k) (h4 : k ≤ 41) (w : World) : Calls Tryz.prog 207 #[.int .i64 n, .int .i64 k] w fun e w' => e = .returned (.int .i64 (chI n k)) ∧ w = w' := by
  by_cases hkn : n < k
  · have hc := Lib.hid (show chI n k = 0 by unfold chI; rw [if_pos hkn])
    go_enter Tryz.func207, Tryz.ntmps207
    go_wp2
    go_ret
    exact ⟨ret_int hc.out.symm, rfl⟩
  · have hst := ch_steps h2 h3 (by omega)
    have hc := Lib.hid (show chI n k = chS n k k.toNat by unfold chI; rw [if_neg hkn])
    have hst := Lib.hid hst
    go_enter Tryz.func207, Tryz.ntmps207
    go_wp2
    go_loop [5, 6] (fun v i => ∃ j : Nat, (j : Int) ≤ k ∧ i = .int .i64 (j + 1) ∧ v = .int .i64 (chS n k j)) (fun _ i => (k + 1 - intOf i).toNat)
    case atStart => exact ⟨0, by omega, rfl, rfl⟩
    case round =>
      obtain ⟨j, hj, rfl, rfl⟩ := hrel
      by_cases hlt : (j : Int) < k
      · obtain ⟨a1, a2, a3, a4⟩ := hst.out j hlt
        simp only [Int.natCast_add, Int.cast_ofNat_Int] at a3 a4
        have hS := Lib.hid (show chS n k (j + 1) = chS n k j * (n - k + (j + 1)) / (j + 1) from rfl)
        go_wp2
        go_round
        case rel => exact ⟨j + 1, by omega, by go_num, by rw [hS.out]⟩
        case measure => simp [intOf]; omega
      · have e : j = k.toNat := by omega
        subst e
        go_wp2
        go_ret
        exact ⟨ret_int hc.out.symm, rfl⟩
end Go.Proofs.YtojfamjgghikoaaGreatDoor
