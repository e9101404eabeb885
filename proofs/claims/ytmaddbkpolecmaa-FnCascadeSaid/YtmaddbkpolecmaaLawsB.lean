/- The exact laws on sets that take integers, further: others, moved sets, ways to choose. -/
import Derived.Test.YtmaddbkpolecmaaLawsA
namespace Go.Proofs.Ytmaddbkpolecmaa
open Go.ChangeShapes Go.WideShapes Go.ChangeAt Go.RowKit

theorem ret_ib {k : IntKind} {a b : Int} {c : Bool} (h : a = b) : Ending.returned (.tuple #[.int k a, .bool c]) = .returned (.tuple #[.int k b, .bool c]) := by rw [h]
theorem all_pts (n : Int) (h1 : 1 ≤ n) (h2 : n ≤ 8) (w : World) : Calls Try.prog 30 #[.int .i64 n] w fun e w' => e = .returned (.int .u64 (2 ^ n.toNat - 1)) ∧ w = w' := by
  go_enter Try.func30, Try.ntmps30
  go_wp2
  go_ret
  exact ⟨ret_int (all_wrap h1 h2), rfl⟩

theorem im_other_yes (n s : Int) (h : setB n s = true) (w : World) : Calls Try.prog 11 #[.int .i64 n, .int .i64 s] w fun e w' => e = .returned (.tuple #[.int .i64 (otherI n s), .bool true]) ∧ w = w' := by
  obtain ⟨a, b, c, d⟩ := setB_yes h
  have hs := setB_lt h
  have h1 := Lib.hid (fun W => set_in_yes n s h W)
  have ho := Lib.hid (other_u64 a b c d)
  have hz : 0 ≤ bits .andNot .u64 (2 ^ n.toNat - 1) s ∧ bits .andNot .u64 (2 ^ n.toNat - 1) s ≤ 255 := by
    rw [ho.out]; unfold otherI; have := pow_le256 a b; omega
  obtain ⟨hz1, hz2⟩ := hz
  clear h
  go_enter Try.func11, Try.ntmps11
  go_wp2_with (first | (go_at_call 26; refine (h1.out _).mono ?_; rintro e w' ⟨rfl, rfl⟩) | (go_at_call 30; refine (all_pts _ a b _).mono ?_; rintro e w' ⟨rfl, rfl⟩))
  go_ret2
  exact ⟨ret_ib ho.out, rfl⟩
theorem im_other_no (n s : Int) (h : setB n s = false) (w : World) : Calls Try.prog 11 #[.int .i64 n, .int .i64 s] w fun e w' => e = .returned (.tuple #[.int .i64 0, .bool false]) ∧ w = w' := by
  have h1 := Lib.hid (fun W => set_in_no n s h W)
  clear h
  go_enter Try.func11, Try.ntmps11
  go_wp2_with (first | (go_at_call 26; refine (h1.out _).mono ?_; rintro e w' ⟨rfl, rfl⟩))
  go_ret2
  exact ⟨rfl, rfl⟩
theorem sp_other_yes (n s : Int) (h : setB n s = true) (w : World) : Calls Try.prog 14 #[.int .i64 n, .int .i64 s] w fun e w' => e = .returned (.tuple #[.int .i64 (otherI n s), .bool true]) ∧ w = w' := by
  obtain ⟨a, b, c, d⟩ := setB_yes h
  have h1 := Lib.hid (fun W => sp_set_in_yes n s h W)
  unfold otherI
  clear h
  rcases n8 a b with rfl | rfl | rfl | rfl | rfl | rfl | rfl | rfl
  all_goals
    simp at d
    go_enter Try.func14, Try.ntmps14
    go_wp2_with (first | (go_at_call 28; refine (h1.out _).mono ?_; rintro e w' ⟨rfl, rfl⟩))
    go_ret2
    exact ⟨rfl, rfl⟩
theorem sp_other_no (n s : Int) (h : setB n s = false) (w : World) : Calls Try.prog 14 #[.int .i64 n, .int .i64 s] w fun e w' => e = .returned (.tuple #[.int .i64 0, .bool false]) ∧ w = w' := by
  have h1 := Lib.hid (fun W => sp_set_in_no n s h W)
  clear h
  go_enter Try.func14, Try.ntmps14
  go_wp2_with (first | (go_at_call 28; refine (h1.out _).mono ?_; rintro e w' ⟨rfl, rfl⟩))
  go_ret2
  exact ⟨rfl, rfl⟩
/-! Choose -/
theorem sp_choose_in (n k : Int) (h1 : 0 ≤ n) (h2 : n ≤ 41) (h3 : 0 ≤ k) (h4 : k ≤ 41) (w : World) : Calls Try.prog 40 #[.int .i64 n, .int .i64 k] w fun e w' => e = .returned (.int .i64 (chI n k)) ∧ w = w' := by
  by_cases hkn : n < k
  · have hc := Lib.hid (show chI n k = 0 by unfold chI; rw [if_pos hkn])
    go_enter Try.func40, Try.ntmps40
    go_wp2
    go_ret
    exact ⟨ret_int hc.out.symm, rfl⟩
  · have hst := ch_steps h2 h3 (by omega)
    have hc := Lib.hid (show chI n k = chS n k k.toNat by unfold chI; rw [if_neg hkn])
    have hst := Lib.hid hst
    go_enter Try.func40, Try.ntmps40
    go_wp2
    go_loop [5, 6] (fun v i => ∃ j : Nat, (j : Int) ≤ k ∧ i = .int .i64 (j + 1) ∧ v = .int .i64 (chS n k j)) (fun _ i => (k + 1 - intOf i).toNat)
    case atStart => exact ⟨0, by omega, rfl, rfl⟩
    case round =>
      obtain ⟨j, hj, rfl, rfl⟩ := hrel
      by_cases hlt : (j : Int) < k
      · obtain ⟨a1, a2, a3, a4⟩ := hst.out j hlt
        simp only [Int.natCast_add, Int.cast_ofNat_Int] at a3 a4
        have hS := Lib.hid (show chS n k (j + 1) = chS n k j * (n - k + (j + 1)) / (j + 1) from rfl)
        go_wp2
        go_round
        case rel => exact ⟨j + 1, by omega, by go_num, by rw [hS.out]⟩
        case measure => simp [intOf]; omega
      · have e : j = k.toNat := by omega
        subst e
        go_wp2
        go_ret
        exact ⟨ret_int hc.out.symm, rfl⟩
/-- what Choose answers. -/
def chooseOk (n k : Int) : Prop := 0 ≤ n ∧ n ≤ 40 ∧ 0 ≤ k ∧ k ≤ 40
theorem im_Choose_yes (n k : Int) (h : chooseOk n k) (w : World) : Calls Try.prog 19 #[.int .i64 n, .int .i64 k] w fun e w' => e = .returned (.tuple #[.int .i64 (chI n k), .bool true]) ∧ w = w' := by
  obtain ⟨a, b, c, d⟩ := h
  go_enter Try.func19, Try.ntmps19
  go_wp2_with (go_at_call 39; refine (choose_in _ _ (by omega) (by omega) (by omega) (by omega) _).mono ?_; rintro e w' ⟨rfl, rfl⟩)
  go_ret2
  exact ⟨rfl, rfl⟩
theorem sp_Choose_yes (n k : Int) (h : chooseOk n k) (w : World) : Calls Try.prog 20 #[.int .i64 n, .int .i64 k] w fun e w' => e = .returned (.tuple #[.int .i64 (chI n k), .bool true]) ∧ w = w' := by
  obtain ⟨a, b, c, d⟩ := h
  go_enter Try.func20, Try.ntmps20
  go_wp2_with (first | (go_at_call 40; refine (sp_choose_in _ _ (by omega) (by omega) (by omega) (by omega) _).mono ?_; rintro e w' ⟨rfl, rfl⟩) | go_in)
  go_ret2
  exact ⟨rfl, rfl⟩
theorem im_Choose_no (n k : Int) (h : ¬ chooseOk n k) (w : World) : Calls Try.prog 19 #[.int .i64 n, .int .i64 k] w fun e w' => e = .returned (.tuple #[.int .i64 0, .bool false]) ∧ w = w' := by
  by_cases a : 0 ≤ n <;> by_cases b : n ≤ 40 <;> by_cases c : 0 ≤ k <;> by_cases d : k ≤ 40
  all_goals first | (exfalso; first | exact h ⟨a, b, c, d⟩ | omega) | skip
  all_goals
    clear h
    go_enter Try.func19, Try.ntmps19
    go_wp2_with fail
    go_ret2
    exact ⟨rfl, rfl⟩
theorem sp_Choose_no (n k : Int) (h : ¬ chooseOk n k) (w : World) : Calls Try.prog 20 #[.int .i64 n, .int .i64 k] w fun e w' => e = .returned (.tuple #[.int .i64 0, .bool false]) ∧ w = w' := by
  by_cases a : 0 ≤ n <;> by_cases b : n ≤ 40 <;> by_cases c : 0 ≤ k <;> by_cases d : k ≤ 40
  all_goals first | (exfalso; first | exact h ⟨a, b, c, d⟩ | omega) | skip
  all_goals
    clear h
    go_enter Try.func20, Try.ntmps20
    go_wp2
    go_ret2
    exact ⟨rfl, rfl⟩
end Go.Proofs.Ytmaddbkpolecmaa
