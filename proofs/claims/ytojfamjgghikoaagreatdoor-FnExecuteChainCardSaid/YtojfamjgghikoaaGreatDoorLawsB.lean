/- The exact laws on sets that take integers, further: others, moved sets, ways to choose. -/
import Derived.Test.YtojfamjgghikoaaGreatDoorLawsA
namespace Go.Proofs.YtojfamjgghikoaaGreatDoor
open Go.ChangeShapes Go.WideShapes Go.ChangeAt Go.RowKit

theorem ret_ib {k : IntKind} {a b : Int} {c : Bool} (h : a = b) : Ending.returned (.tuple #[.int k a, .bool c]) = .returned (.tuple #[.int k b, .bool c]) := by rw [h]
theorem all_pts (n : Int) (h1 : 1 ≤ n) (h2 : n ≤ 8) (w : World) : Calls Tryz.prog 70 #[.int .i64 n] w fun e w' => e = .returned (.int .u64 (2 ^ n.toNat - 1)) ∧ w = w' := by
  go_enter Tryz.func70, Tryz.ntmps70
  go_wp2
  go_ret
  exact ⟨ret_int (all_wrap h1 h2), rfl⟩

/-! Choose -/
theorem sp_choose_in (n k : Int) (h1 : 0 ≤ n) (h2 : n ≤ 41) (h3 : 0 ≤ k) (h4 : k ≤ 41) (w : World) : Calls Tryz.prog 186 #[.int .i64 n, .int .i64 k] w fun e w' => e = .returned (.int .i64 (chI n k)) ∧ w = w' := by
  by_cases hkn : n < k
  · have hc := Lib.hid (show chI n k = 0 by unfold chI; rw [if_pos hkn])
    go_enter Tryz.func186, Tryz.ntmps186
    go_wp2
    go_ret
    exact ⟨ret_int hc.out.symm, rfl⟩
  · have hst := ch_steps h2 h3 (by omega)
    have hc := Lib.hid (show chI n k = chS n k k.toNat by unfold chI; rw [if_neg hkn])
    have hst := Lib.hid hst
    go_enter Tryz.func186, Tryz.ntmps186
    go_wp2
    go_loop [5, 6] (fun v i => ∃ j : Nat, (j : Int) ≤ k ∧ i = .int .i64 (j + 1) ∧ v = .int .i64 (chS n k j)) (fun _ i => (k + 1 - intOf i).toNat)
    case atStart => exact ⟨0, by omega, rfl, rfl⟩
    case round =>
      obtain ⟨j, hj, rfl, rfl⟩ := hrel
      by_cases hlt : (j : Int) < k
      · obtain ⟨a1, a2, a3, a4⟩ := hst.out j hlt
        simp only [Int.natCast_add, Int.cast_ofNat_Int] at a3 a4
        have hS := Lib.hid (show chS n k (j + 1) = chS n k j * (n - k + (j + 1)) / (j + 1) from rfl)
        go_wp2
        go_round
        case rel => exact ⟨j + 1, by omega, by go_num, by rw [hS.out]⟩
        case measure => simp [intOf]; omega
      · have e : j = k.toNat := by omega
        subst e
        go_wp2
        go_ret
        exact ⟨ret_int hc.out.symm, rfl⟩
/-- what Choose answers. -/
def chooseOk (n k : Int) : Prop := 0 ≤ n ∧ n ≤ 40 ∧ 0 ≤ k ∧ k ≤ 40
end Go.Proofs.YtojfamjgghikoaaGreatDoor
