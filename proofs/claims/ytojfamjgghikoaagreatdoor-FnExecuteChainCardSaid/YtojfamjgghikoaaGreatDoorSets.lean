/- What the functions on sets return: contracts of the program's and of the model's small functions. -/
import Derived.Test.YtojfamjgghikoaaGreatDoorProg
import Derived.Test.YtojfamjgghikoaaGreatDoorBase
import Derived.WalkKit
import Derived.ProofKit
import Derived.OpenShut
import Derived.Outline
import Derived.Lib.Hide
import Derived.Deep.QuietTactic
import Derived.BigQuiet
import Derived.RegionTactic
import Derived.ChangeAlike
import Derived.Below
namespace Go.Proofs.YtojfamjgghikoaaGreatDoor
open Go.ChangeShapes Go.WideShapes Go.ChangeAt Go.RowKit

theorem ret_int {k : IntKind} {a b : Int} (h : a = b) : Ending.returned (.int k a) = .returned (.int k b) := by rw [h]
theorem ret_bool {a b : Bool} (h : a = b) : Ending.returned (.bool a) = .returned (.bool b) := by rw [h]

theorem pts_in (n : Int) (w : World) : Calls Tryz.prog 63 #[.int .i64 n] w fun e w' => e = .returned (.bool (ptsB n)) ∧ w = w' := by
  by_cases h1 : 1 ≤ n
  · by_cases h2 : n ≤ 8
    · have hp := Lib.hid (ptsB_mk h1 h2)
      go_enter Tryz.func63, Tryz.ntmps63
      go_wp2
      go_ret
      exact ⟨ret_bool hp.out.symm, rfl⟩
    · have hp := Lib.hid (ptsB_mk0 (n := n) (.inr (by omega)))
      go_enter Tryz.func63, Tryz.ntmps63
      go_wp2
      go_ret
      exact ⟨ret_bool hp.out.symm, rfl⟩
  · have hp := Lib.hid (ptsB_mk0 (n := n) (.inl (by omega)))
    go_enter Tryz.func63, Tryz.ntmps63
    go_wp2
    go_ret
    exact ⟨ret_bool hp.out.symm, rfl⟩

theorem l1pts (n : Int) (w : World) : Calls Tryz.prog 39 #[.int .i64 n] w fun e w' => e = .returned (.bool (ptsB n)) ∧ w = w' := by
  by_cases h1 : 1 ≤ n
  · by_cases h2 : n ≤ 8
    · have hp := Lib.hid (ptsB_mk h1 h2)
      go_enter Tryz.func39, Tryz.ntmps39
      go_wp2
      go_ret
      exact ⟨ret_bool hp.out.symm, rfl⟩
    · have hp := Lib.hid (ptsB_mk0 (n := n) (.inr (by omega)))
      go_enter Tryz.func39, Tryz.ntmps39
      go_wp2
      go_ret
      exact ⟨ret_bool hp.out.symm, rfl⟩
  · have hp := Lib.hid (ptsB_mk0 (n := n) (.inl (by omega)))
    go_enter Tryz.func39, Tryz.ntmps39
    go_wp2
    go_ret
    exact ⟨ret_bool hp.out.symm, rfl⟩

theorem set_in_yes (n s : Int) (h : setB n s = true) (w : World) : Calls Tryz.prog 43 #[.int .i64 n, .int .i64 s] w fun e w' => e = .returned (.bool true) ∧ w = w' := by
  obtain ⟨h1, h2, h3, h4⟩ := setB_yes h
  clear h
  rcases n8 h1 h2 with rfl | rfl | rfl | rfl | rfl | rfl | rfl | rfl
  all_goals
    simp at h4
    go_enter Tryz.func43, Tryz.ntmps43
    go_wp2
    go_ret
    exact ⟨ret_bool (by first | rfl | (simp; omega)), rfl⟩

theorem set_in_no (n s : Int) (h : setB n s = false) (w : World) : Calls Tryz.prog 43 #[.int .i64 n, .int .i64 s] w fun e w' => e = .returned (.bool false) ∧ w = w' := by
  by_cases hp : 1 ≤ n ∧ n ≤ 8
  · obtain ⟨h1, h2⟩ := hp
    by_cases h3 : 0 ≤ s
    · have h4 : ¬ s < 2 ^ n.toNat := fun h4 => by have := setB_mk ⟨h1, h2, h3, h4⟩; rw [this] at h; cases h
      clear h
      rcases n8 h1 h2 with rfl | rfl | rfl | rfl | rfl | rfl | rfl | rfl
      all_goals
        simp at h4
        go_enter Tryz.func43, Tryz.ntmps43
        go_wp2
        go_ret
        exact ⟨ret_bool (by first | rfl | (simp; omega)), rfl⟩
    · clear h
      go_enter Tryz.func43, Tryz.ntmps43
      go_wp2
      go_ret
      exact ⟨ret_bool (by first | rfl | (simp; omega)), rfl⟩
  · clear h
    by_cases h1 : 1 ≤ n
    · have h2 : 8 < n := by omega
      clear hp
      go_enter Tryz.func43, Tryz.ntmps43
      go_wp2
      go_ret
      exact ⟨ret_bool (by first | rfl | (simp; omega)), rfl⟩
    · clear hp
      go_enter Tryz.func43, Tryz.ntmps43
      go_wp2
      go_ret
      exact ⟨ret_bool (by first | rfl | (simp; omega)), rfl⟩

theorem sp_set_in_yes (n s : Int) (h : setB n s = true) (w : World) : Calls Tryz.prog 46 #[.int .i64 n, .int .i64 s] w fun e w' => e = .returned (.bool true) ∧ w = w' := by
  obtain ⟨h1, h2, h3, h4⟩ := setB_yes h
  clear h
  rcases n8 h1 h2 with rfl | rfl | rfl | rfl | rfl | rfl | rfl | rfl
  all_goals
    simp at h4
    go_enter Tryz.func46, Tryz.ntmps46
    go_wp2
    go_ret
    exact ⟨ret_bool (by first | rfl | (simp; omega)), rfl⟩

theorem sp_set_in_no (n s : Int) (h : setB n s = false) (w : World) : Calls Tryz.prog 46 #[.int .i64 n, .int .i64 s] w fun e w' => e = .returned (.bool false) ∧ w = w' := by
  by_cases hp : 1 ≤ n ∧ n ≤ 8
  · obtain ⟨h1, h2⟩ := hp
    by_cases h3 : 0 ≤ s
    · have h4 : ¬ s < 2 ^ n.toNat := fun h4 => by have := setB_mk ⟨h1, h2, h3, h4⟩; rw [this] at h; cases h
      clear h
      rcases n8 h1 h2 with rfl | rfl | rfl | rfl | rfl | rfl | rfl | rfl
      all_goals
        simp at h4
        go_enter Tryz.func46, Tryz.ntmps46
        go_wp2
        go_ret
        exact ⟨ret_bool (by first | rfl | (simp; omega)), rfl⟩
    · clear h
      rcases n8 h1 h2 with rfl | rfl | rfl | rfl | rfl | rfl | rfl | rfl
      all_goals
        go_enter Tryz.func46, Tryz.ntmps46
        go_wp2
        go_ret
        exact ⟨ret_bool (by first | rfl | (simp; omega)), rfl⟩
  · clear h
    by_cases h1 : 1 ≤ n
    · have h2 : 8 < n := by omega
      clear hp
      go_enter Tryz.func46, Tryz.ntmps46
      go_wp2
      go_ret
      exact ⟨ret_bool (by first | rfl | (simp; omega)), rfl⟩
    · clear hp
      go_enter Tryz.func46, Tryz.ntmps46
      go_wp2
      go_ret
      exact ⟨ret_bool (by first | rfl | (simp; omega)), rfl⟩
end Go.Proofs.YtojfamjgghikoaaGreatDoor
