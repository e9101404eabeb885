/- The exact laws on sets that take integers: the Go text returns true. -/
import Derived.Test.YtgimceanhmhgkaaSets2
namespace Go.Proofs.Ytgimceanhmhgkaa
open Go.ChangeShapes Go.WideShapes Go.ChangeAt Go.RowKit

theorem setB_cases (n s : Int) : setB n s = true ∨ setB n s = false := by cases setB n s <;> simp

theorem law_SetIn (n s : Int) (w : World) : Calls Try.prog 4 #[.int .i64 n, .int .i64 s] w fun e w' => e = .returned (.bool true) ∧ Grown w w' := by
  rcases setB_cases n s with h | h
  · have h1 := fun W => set_in_yes n s h W
    have h2 := fun W => sp_set_in_yes n s h W
    have h1 := Lib.hid h1
    have h2 := Lib.hid h2
    clear h
    go_enter Try.func4, Try.ntmps4
    go_wp2_with (first | (go_at_call 17; refine (h2.out _).mono ?_; rintro e w' ⟨rfl, rfl⟩) | (go_at_call 18; refine (h1.out _).mono ?_; rintro e w' ⟨rfl, rfl⟩))
    go_ret
    exact ⟨rfl, Grown.refl _⟩
  · have h1 := fun W => set_in_no n s h W
    have h2 := fun W => sp_set_in_no n s h W
    have h1 := Lib.hid h1
    have h2 := Lib.hid h2
    clear h
    go_enter Try.func4, Try.ntmps4
    go_wp2_with (first | (go_at_call 17; refine (h2.out _).mono ?_; rintro e w' ⟨rfl, rfl⟩) | (go_at_call 18; refine (h1.out _).mono ?_; rintro e w' ⟨rfl, rfl⟩))
    go_ret
    exact ⟨rfl, Grown.refl _⟩

/-! SetSize -/
def sizeOut (n s : Int) : Value := if setB n s then .tuple #[.int .i64 (cntI s), .bool true] else .tuple #[.int .i64 0, .bool false]
theorem sizeOut_yes {n s : Int} (h : setB n s = true) : sizeOut n s = .tuple #[.int .i64 (cntI s), .bool true] := by unfold sizeOut; rw [if_pos h]
theorem sizeOut_no {n s : Int} (h : setB n s = false) : sizeOut n s = .tuple #[.int .i64 0, .bool false] := by unfold sizeOut; rw [if_neg (by simp [h])]
theorem im_size_yes (n s : Int) (h : setB n s = true) (w : World) : Calls Try.prog 20 #[.int .i64 n, .int .i64 s] w fun e w' => e = .returned (.tuple #[.int .i64 (cntI s), .bool true]) ∧ w = w' := by
  obtain ⟨hs1, hs2⟩ := setB_lt h
  have h1 := Lib.hid (fun W => set_in_yes n s h W)
  clear h
  go_enter Try.func20, Try.ntmps20
  go_wp2_with (first | (go_at_call 18; refine (h1.out _).mono ?_; rintro e w' ⟨rfl, rfl⟩) | (go_at_call 47; refine (set_size _ hs1 hs2 _).mono ?_; rintro e w' ⟨rfl, rfl⟩))
  go_ret2
  exact ⟨rfl, rfl⟩
theorem im_size_no (n s : Int) (h : setB n s = false) (w : World) : Calls Try.prog 20 #[.int .i64 n, .int .i64 s] w fun e w' => e = .returned (.tuple #[.int .i64 0, .bool false]) ∧ w = w' := by
  have h1 := Lib.hid (fun W => set_in_no n s h W)
  clear h
  go_enter Try.func20, Try.ntmps20
  go_wp2_with (first | (go_at_call 18; refine (h1.out _).mono ?_; rintro e w' ⟨rfl, rfl⟩))
  go_ret2
  exact ⟨rfl, rfl⟩
theorem sp_size_yes (n s : Int) (h : setB n s = true) (w : World) : Calls Try.prog 19 #[.int .i64 n, .int .i64 s] w fun e w' => e = .returned (.tuple #[.int .i64 (cntI s), .bool true]) ∧ w = w' := by
  obtain ⟨hs1, hs2⟩ := setB_lt h
  have h1 := Lib.hid (fun W => sp_set_in_yes n s h W)
  clear h
  go_enter Try.func19, Try.ntmps19
  go_wp2_with (first | (go_at_call 17; refine (h1.out _).mono ?_; rintro e w' ⟨rfl, rfl⟩) | (go_at_call 46; refine (l1size _ hs1 hs2 _).mono ?_; rintro e w' ⟨rfl, rfl⟩))
  go_ret2
  exact ⟨rfl, rfl⟩
theorem sp_size_no (n s : Int) (h : setB n s = false) (w : World) : Calls Try.prog 19 #[.int .i64 n, .int .i64 s] w fun e w' => e = .returned (.tuple #[.int .i64 0, .bool false]) ∧ w = w' := by
  have h1 := Lib.hid (fun W => sp_set_in_no n s h W)
  clear h
  go_enter Try.func19, Try.ntmps19
  go_wp2_with (first | (go_at_call 17; refine (h1.out _).mono ?_; rintro e w' ⟨rfl, rfl⟩))
  go_ret2
  exact ⟨rfl, rfl⟩
theorem law_SetSize (n s : Int) (w : World) : Calls Try.prog 5 #[.int .i64 n, .int .i64 s] w fun e w' => e = .returned (.bool true) ∧ Grown w w' := by
  rcases setB_cases n s with h | h
  · have h1 := Lib.hid (fun W => im_size_yes n s h W)
    have h2 := Lib.hid (fun W => sp_size_yes n s h W)
    clear h
    go_enter Try.func5, Try.ntmps5
    go_wp2_with (first | (go_at_call 19; refine (h2.out _).mono ?_; rintro e w' ⟨rfl, rfl⟩) | (go_at_call 20; refine (h1.out _).mono ?_; rintro e w' ⟨rfl, rfl⟩))
    go_ret
    exact ⟨rfl, Grown.refl _⟩
  · have h1 := Lib.hid (fun W => im_size_no n s h W)
    have h2 := Lib.hid (fun W => sp_size_no n s h W)
    clear h
    go_enter Try.func5, Try.ntmps5
    go_wp2_with (first | (go_at_call 19; refine (h2.out _).mono ?_; rintro e w' ⟨rfl, rfl⟩) | (go_at_call 20; refine (h1.out _).mono ?_; rintro e w' ⟨rfl, rfl⟩))
    go_ret
    exact ⟨rfl, Grown.refl _⟩
end Go.Proofs.Ytgimceanhmhgkaa
