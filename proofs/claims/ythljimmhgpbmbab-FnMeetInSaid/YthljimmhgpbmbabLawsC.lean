/- The exact laws of moved sets and of sets of a rank. -/
import Derived.Test.YthljimmhgpbmbabLawsB
import Derived.Test.YthljimmhgpbmbabBase2
namespace Go.Proofs.Ythljimmhgpbmbab
open Go.ChangeShapes Go.WideShapes Go.ChangeAt Go.RowKit

/-! SetMoved -/
/-- both are points. -/
def movedOk (n s i k : Int) : Prop := setB n s = true ∧ ptB n i = true ∧ ptB n k = true
theorem movedOk_facts {n s i k : Int} (h : movedOk n s i k) : 0 ≤ s ∧ s < 256 ∧ 0 ≤ i ∧ i ≤ 7 ∧ 0 ≤ k ∧ k ≤ 7 ∧ 1 ≤ n ∧ n ≤ 8 := by
  obtain ⟨hs, hi, hk⟩ := h
  have a := setB_yes hs
  have b := setB_lt hs
  have c := ptB_yes hi
  have d := ptB_yes hk
  omega
theorem moved_lt {s i k : Int} (s1 : 0 ≤ s) (s2 : s < 256) (i1 : 0 ≤ i) (i2 : i ≤ 7) (k1 : 0 ≤ k) (k2 : k ≤ 7) : 0 ≤ movedI s i k ∧ movedI s i k < 256 := by
  have hq := pow8 k1 k2
  unfold movedI
  split
  · next h =>
    simp at h
    obtain ⟨_, b1, b2⟩ := moved_eq s1 s2 i1 i2 k1 k2 h.1 h.2
    omega
  · omega
theorem sp_l1moved (s i k : Int) (s1 : 0 ≤ s) (s2 : s < 256) (i1 : 0 ≤ i) (i2 : i ≤ 7) (k1 : 0 ≤ k) (k2 : k ≤ 7) (w : World) : Calls Try.prog 154 #[.int .i64 s, .int .i64 i, .int .i64 k] w fun e w' => e = .returned (.int .i64 (movedI s i k)) ∧ ∃ a, w' = w.drewN a := by
  rcases (by cases hasB s i <;> simp : hasB s i = true ∨ hasB s i = false) with hi | hi
  · rcases (by cases hasB s k <;> simp : hasB s k = true ∨ hasB s k = false) with hk | hk
    · have hm := Lib.hid (show s = movedI s i k by simp [movedI, hk])
      go_enter Try.func154, Try.ntmps154
      go_wp2_with (first | (go_at_call 156; refine (l1has _ _ s1 s2 (by omega) (by omega) _).mono ?_; rintro e w' ⟨rfl, rfl⟩) | go_in)
      go_ret
      exact ⟨ret_int hm.out, 0, rfl⟩
    · obtain ⟨_, b1, b2⟩ := moved_eq s1 s2 i1 i2 k1 k2 hi hk
      obtain ⟨p1, p2, p3⟩ := pow8 i1 i2
      obtain ⟨q1, q2, q3⟩ := pow8 k1 k2
      have hm := Lib.hid (show s - 2 ^ i.toNat + 2 ^ k.toNat = movedI s i k by simp [movedI, hi, hk])
      go_enter Try.func154, Try.ntmps154
      go_wp2_with (first | (go_at_call 156; refine (l1has _ _ s1 s2 (by omega) (by omega) _).mono ?_; rintro e w' ⟨rfl, rfl⟩) | go_in)
      go_quiet (fail)
      go_wp2
      go_ret
      exact ⟨ret_int hm.out, _, rfl⟩
  · have hm := Lib.hid (show s = movedI s i k by simp [movedI, hi])
    go_enter Try.func154, Try.ntmps154
    go_wp2_with (first | (go_at_call 156; refine (l1has _ _ s1 s2 (by omega) (by omega) _).mono ?_; rintro e w' ⟨rfl, rfl⟩) | go_in)
    go_ret
    exact ⟨ret_int hm.out, 0, rfl⟩
theorem movedOk_no {n s i k : Int} (h : ¬ movedOk n s i k) (hs : setB n s = true) : ptB n i = false ∨ (ptB n i = true ∧ ptB n k = false) := by
  rcases ptB_cases n i with a | a
  · rcases ptB_cases n k with b | b
    · exact absurd ⟨hs, a, b⟩ h
    · exact .inr ⟨a, b⟩
  · exact .inl a
end Go.Proofs.Ythljimmhgpbmbab
