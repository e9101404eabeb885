/- The exact laws of moved sets and of sets of a rank. -/
import Derived.Test.YtmaddbkpolecmaaLawsB
import Derived.Test.YtmaddbkpolecmaaBase2
namespace Go.Proofs.Ytmaddbkpolecmaa
open Go.ChangeShapes Go.WideShapes Go.ChangeAt Go.RowKit

/-! SetMoved -/
/-- both are points. -/
def movedOk (n s i k : Int) : Prop := setB n s = true ∧ ptB n i = true ∧ ptB n k = true
theorem movedOk_facts {n s i k : Int} (h : movedOk n s i k) : 0 ≤ s ∧ s < 256 ∧ 0 ≤ i ∧ i ≤ 7 ∧ 0 ≤ k ∧ k ≤ 7 ∧ 1 ≤ n ∧ n ≤ 8 := by
  obtain ⟨hs, hi, hk⟩ := h
  have a := setB_yes hs
  have b := setB_lt hs
  have c := ptB_yes hi
  have d := ptB_yes hk
  omega
theorem moved_lt {s i k : Int} (s1 : 0 ≤ s) (s2 : s < 256) (i1 : 0 ≤ i) (i2 : i ≤ 7) (k1 : 0 ≤ k) (k2 : k ≤ 7) : 0 ≤ movedI s i k ∧ movedI s i k < 256 := by
  have hq := pow8 k1 k2
  unfold movedI
  split
  · next h =>
    simp at h
    obtain ⟨_, b1, b2⟩ := moved_eq s1 s2 i1 i2 k1 k2 h.1 h.2
    omega
  · omega
theorem set_moved (s i k : Int) (s1 : 0 ≤ s) (s2 : s < 256) (i1 : 0 ≤ i) (i2 : i ≤ 7) (k1 : 0 ≤ k) (k2 : k ≤ 7) (w : World) : Calls Try.prog 36 #[.int .u64 s, .int .i64 i, .int .i64 k] w fun e w' => e = .returned (.int .u64 (movedI s i k)) ∧ w = w' := by
  obtain ⟨l1, l2⟩ := less_lt s1 s2 i1 i2
  rcases (by cases hasB s i <;> simp : hasB s i = true ∨ hasB s i = false) with hi | hi
  · rcases (by cases hasB s k <;> simp : hasB s k = true ∨ hasB s k = false) with hk | hk
    · have hm := Lib.hid (show s = movedI s i k by simp [movedI, hk])
      go_enter Try.func36, Try.ntmps36
      go_wp2_with (first | (go_at_call 47; refine (set_has _ _ s1 s2 (by omega) (by omega) _).mono ?_; rintro e w' ⟨rfl, rfl⟩) | go_in)
      go_ret
      exact ⟨ret_int hm.out, rfl⟩
    · have hm := Lib.hid (show withI (lessI s i) k = movedI s i k by simp [movedI, hi, hk, (moved_eq s1 s2 i1 i2 k1 k2 hi hk).1])
      go_enter Try.func36, Try.ntmps36
      go_wp2_with (first | (go_at_call 47; refine (set_has _ _ s1 s2 (by omega) (by omega) _).mono ?_; rintro e w' ⟨rfl, rfl⟩) | (go_at_call 48; refine (set_without _ _ s1 s2 (by omega) (by omega) _).mono ?_; rintro e w' ⟨rfl, rfl⟩) | (go_at_call 49; refine (set_with _ _ l1 l2 (by omega) (by omega) _).mono ?_; rintro e w' ⟨rfl, rfl⟩) | go_in)
      go_ret
      exact ⟨ret_int hm.out, rfl⟩
  · have hm := Lib.hid (show s = movedI s i k by simp [movedI, hi])
    go_enter Try.func36, Try.ntmps36
    go_wp2_with (first | (go_at_call 47; refine (set_has _ _ s1 s2 (by omega) (by omega) _).mono ?_; rintro e w' ⟨rfl, rfl⟩) | go_in)
    go_ret
    exact ⟨ret_int hm.out, rfl⟩
theorem im_moved_yes (n s i k : Int) (h : movedOk n s i k) (w : World) : Calls Try.prog 16 #[.int .i64 n, .int .i64 s, .int .i64 i, .int .i64 k] w fun e w' => e = .returned (.tuple #[.int .i64 (movedI s i k), .bool true]) ∧ w = w' := by
  obtain ⟨s1, s2, i1, i2, k1, k2, n1, n2⟩ := movedOk_facts h
  have hmv := Lib.hid (fun W => set_moved s i k s1 s2 i1 i2 k1 k2 W)
  obtain ⟨hs, hpi, hpk⟩ := h
  have h1 := Lib.hid (fun W => set_in_yes n s hs W)
  obtain ⟨m1, m2⟩ := moved_lt s1 s2 i1 i2 k1 k2
  obtain ⟨r, hr⟩ : ∃ r, movedI s i k = r := ⟨_, rfl⟩
  rw [hr] at hmv m1 m2 ⊢
  replace hr := Lib.hid hr
  clear hs
  go_enter Try.func16, Try.ntmps16
  go_wp2_with (first | (go_at_call 26; refine (h1.out _).mono ?_; rintro e w' ⟨rfl, rfl⟩) | (go_at_call 35; refine (pt_in _ _ _).mono ?_; rintro e w' ⟨rfl, rfl⟩) | (go_at_call 36; refine (hmv.out _).mono ?_; rintro e w' ⟨rfl, rfl⟩) | go_in)
  go_ret2
  exact ⟨rfl, rfl⟩
theorem sp_l1moved (s i k : Int) (s1 : 0 ≤ s) (s2 : s < 256) (i1 : 0 ≤ i) (i2 : i ≤ 7) (k1 : 0 ≤ k) (k2 : k ≤ 7) (w : World) : Calls Try.prog 38 #[.int .i64 s, .int .i64 i, .int .i64 k] w fun e w' => e = .returned (.int .i64 (movedI s i k)) ∧ ∃ a, w' = w.drewN a := by
  rcases (by cases hasB s i <;> simp : hasB s i = true ∨ hasB s i = false) with hi | hi
  · rcases (by cases hasB s k <;> simp : hasB s k = true ∨ hasB s k = false) with hk | hk
    · have hm := Lib.hid (show s = movedI s i k by simp [movedI, hk])
      go_enter Try.func38, Try.ntmps38
      go_wp2_with (first | (go_at_call 50; refine (l1has _ _ s1 s2 (by omega) (by omega) _).mono ?_; rintro e w' ⟨rfl, rfl⟩) | go_in)
      go_ret
      exact ⟨ret_int hm.out, 0, rfl⟩
    · obtain ⟨_, b1, b2⟩ := moved_eq s1 s2 i1 i2 k1 k2 hi hk
      obtain ⟨p1, p2, p3⟩ := pow8 i1 i2
      obtain ⟨q1, q2, q3⟩ := pow8 k1 k2
      have hm := Lib.hid (show s - 2 ^ i.toNat + 2 ^ k.toNat = movedI s i k by simp [movedI, hi, hk])
      go_enter Try.func38, Try.ntmps38
      go_wp2_with (first | (go_at_call 50; refine (l1has _ _ s1 s2 (by omega) (by omega) _).mono ?_; rintro e w' ⟨rfl, rfl⟩) | go_in)
      go_quiet (fail)
      go_wp2
      go_ret
      exact ⟨ret_int hm.out, _, rfl⟩
  · have hm := Lib.hid (show s = movedI s i k by simp [movedI, hi])
    go_enter Try.func38, Try.ntmps38
    go_wp2_with (first | (go_at_call 50; refine (l1has _ _ s1 s2 (by omega) (by omega) _).mono ?_; rintro e w' ⟨rfl, rfl⟩) | go_in)
    go_ret
    exact ⟨ret_int hm.out, 0, rfl⟩
theorem sp_moved_yes (n s i k : Int) (h : movedOk n s i k) (w : World) : Calls Try.prog 17 #[.int .i64 n, .int .i64 s, .int .i64 i, .int .i64 k] w fun e w' => e = .returned (.tuple #[.int .i64 (movedI s i k), .bool true]) ∧ ∃ a, w' = w.drewN a := by
  obtain ⟨s1, s2, i1, i2, k1, k2, n1, n2⟩ := movedOk_facts h
  obtain ⟨hs, hpi, hpk⟩ := h
  have h1 := Lib.hid (fun W => sp_set_in_yes n s hs W)
  rw [← inB_pt] at hpi hpk
  clear hs
  go_enter Try.func17, Try.ntmps17
  go_wp2_with (first | (go_at_call 28; refine (h1.out _).mono ?_; rintro e w' ⟨rfl, rfl⟩) | (go_at_call 37; refine (l6in _ _ _ _).mono ?_; rintro e w' ⟨rfl, rfl⟩) | (go_at_call 38; refine (sp_l1moved _ _ _ s1 s2 (by omega) (by omega) (by omega) (by omega) _).mono ?_; rintro e w' ⟨rfl, a, rfl⟩))
  go_ret2
  exact ⟨rfl, _, rfl⟩
theorem movedOk_no {n s i k : Int} (h : ¬ movedOk n s i k) (hs : setB n s = true) : ptB n i = false ∨ (ptB n i = true ∧ ptB n k = false) := by
  rcases ptB_cases n i with a | a
  · rcases ptB_cases n k with b | b
    · exact absurd ⟨hs, a, b⟩ h
    · exact .inr ⟨a, b⟩
  · exact .inl a
theorem im_moved_no (n s i k : Int) (h : ¬ movedOk n s i k) (w : World) : Calls Try.prog 16 #[.int .i64 n, .int .i64 s, .int .i64 i, .int .i64 k] w fun e w' => e = .returned (.tuple #[.int .i64 0, .bool false]) ∧ w = w' := by
  rcases setB_cases n s with hs | hs
  · have h1 := Lib.hid (fun W => set_in_yes n s hs W)
    rcases movedOk_no h hs with a | ⟨a, b⟩
    all_goals
      clear hs h
      go_enter Try.func16, Try.ntmps16
      go_wp2_with (first | (go_at_call 26; refine (h1.out _).mono ?_; rintro e w' ⟨rfl, rfl⟩) | (go_at_call 35; refine (pt_in _ _ _).mono ?_; rintro e w' ⟨rfl, rfl⟩) | go_in)
      go_ret2
      exact ⟨rfl, rfl⟩
  · have h1 := Lib.hid (fun W => set_in_no n s hs W)
    clear hs h
    go_enter Try.func16, Try.ntmps16
    go_wp2_with (first | (go_at_call 26; refine (h1.out _).mono ?_; rintro e w' ⟨rfl, rfl⟩) | go_in)
    go_ret2
    exact ⟨rfl, rfl⟩
theorem sp_moved_no (n s i k : Int) (h : ¬ movedOk n s i k) (w : World) : Calls Try.prog 17 #[.int .i64 n, .int .i64 s, .int .i64 i, .int .i64 k] w fun e w' => e = .returned (.tuple #[.int .i64 0, .bool false]) ∧ w = w' := by
  rcases setB_cases n s with hs | hs
  · have h1 := Lib.hid (fun W => sp_set_in_yes n s hs W)
    obtain ⟨n1, n2, _, _⟩ := setB_yes hs
    rcases movedOk_no h hs with a | ⟨a, b⟩
    all_goals
      rw [← inB_pt] at *
      clear hs h
      go_enter Try.func17, Try.ntmps17
      go_wp2_with (first | (go_at_call 28; refine (h1.out _).mono ?_; rintro e w' ⟨rfl, rfl⟩) | (go_at_call 37; refine (l6in _ _ _ _).mono ?_; rintro e w' ⟨rfl, rfl⟩) | go_in)
      go_ret2
      exact ⟨rfl, rfl⟩
  · have h1 := Lib.hid (fun W => sp_set_in_no n s hs W)
    clear hs h
    go_enter Try.func17, Try.ntmps17
    go_wp2_with (first | (go_at_call 28; refine (h1.out _).mono ?_; rintro e w' ⟨rfl, rfl⟩) | go_in)
    go_ret2
    exact ⟨rfl, rfl⟩
end Go.Proofs.Ytmaddbkpolecmaa
