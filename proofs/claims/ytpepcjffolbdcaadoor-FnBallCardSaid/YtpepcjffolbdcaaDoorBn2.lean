/- Balls: the model and the law. -/
import Derived.Test.YtpepcjffolbdcaaDoorBn1
namespace Go.Proofs.YtpepcjffolbdcaaDoor
open Go.ChangeShapes Go.WideShapes Go.ChangeAt Go.RowKit Go.Proofs

set_option maxHeartbeats 2000000 in
theorem sp_BoundaryBall (n s d : Int) (w : World) :
    Calls Tryd.prog 24 #[.int .i64 n, .int .i64 s, .int .i64 d] w (ListPost (ifL (blB n s d) (blL n s d)) (blB n s d) w) := by
  rcases setB_cases n s with hp | hp
  · obtain ⟨n1, n2, s1, s2⟩ := setB_yes hp
    have s3 := (setB_lt hp).2
    have hpp := Lib.hid (fun W => sp_set_in_yes n s hp W)
    have hin := l6in d 0 n
    rcases (by cases inB d 0 n <;> simp : inB d 0 n = true ∨ inB d 0 n = false) with hk | hk
    · rw [hk] at hin
      replace hin := Lib.hid hin
      have hb : blB n s d = true := by unfold blB; rw [hp]; exact hk
      rw [hb]
      obtain ⟨p1, p2, p3⟩ := pow_nat n1 n2
      have hme := bl_eq (2 ^ n.toNat) s d
      obtain ⟨N, hN⟩ : ∃ N : Nat, 2 ^ n.toNat = N := ⟨_, rfl⟩
      have hNi : (2 : Int) ^ n.toNat = (N : Nat) := by rw [← hN]; simp
      have hn0 : (0 : Int) ≤ n := by omega
      have hn64 : n < 64 := by omega
      show Calls Tryd.prog 24 #[.int .i64 n, .int .i64 s, .int .i64 d] w (ListPost (blL n s d) true w)
      unfold blL
      rw [hN] at p1 p2 p3 hme
      rw [hN, ← hme]
      obtain ⟨P, hP⟩ : ∃ P : Nat → Bool, (fun j : Nat => decide (dstI s (j : Nat) ≤ d)) = P := ⟨_, rfl⟩
      have hPk : ∀ k : Nat, decide (dstI s (k : Nat) ≤ d) = P k := fun k => by rw [← hP]
      rw [hP]
      clear hme
      replace hP := Lib.hid hP
      replace hPk := Lib.hid hPk
      replace hN := Lib.hid hN
      replace hNi := Lib.hid hNi
      replace hb := Lib.hid hb
      replace hk := Lib.hid hk
      replace hp := Lib.hid hp
      go_enter Tryd.func24, Tryd.ntmps24
      go_wp2_with (first | (go_at_call 61; refine (hpp.out _).mono ?_; rintro e w' ⟨rfl, rfl⟩) | (go_at_call 62; refine (hin.out _).mono ?_; rintro e w' ⟨rfl, rfl⟩))
      go_loopw [8, 9] (fun v s wr => ∃ k : Nat, k ≤ N ∧ s = .int .i64 k ∧ Hid (OwnL wr w.heap.size v (mkL P k)) ∧ Hid (Below w.heap.size w wr)) (fun _ s _ => N - (intOf s).toNat)
      case atStart => exact ⟨0, by omega, rfl, Lib.hid (OwnL.lit w (Nat.le_refl _)), Lib.hid ((Below.refl _ _).alloc (Nat.le_refl _) _)⟩
      case round =>
        obtain ⟨k, hk, rfl, hown, hbel⟩ := hrel
        have hsz := hbel.out.size
        by_cases hlt : k < N
        · have k1 : (0 : Int) ≤ (k : Int) := by omega
          have k2 : (k : Int) < (N : Nat) := by omega
          have hxo := i64_xorI s1 s3 k1 (show (k : Int) < 256 by omega)
          obtain ⟨x1, x2⟩ := xorI_lt s1 s3 k1 (show (k : Int) < 256 by omega)
          have hsz1 := l1size (xorI s (k : Int)) x1 x2
          have hpk := hPk.out k
          unfold dstI at hpk
          obtain ⟨y, hy⟩ : ∃ y, xorI s (k : Nat) = y := ⟨_, rfl⟩
          rw [hy] at hsz1 hpk hxo x1 x2
          obtain ⟨r, hr⟩ : ∃ r, cntI y = r := ⟨_, rfl⟩
          rw [hr] at hsz1 hpk
          replace hr := Lib.hid hr
          replace hy := Lib.hid hy
          replace hsz1 := Lib.hid hsz1
          have hlen : (mkL P k).length ≤ 1073741824 := by have := mkL_len P k; omega
          have hsu := mkL_succ P k
          rcases (by cases P k <;> simp : P k = true ∨ P k = false) with hp | hp
          · have hs : mkL P k ++ [(k : Int)] = mkL P (k + 1) := by rw [hsu, if_pos hp]
            obtain ⟨ys, hys⟩ : ∃ ys, mkL P k = ys := ⟨_, rfl⟩
            rw [hys] at hown hs hlen
            obtain ⟨a', c', rfl⟩ := hown.out.form
            have hB1 : w.heap.size ≤ (wr.alloc (.cells #[.int .i64 (k : Int)] 3)).heap.size := by rw [World.size_alloc]; omega
            clear hsu
            rw [hp] at hpk
            have hpk2 := of_decide_eq_true hpk
            replace hpk := Lib.hid hpk
            replace hp := Lib.hid hp
            replace hys := Lib.hid hys
            replace hs := Lib.hid hs
            go_wp2_with (first | (go_at_call 63; refine (hsz1.out _).mono ?_; rintro e w' ⟨rfl, rfl⟩) | (at_builtin; refine app_int rfl _ _ rfl w.heap.size _ ys rfl (hown.out.alloc _) (k : Int) wr.heap.size rfl (cell_new _ _ _) hlen hB1 ?_; intro v' w1 hown1 hb1))
            rw [hs.out] at hown1
            replace hown1 := Lib.hid hown1
            have hb2 := Lib.hid ((hbel.out.alloc hsz _).trans hb1)
            go_roundw
            case rel => exact ⟨k + 1, by omega, by go_num, hown1, hb2⟩
            case measure => simp [intOf]; omega
          · have hs : mkL P k = mkL P (k + 1) := by rw [hsu, if_neg (by simp [hp]), List.append_nil]
            rw [hs] at hown
            obtain ⟨ys, hys⟩ : ∃ ys, mkL P (k + 1) = ys := ⟨_, rfl⟩
            rw [hys] at hown
            obtain ⟨a', c', rfl⟩ := hown.out.form
            clear hsu hs hlen
            rw [hp] at hpk
            have hpk2 := of_decide_eq_false hpk
            replace hpk := Lib.hid hpk
            replace hp := Lib.hid hp
            replace hys := Lib.hid hys
            go_wp2_with ((go_at_call 63; refine (hsz1.out _).mono ?_; rintro e w' ⟨rfl, rfl⟩))
            go_roundw
            case rel => exact ⟨k + 1, by omega, by go_num, by rw [hys.out]; exact hown, hbel⟩
            case measure => simp [intOf]; omega
        · obtain rfl : k = N := by omega
          obtain ⟨a', c', rfl⟩ := hown.out.form
          have hown2 := Lib.hid hown.out.own
          clear hown
          go_wp2_with fail
          go_ret2
          exact ⟨_, rfl, hown2.out, hbel.out⟩
    · rw [hk] at hin
      replace hin := Lib.hid hin
      have hb : blB n s d = false := by unfold blB; rw [hp]; exact hk
      rw [hb]
      replace hb := Lib.hid hb
      replace hk := Lib.hid hk
      replace hp := Lib.hid hp
      go_enter Tryd.func24, Tryd.ntmps24
      go_wp2_with (first | (go_at_call 61; refine (hpp.out _).mono ?_; rintro e w' ⟨rfl, rfl⟩) | (go_at_call 62; refine (hin.out _).mono ?_; rintro e w' ⟨rfl, rfl⟩))
      go_ret2
      exact ⟨_, rfl, own_empty0 _ _ _ _ _, (Below.refl _ _).alloc (Nat.le_refl _) _⟩
  · have hpp := Lib.hid (fun W => sp_set_in_no n s hp W)
    have hb : blB n s d = false := by unfold blB; rw [hp]; rfl
    rw [hb]
    replace hb := Lib.hid hb
    replace hp := Lib.hid hp
    go_enter Tryd.func24, Tryd.ntmps24
    go_wp2_with (go_at_call 61; refine (hpp.out _).mono ?_; rintro e w' ⟨rfl, rfl⟩)
    go_ret2
    exact ⟨_, rfl, own_empty0 _ _ _ _ _, (Below.refl _ _).alloc (Nat.le_refl _) _⟩
theorem blL_len {n s k : Int} (h : blB n s k = true) : (blL n s k).length ≤ 256 := by
  unfold blB at h
  rw [Bool.and_eq_true] at h
  obtain ⟨n1, n2, _⟩ := setB_yes h.1
  obtain ⟨p1, p2, p3⟩ := pow_nat n1 n2
  have := List.length_filter_le (fun x => decide (dstI x s ≤ k)) (upI (2 ^ n.toNat))
  rw [upI_len] at this
  unfold blL; omega
end Go.Proofs.YtpepcjffolbdcaaDoor
