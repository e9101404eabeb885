/- Balls: the model and the law. -/
import Derived.Test.YtgfmfecalhmplaaBn1
namespace Go.Proofs.Ytgfmfecalhmplaa
open Go.ChangeShapes Go.WideShapes Go.ChangeAt Go.RowKit Go.Proofs

set_option maxHeartbeats 2000000 in
theorem sp_BoundaryBall (n s d : Int) (w : World) :
    Calls Try.prog 10 #[.int .i64 n, .int .i64 s, .int .i64 d] w (ListPost (ifL (blB n s d) (blL n s d)) (blB n s d) w) := by
  rcases setB_cases n s with hp | hp
  · obtain ⟨n1, n2, s1, s2⟩ := setB_yes hp
    have s3 := (setB_lt hp).2
    have hpp := Lib.hid (fun W => sp_set_in_yes n s hp W)
    have hin := l6in d 0 n
    rcases (by cases inB d 0 n <;> simp : inB d 0 n = true ∨ inB d 0 n = false) with hk | hk
    · rw [hk] at hin
      replace hin := Lib.hid hin
      have hb : blB n s d = true := by unfold blB; rw [hp]; exact hk
      rw [hb]
      obtain ⟨p1, p2, p3⟩ := pow_nat n1 n2
      have hme := bl_eq (2 ^ n.toNat) s d
      obtain ⟨N, hN⟩ : ∃ N : Nat, 2 ^ n.toNat = N := ⟨_, rfl⟩
      have hNi : (2 : Int) ^ n.toNat = (N : Nat) := by rw [← hN]; simp
      have hn0 : (0 : Int) ≤ n := by omega
      have hn64 : n < 64 := by omega
      show Calls Try.prog 10 #[.int .i64 n, .int .i64 s, .int .i64 d] w (ListPost (blL n s d) true w)
      unfold blL
      rw [hN] at p1 p2 p3 hme
      rw [hN, ← hme]
      obtain ⟨P, hP⟩ : ∃ P : Nat → Bool, (fun j : Nat => decide (dstI s (j : Nat) ≤ d)) = P := ⟨_, rfl⟩
      have hPk : ∀ k : Nat, decide (dstI s (k : Nat) ≤ d) = P k := fun k => by rw [← hP]
      rw [hP]
      clear hme
      replace hP := Lib.hid hP
      replace hPk := Lib.hid hPk
      replace hN := Lib.hid hN
      replace hNi := Lib.hid hNi
      replace hb := Lib.hid hb
      replace hk := Lib.hid hk
      replace hp := Lib.hid hp
      go_enter Try.func10, Try.ntmps10
      go_wp2_with (first | (go_at_call 22; refine (hpp.out _).mono ?_; rintro e w' ⟨rfl, rfl⟩) | (go_at_call 21; refine (hin.out _).mono ?_; rintro e w' ⟨rfl, rfl⟩))
      go_loopw [8, 9] (fun v s wr => ∃ k : Nat, k ≤ N ∧ s = .int .i64 k ∧ Hid (OwnL wr w.heap.size v (mkL P k)) ∧ Hid (Below w.heap.size w wr)) (fun _ s _ => N - (intOf s).toNat)
      case atStart => exact ⟨0, by omega, rfl, Lib.hid (OwnL.lit w (Nat.le_refl _)), Lib.hid ((Below.refl _ _).alloc (Nat.le_refl _) _)⟩
      case round =>
        obtain ⟨k, hk, rfl, hown, hbel⟩ := hrel
        have hsz := hbel.out.size
        by_cases hlt : k < N
        · have k1 : (0 : Int) ≤ (k : Int) := by omega
          have k2 : (k : Int) < (N : Nat) := by omega
          have hxo := i64_xorI s1 s3 k1 (show (k : Int) < 256 by omega)
          obtain ⟨x1, x2⟩ := xorI_lt s1 s3 k1 (show (k : Int) < 256 by omega)
          have hsz1 := l1size (xorI s (k : Int)) x1 x2
          have hpk := hPk.out k
          unfold dstI at hpk
          obtain ⟨y, hy⟩ : ∃ y, xorI s (k : Nat) = y := ⟨_, rfl⟩
          rw [hy] at hsz1 hpk hxo x1 x2
          obtain ⟨r, hr⟩ : ∃ r, cntI y = r := ⟨_, rfl⟩
          rw [hr] at hsz1 hpk
          replace hr := Lib.hid hr
          replace hy := Lib.hid hy
          replace hsz1 := Lib.hid hsz1
          have hlen : (mkL P k).length ≤ 1073741824 := by have := mkL_len P k; omega
          have hsu := mkL_succ P k
          rcases (by cases P k <;> simp : P k = true ∨ P k = false) with hp | hp
          · have hs : mkL P k ++ [(k : Int)] = mkL P (k + 1) := by rw [hsu, if_pos hp]
            obtain ⟨ys, hys⟩ : ∃ ys, mkL P k = ys := ⟨_, rfl⟩
            rw [hys] at hown hs hlen
            obtain ⟨a', c', rfl⟩ := hown.out.form
            have hB1 : w.heap.size ≤ (wr.alloc (.cells #[.int .i64 (k : Int)] 3)).heap.size := by rw [World.size_alloc]; omega
            clear hsu
            rw [hp] at hpk
            have hpk2 := of_decide_eq_true hpk
            replace hpk := Lib.hid hpk
            replace hp := Lib.hid hp
            replace hys := Lib.hid hys
            replace hs := Lib.hid hs
            go_wp2_with (first | (go_at_call 23; refine (hsz1.out _).mono ?_; rintro e w' ⟨rfl, rfl⟩) | (at_builtin; refine app_int rfl _ _ rfl w.heap.size _ ys rfl (hown.out.alloc _) (k : Int) wr.heap.size rfl (cell_new _ _ _) hlen hB1 ?_; intro v' w1 hown1 hb1))
            rw [hs.out] at hown1
            replace hown1 := Lib.hid hown1
            have hb2 := Lib.hid ((hbel.out.alloc hsz _).trans hb1)
            go_roundw
            case rel => exact ⟨k + 1, by omega, by go_num, hown1, hb2⟩
            case measure => simp [intOf]; omega
          · have hs : mkL P k = mkL P (k + 1) := by rw [hsu, if_neg (by simp [hp]), List.append_nil]
            rw [hs] at hown
            obtain ⟨ys, hys⟩ : ∃ ys, mkL P (k + 1) = ys := ⟨_, rfl⟩
            rw [hys] at hown
            obtain ⟨a', c', rfl⟩ := hown.out.form
            clear hsu hs hlen
            rw [hp] at hpk
            have hpk2 := of_decide_eq_false hpk
            replace hpk := Lib.hid hpk
            replace hp := Lib.hid hp
            replace hys := Lib.hid hys
            go_wp2_with ((go_at_call 23; refine (hsz1.out _).mono ?_; rintro e w' ⟨rfl, rfl⟩))
            go_roundw
            case rel => exact ⟨k + 1, by omega, by go_num, by rw [hys.out]; exact hown, hbel⟩
            case measure => simp [intOf]; omega
        · obtain rfl : k = N := by omega
          obtain ⟨a', c', rfl⟩ := hown.out.form
          have hown2 := Lib.hid hown.out.own
          clear hown
          go_wp2_with fail
          go_ret2
          exact ⟨_, rfl, hown2.out, hbel.out⟩
    · rw [hk] at hin
      replace hin := Lib.hid hin
      have hb : blB n s d = false := by unfold blB; rw [hp]; exact hk
      rw [hb]
      replace hb := Lib.hid hb
      replace hk := Lib.hid hk
      replace hp := Lib.hid hp
      go_enter Try.func10, Try.ntmps10
      go_wp2_with (first | (go_at_call 22; refine (hpp.out _).mono ?_; rintro e w' ⟨rfl, rfl⟩) | (go_at_call 21; refine (hin.out _).mono ?_; rintro e w' ⟨rfl, rfl⟩))
      go_ret2
      exact ⟨_, rfl, own_empty0 _ _ _ _ _, (Below.refl _ _).alloc (Nat.le_refl _) _⟩
  · have hpp := Lib.hid (fun W => sp_set_in_no n s hp W)
    have hb : blB n s d = false := by unfold blB; rw [hp]; rfl
    rw [hb]
    replace hb := Lib.hid hb
    replace hp := Lib.hid hp
    go_enter Try.func10, Try.ntmps10
    go_wp2_with (go_at_call 22; refine (hpp.out _).mono ?_; rintro e w' ⟨rfl, rfl⟩)
    go_ret2
    exact ⟨_, rfl, own_empty0 _ _ _ _ _, (Below.refl _ _).alloc (Nat.le_refl _) _⟩
theorem law_BoundaryBall_at (n s k : Int) (L : List Int) (b : Bool) (hL : L.length ≤ 1000000) (P0 : World → Prop) (hP : ∀ W W', P0 W → Below W.heap.size W W' → P0 W')
    (hi : ∀ W, P0 W → Calls Try.prog 11 #[.int .i64 n, .int .i64 s, .int .i64 k] W fun e w' => ∃ v, e = .returned (.tuple #[v, .bool b]) ∧ Own w' W.heap.size w'.heap.size v L ∧ Below W.heap.size W w')
    (hs : ∀ W, P0 W → Calls Try.prog 10 #[.int .i64 n, .int .i64 s, .int .i64 k] W fun e w' => ∃ v, e = .returned (.tuple #[v, .bool b]) ∧ Own w' W.heap.size w'.heap.size v L ∧ Below W.heap.size W w')
    (w : World) (h0 : P0 w) : Calls Try.prog 4 #[.int .i64 n, .int .i64 s, .int .i64 k] w fun e w' => e = .returned (.bool true) ∧ Below w.heap.size w w' := by
  have hi := Lib.hid hi
  have hs := Lib.hid hs
  have h0 := Lib.hid h0
  have hP := Lib.hid hP
  have hsame : sameB L L = true := decide_eq_true rfl
  have hbb : (b != b) = false := by simp
  go_enter Try.func4, Try.ntmps4
  go_wp2_with fail
  refine (hs.out _ h0.out).mono ?_
  rintro e w1 ⟨v0, rfl, hO0, hb1⟩
  obtain ⟨a0, c0, rfl, _⟩ := id hO0
  have hO0 := Lib.hid hO0
  have h1 := Lib.hid (hP.out _ _ h0.out hb1)
  go_wp2_with fail
  refine (hi.out _ h1.out).mono ?_
  rintro e w2 ⟨v1, rfl, hO1, hb2⟩
  obtain ⟨a1, c1, rfl, _⟩ := id hO1
  have hO1 := Lib.hid hO1
  have hR0 := Lib.hid ((hO0.out.row.below hb2 (Nat.le_refl _)).mono hb2.size)
  go_wp2_with fail
  refine (eq_ints _ _ L L _ _ hO1.out.row hR0.out (by omega) (by omega)).mono ?_
  rintro e w' ⟨rfl, n1, rfl⟩
  go_wp2_with fail
  refine (mark_ints _ L 1 _ _ _ (hO1.out.drewN n1) (by omega) (by omega) (by omega)).mono ?_
  rintro e w3 ⟨rfl, hO3, hb3⟩
  have hO3 := Lib.hid hO3
  go_wp2_with fail
  have hlen : (marks 1 L.length).length ≤ 1000000 := by rw [marks_len]; exact hL
  refine (held_ints _ (marks 1 L.length) 1 _ _ (by have := hO3.out.row; exact this) (by omega) (by omega) (by omega)).mono ?_
  rintro e w' ⟨rfl, rfl⟩
  rw [heldV_marks]
  have hq : (0 : Int) ≤ 1 + (L.length : Nat) := by omega
  have hqq : ((1 : Int) + (L.length : Nat) != 1 + (L.length : Nat)) = false := by simp
  have s1 := hb1.size
  have s2 := hb2.size
  have s3 : w2.heap.size ≤ w3.heap.size := hb3.size
  have hb123 := Lib.hid ((hb1.trans (hb2.mono s1)).trans ((below_drewN (Below.refl _ w2) n1).trans (hb3.mono s1)))
  have h3 := Lib.hid (hP.out _ _ h0.out hb123.out)
  go_wp2_with fail
  refine (hi.out _ h3.out).mono ?_
  rintro e w4 ⟨v4, rfl, hO4, hb4⟩
  obtain ⟨a4, c4, rfl, _⟩ := id hO4
  have hO4 := Lib.hid hO4
  have s4 := hb4.size
  have hR4 := Lib.hid ((((hO0.out.row.below hb2 (Nat.le_refl _)).drewN n1).below hb3 (Nat.le_refl _)).below hb4 (by omega))
  have hO5 := Lib.hid (hO3.out.below hb4 s3)
  go_wp2_with fail
  refine (eq_ints _ _ L L w4.heap.size _ hO4.out.row (hR4.out.mono (by omega)) (by omega) (by omega)).mono ?_
  rintro e w' ⟨rfl, n5, rfl⟩
  go_wp2_with fail
  refine (held_ints _ (marks 1 L.length) 1 _ _ ((hO5.out.drewN n5).row) (by omega) (by omega) (by omega)).mono ?_
  rintro e w' ⟨rfl, rfl⟩
  rw [heldV_marks]
  go_wp2_with fail
  go_ret
  exact ⟨rfl, below_drewN (hb123.out.trans (hb4.mono (by omega))) n5⟩
theorem blL_len {n s k : Int} (h : blB n s k = true) : (blL n s k).length ≤ 256 := by
  unfold blB at h
  rw [Bool.and_eq_true] at h
  obtain ⟨n1, n2, _⟩ := setB_yes h.1
  obtain ⟨p1, p2, p3⟩ := pow_nat n1 n2
  have := List.length_filter_le (fun x => decide (dstI x s ≤ k)) (upI (2 ^ n.toNat))
  rw [upI_len] at this
  unfold blL; omega
theorem Law_BoundaryBall (n s k : Int) (w : World) : Calls Try.prog 4 #[.int .i64 n, .int .i64 s, .int .i64 k] w fun e w' => e = .returned (.bool true) ∧ Below w.heap.size w w' :=
  law_BoundaryBall_at n s k _ _ (by
    rcases (by cases blB n s k <;> simp : blB n s k = true ∨ blB n s k = false) with hb | hb
    · rw [hb]; have := blL_len hb; show (blL n s k).length ≤ 1000000; omega
    · rw [hb]; simp [ifL]) (fun _ => True) (fun _ _ _ _ => trivial) (fun W _ => im_BoundaryBall n s k W) (fun W _ => sp_BoundaryBall n s k W) w trivial
end Go.Proofs.Ytgfmfecalhmplaa
