/- All sets in ball order: the model's comparison. -/
import Derived.Test.YtgfmfecalhmplaaDoorBo5
import Derived.Test.YtgfmfecalhmplaaDoorAllSp
import Derived.Deep.RegionHeld3
import Derived.BigQuiet
namespace Go.Proofs.YtgfmfecalhmplaaDoor
open Go.ChangeShapes Go.WideShapes Go.ChangeAt Go.RowKit Go.Proofs

theorem fd_step {a b : Int} {k : Nat} (h : k < 8) : fdB a b (8 - k) = if hasB a (k : Nat) != hasB b (k : Nat) then hasB a (k : Nat) else fdB a b (8 - (k + 1)) := by
  obtain ⟨j, hj⟩ : ∃ j, 8 - k = j + 1 := ⟨8 - k - 1, by omega⟩
  rw [hj, show 8 - (k + 1) = j by omega]
  have e : (7 - (j : Nat) : Int) = (k : Nat) := by omega
  show (if hasB a (7 - (j : Nat) : Int) != hasB b (7 - (j : Nat) : Int) then hasB a (7 - (j : Nat) : Int) else fdB a b j) = _
  rw [e]
set_option maxHeartbeats 1000000 in
theorem sp_ahead (a b : Int) (a1 : 0 ≤ a) (a2 : a < 256) (b1 : 0 ≤ b) (b2 : b < 256) (w : World) :
    Calls Tryd.prog 53 #[.int .i64 a, .int .i64 b] w fun e w' => e = .returned (.bool (decide (bkI a < bkI b))) ∧ w = w' := by
  rw [← ah_key a1 a2 b1 b2]
  have hs1 := fun W => l1size a a1 a2 W
  have hs2 := fun W => l1size b b1 b2 W
  have hh1 := Lib.hid (fun (p : Nat) (hp : p < 8) W => l1has a (p : Nat) a1 a2 (by omega) (by omega) W)
  have hh2 := Lib.hid (fun (p : Nat) (hp : p < 8) W => l1has b (p : Nat) b1 b2 (by omega) (by omega) W)
  unfold ahB
  obtain ⟨x, hx⟩ : ∃ x, cntI a = x := ⟨_, rfl⟩
  obtain ⟨y, hy⟩ : ∃ y, cntI b = y := ⟨_, rfl⟩
  rw [hx] at hs1 ⊢
  rw [hy] at hs2 ⊢
  replace hs1 := Lib.hid hs1
  replace hs2 := Lib.hid hs2
  replace hx := Lib.hid hx
  replace hy := Lib.hid hy
  by_cases hxy : x = y
  · subst hxy
    have hR := show (if x != x then decide (x < x) else fdB a b 8) = fdB a b 8 by simp
    rw [hR]
    clear hR
    obtain ⟨R, hRR⟩ : ∃ R, fdB a b 8 = R := ⟨_, rfl⟩
    rw [hRR]
    replace hRR := Lib.hid hRR
    go_enter Tryd.func53, Tryd.ntmps53
    go_wp2_with (go_at_call 72; first | ((with_reducible refine (hs1.out _).mono ?_); rintro e w' ⟨rfl, rfl⟩) | ((with_reducible refine (hs2.out _).mono ?_); rintro e w' ⟨rfl, rfl⟩))
    go_loopw [7] (fun q wr => ∃ k : Nat, k ≤ 8 ∧ q = .int .i64 k ∧ Hid (R = fdB a b (8 - k)) ∧ wr = w) (fun q _ => 8 - (intOf q).toNat)
    case atStart => exact ⟨0, by omega, rfl, Lib.hid hRR.out.symm, rfl⟩
    case round =>
      obtain ⟨k, hk, rfl, hF, rfl⟩ := hrel
      by_cases hlt : k < 8
      · have hst := hF.out.trans (fd_step hlt)
        have c1 := hh1.out k hlt
        have c2 := hh2.out k hlt
        obtain ⟨p, hp⟩ : ∃ p, hasB a (k : Nat) = p := ⟨_, rfl⟩
        obtain ⟨q, hq⟩ : ∃ q, hasB b (k : Nat) = q := ⟨_, rfl⟩
        rw [hp] at c1 hst
        rw [hq] at c2 hst
        replace hp := Lib.hid hp
        replace hq := Lib.hid hq
        by_cases hpq : p = q
        · subst hpq
          have hst2 := Lib.hid (show R = fdB a b (8 - (k + 1)) by rw [hst]; simp)
          replace c1 := Lib.hid c1
          replace c2 := Lib.hid c2
          clear hst
          go_wp2_with (go_at_call 73; first | ((with_reducible refine (c1.out _).mono ?_); rintro e w' ⟨rfl, rfl⟩) | ((with_reducible refine (c2.out _).mono ?_); rintro e w' ⟨rfl, rfl⟩))
          go_roundw
          case rel => exact ⟨k + 1, by omega, by go_num, hst2, by first | trivial | rfl⟩
          case measure => simp [intOf]; omega
        · have hne : (p != q) = true := by simp [hpq]
          have hst2 := Lib.hid (show p = R by rw [hst, if_pos hne])
          have hne2 : (!(p == q)) = true := by simp [hpq]
          have hne3 : (p == q) = false := by simp [hpq]
          replace c1 := Lib.hid c1
          replace c2 := Lib.hid c2
          clear hst
          go_wp2_with (go_at_call 73; first | ((with_reducible refine (c1.out _).mono ?_); rintro e w' ⟨rfl, rfl⟩) | ((with_reducible refine (c2.out _).mono ?_); rintro e w' ⟨rfl, rfl⟩))
          go_ret
          exact ⟨ret_bool hst2.out, rfl⟩
      · obtain rfl : k = 8 := by omega
        have hst2 := Lib.hid (show false = R from hF.out.symm)
        go_wp2_with fail
        go_ret
        exact ⟨ret_bool hst2.out, rfl⟩
  · have hne : (x != y) = true := by simp [hxy]
    have hR := Lib.hid (show decide (x < y) = (if x != y then decide (x < y) else fdB a b 8) by rw [if_pos hne])
    obtain ⟨R, hRR⟩ : ∃ R, (if x != y then decide (x < y) else fdB a b 8) = R := ⟨_, rfl⟩
    rw [hRR] at hR ⊢
    replace hRR := Lib.hid hRR
    go_enter Tryd.func53, Tryd.ntmps53
    go_wp2_with (go_at_call 72; first | ((with_reducible refine (hs1.out _).mono ?_); rintro e w' ⟨rfl, rfl⟩) | ((with_reducible refine (hs2.out _).mono ?_); rintro e w' ⟨rfl, rfl⟩))
    go_ret
    exact ⟨ret_bool hR.out, rfl⟩
end Go.Proofs.YtgfmfecalhmplaaDoor
