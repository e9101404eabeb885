/- The model's weights. -/
import Derived.Test.YtcdngooephcamaaCk1
import Derived.Test.YtcdngooephcamaaSpec7
import Derived.Test.YtcdngooephcamaaLawsB
namespace Go.Proofs.Ytcdngooephcamaa
open Go.ChangeShapes Go.WideShapes Go.ChangeAt Go.RowKit Go.Proofs

theorem l5gcd (a b : Nat) (w : World) (ha : a ≤ 1000000) (hb : b ≤ 1000000) : Calls Try.prog 39 #[.int .i64 (a : Nat), .int .i64 (b : Nat)] w fun e w' => e = .returned (.int .i64 (Nat.gcd a b : Nat)) ∧ w = w' := by
  obtain ⟨g, hg⟩ : ∃ g, Nat.gcd a b = g := ⟨_, rfl⟩
  rw [hg]
  go_enter Try.func39, Try.ntmps39
  go_wp2_with fail
  go_loop [0, 1] (fun x y => ∃ c r : Nat, x = .int .i64 (c : Nat) ∧ y = .int .i64 (r : Nat) ∧ c ≤ 1000000 ∧ r ≤ 1000000 ∧ Hid (Nat.gcd c r = g)) (fun _ y => (intOf y).toNat)
  case atStart => exact ⟨a, b, rfl, rfl, ha, hb, Lib.hid hg⟩
  case round =>
    obtain ⟨c, r, rfl, rfl, hc2, hr2, hgc⟩ := hrel
    by_cases hr : 0 < r
    · have hr0 : (0 : Int) < (r : Int) := by omega
      have hrn : ¬ ((r : Int) = 0) := by omega
      have hmod : (c : Int) % (r : Int) = ((c % r : Nat) : Int) := by simp
      have hml := Nat.mod_lt c hr
      have hgs := gcd_step c r
      obtain ⟨m, hm⟩ : ∃ m, c % r = m := ⟨_, rfl⟩
      rw [hm] at hmod hml hgs
      have hg2 := Lib.hid (hgs.trans hgc.out)
      replace hm := Lib.hid hm
      clear hgs
      go_wp2_with fail
      go_round
      case rel => exact ⟨r, m, rfl, by first | rfl | go_num, by omega, by omega, hg2⟩
      case measure => simp [intOf]; omega
    · obtain rfl : r = 0 := by omega
      have hgc2 := hgc.out
      rw [Nat.gcd_zero_right] at hgc2
      replace hgc2 := Lib.hid hgc2
      go_wp2_with fail
      go_ret
      exact ⟨by show Ending.returned (.int .i64 (c : Nat)) = _; rw [hgc2.out], rfl⟩
theorem l5bottom (n : Nat) (w : World) (n1 : 1 ≤ n) (n8 : n ≤ 8) : Calls Try.prog 17 #[.int .i64 (n : Nat)] w fun e w' => e = .returned (.int .i64 (cbN n : Nat)) ∧ w = w' := by
  have hend := Lib.hid (show btN n (n + 1) = cbN n from bt_end ⟨n, by omega⟩ (by dsimp only; omega))
  have n0 : (0 : Int) ≤ (n : Int) := by omega
  have n80 : (n : Int) ≤ 8 := by omega
  go_enter Try.func17, Try.ntmps17
  go_wp2_with fail
  go_loop [3, 4] (fun o i => ∃ k : Nat, k ≤ n + 1 ∧ i = .int .i64 (k : Nat) ∧ o = .int .i64 (btN n k : Nat)) (fun _ i => n + 1 - (intOf i).toNat)
  case atStart => exact ⟨0, by omega, rfl, rfl⟩
  case round =>
    obtain ⟨k, hk, rfl, rfl⟩ := hrel
    by_cases hlt : k < n + 1
    · have k1 : (0 : Int) ≤ (k : Int) := by omega
      have k3 : (k : Int) ≤ (n : Int) := by omega
      have hkn : k ≤ n := by omega
      have hch := fun W => sp_choose_in (n : Nat) (k : Nat) (by omega) (by omega) (by omega) (by omega) W
      obtain ⟨hc0, hc1, hc2⟩ := ch_N n8 hkn
      rw [hc0] at hch
      obtain ⟨b1, b2⟩ := bt_bd ⟨n, by omega⟩ ⟨k, by omega⟩ (by dsimp only; omega)
      obtain ⟨b3, b4⟩ := bt_bd ⟨n, by omega⟩ ⟨k + 1, by omega⟩ (by dsimp only; omega)
      dsimp only at b1 b2 b3 b4
      have hst : btN n (k + 1) = btN n k / Nat.gcd (btN n k) (chN n k) * chN n k := rfl
      obtain ⟨c, hc⟩ : ∃ c, chN n k = c := ⟨_, rfl⟩
      obtain ⟨o, ho⟩ : ∃ o, btN n k = o := ⟨_, rfl⟩
      rw [ho, hc] at hst
      rw [hc] at hch hc1 hc2
      rw [ho] at b1 b2 ⊢
      have hgcd := fun W => l5gcd o c W (by omega) (by omega)
      have hgp : 0 < Nat.gcd o c := Nat.gcd_pos_of_pos_right o (by omega)
      have hgl : Nat.gcd o c ≤ c := Nat.gcd_le_right o (by omega)
      obtain ⟨g, hg⟩ : ∃ g, Nat.gcd o c = g := ⟨_, rfl⟩
      rw [hg] at hgcd hst hgp hgl
      have hq := Nat.div_le_self o g
      have hqi : (o : Int) / (g : Int) = ((o / g : Nat) : Int) := by simp
      obtain ⟨q, hqq⟩ : ∃ q, o / g = q := ⟨_, rfl⟩
      rw [hqq] at hst hq hqi
      rw [hst] at b3 b4
      have hmi : (q : Int) * (c : Int) = ((q * c : Nat) : Int) := by simp
      obtain ⟨m, hm⟩ : ∃ m, q * c = m := ⟨_, rfl⟩
      rw [hm] at hst hmi b3 b4
      have g0 : (1 : Int) ≤ (g : Int) := by omega
      replace hch := Lib.hid hch
      replace hgcd := Lib.hid hgcd
      replace hst := Lib.hid hst
      replace hc := Lib.hid hc
      replace ho := Lib.hid ho
      replace hg := Lib.hid hg
      replace hqq := Lib.hid hqq
      replace hm := Lib.hid hm
      clear hc0
      go_wp2_with (first | (go_at_call 37; refine (hch.out _).mono ?_; rintro e w' ⟨rfl, rfl⟩) | (go_at_call 39; refine (hgcd.out _).mono ?_; rintro e w' ⟨rfl, rfl⟩))
      go_round
      case rel => exact ⟨k + 1, by omega, by first | rfl | go_num, by rw [hst.out]⟩
      case measure => simp [intOf]; omega
    · obtain rfl : k = n + 1 := by omega
      rw [hend.out]
      go_wp2_with fail
      go_ret
      exact ⟨rfl, rfl⟩
end Go.Proofs.Ytcdngooephcamaa
