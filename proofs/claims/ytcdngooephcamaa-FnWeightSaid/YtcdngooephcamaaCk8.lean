/- The model's WeightOf and the exact law. -/
import Derived.Test.YtcdngooephcamaaCk6
import Derived.Test.YtcdngooephcamaaCk7
import Derived.Test.YtcdngooephcamaaLawBool
namespace Go.Proofs.Ytcdngooephcamaa
open Go.ChangeShapes Go.WideShapes Go.ChangeAt Go.RowKit Go.Proofs

theorem l5weight (n : Nat) (lv : Value) (xs : List Int) (S : Nat) (w : World) (hx : Row w S lv xs) (n1 : 1 ≤ n) (n8 : n ≤ 8) (hl : xs.length ≤ 256) (hset : ∀ z ∈ xs, ∃ k : Nat, cntI z = (k : Nat) ∧ k ≤ n ∧ 0 ≤ z ∧ z < 256) :
    Calls Try.prog 16 #[.int .i64 (n : Nat), lv] w fun e w' => e = .returned (.int .i64 (wS n xs : Nat)) ∧ w = w' := by
  obtain ⟨a, cap, rfl, ha⟩ := hx
  have hbot := Lib.hid (fun W => l5bottom n W n1 n8)
  have hcb2 := (cb_bd n).2
  obtain ⟨cb, hcb⟩ : ∃ cb, cbN n = cb := ⟨_, rfl⟩
  rw [hcb] at hbot hcb2
  replace ha := Lib.hid ha
  replace hset := Lib.hid hset
  replace hcb := Lib.hid hcb
  go_enter Try.func16, Try.ntmps16
  go_wp2_with (go_at_call 17; refine (hbot.out _).mono ?_; rintro e w' ⟨rfl, rfl⟩)
  go_loop [6, 7] (fun o i => ∃ k : Nat, k ≤ xs.length ∧ i = .int .i64 (k : Nat) ∧ o = .int .i64 (wS n (xs.take k) : Nat)) (fun _ i => xs.length - (intOf i).toNat)
  case atStart => exact ⟨0, by omega, rfl, by simp [wS]⟩
  case round =>
    obtain ⟨k, hk, rfl, rfl⟩ := hrel
    by_cases hlt : k < xs.length
    · obtain ⟨b1, o1, rfl, s1, c1⟩ := ha.out (by omega)
      have k1 : (0 : Int) ≤ (k : Int) := by omega
      have k2 : (k : Int) < (xs.length : Nat) := by omega
      have e1 := c1 k hlt
      obtain ⟨x, hx⟩ : ∃ x, xs.getD k 0 = x := ⟨_, rfl⟩
      obtain ⟨c, hcn, hcN, x1, x2⟩ := hset.out x (by rw [← hx]; exact getD_mem hlt)
      rw [hx] at e1
      have hst := wS_take (n := n) hlt hx
      rw [hcn, hcb.out, Int.toNat_natCast] at hst
      have hle1 := wS_le n (xs.take k)
      rw [List.length_take] at hle1
      have hsize := fun W => l1size x x1 x2 W
      rw [hcn] at hsize
      have hch := fun W => sp_choose_in (n : Nat) (c : Nat) (by omega) (by omega) (by omega) (by omega) W
      obtain ⟨hc0, hc1, hc2⟩ := ch_N n8 hcN
      rw [hc0] at hch
      obtain ⟨d, hd⟩ : ∃ d, chN n c = d := ⟨_, rfl⟩
      rw [hd] at hch hc1 hc2 hst
      have hq := Nat.div_le_self cb d
      have hqi : (cb : Int) / (d : Int) = ((cb / d : Nat) : Int) := by simp
      obtain ⟨q, hqq⟩ : ∃ q, cb / d = q := ⟨_, rfl⟩
      rw [hqq] at hst hq hqi
      obtain ⟨t, ht⟩ : ∃ t, wS n (xs.take k) = t := ⟨_, rfl⟩
      rw [ht] at hst hle1 ⊢
      have d0 : (1 : Int) ≤ (d : Int) := by omega
      replace hsize := Lib.hid hsize
      replace hch := Lib.hid hch
      replace hst := Lib.hid hst
      replace ht := Lib.hid ht
      replace hd := Lib.hid hd
      replace hqq := Lib.hid hqq
      replace hcn := Lib.hid hcn
      clear hx c1 hc0
      go_wp2_with (first | (go_at_call 38; refine (hsize.out _).mono ?_; rintro e w' ⟨rfl, rfl⟩) | (go_at_call 37; refine (hch.out _).mono ?_; rintro e w' ⟨rfl, rfl⟩))
      go_round
      case rel => exact ⟨k + 1, by omega, by first | rfl | go_num, by rw [hst.out]; first | rfl | go_num⟩
      case measure => simp [intOf]; omega
    · obtain rfl : k = xs.length := by omega
      rw [List.take_length]
      go_wp2_with fail
      go_ret
      exact ⟨rfl, rfl⟩
theorem sp_WeightOf (n : Int) (lv : Value) (xs : List Int) (S : Nat) (w : World) (hx : Row w S lv xs) (_hS : S ≤ w.heap.size) (hl : xs.length ≤ 100000000) :
    Calls Try.prog 6 #[.int .i64 n, lv] w (PairPost (wgtI n xs) (botI n xs) (famB n xs) w) := by
  have h1 := sp_FamilyIn n lv xs S w hx (by omega)
  obtain ⟨a, cap, rfl, ha⟩ := id hx
  unfold wgtI botI
  rcases (by cases famB n xs <;> simp : famB n xs = true ∨ famB n xs = false) with f1 | f1
  · rw [f1] at h1
    rw [f1, if_pos rfl, if_pos rfl]
    obtain ⟨n1, n2, hall⟩ := famB_all f1
    obtain ⟨N, rfl⟩ : ∃ N : Nat, n = (N : Nat) := ⟨n.toNat, by omega⟩
    simp only [Int.toNat_natCast]
    have hset : ∀ z ∈ xs, ∃ k : Nat, cntI z = (k : Nat) ∧ k ≤ N ∧ 0 ≤ z ∧ z < 256 := fun z hz => by
      obtain ⟨_, _, z1, z2⟩ := setB_yes (hall z hz)
      obtain ⟨z3, z4⟩ := setB_lt (hall z hz)
      rw [Int.toNat_natCast] at z2
      obtain ⟨k, h1, h2⟩ := cnt_set (by omega) z1 z2
      exact ⟨k, h1, h2, z3, z4⟩
    have hwt := Lib.hid (fun q => l5weight N _ xs S (w.drewN q) (hx.drewN q) (by omega) (by omega) (famB_len f1) hset)
    have hbt := Lib.hid (fun W => l5bottom N W (by omega) (by omega))
    replace h1 := Lib.hid h1
    replace f1 := Lib.hid f1
    replace hall := Lib.hid hall
    replace hset := Lib.hid hset
    clear hx ha
    go_enter Try.func6, Try.ntmps6
    go_wp2_with fail
    refine h1.out.mono ?_
    rintro e w1 ⟨rfl, q, rfl⟩
    go_wp2_with (first | (go_at_call 16; refine (hwt.out q).mono ?_; rintro e w' ⟨rfl, rfl⟩) | (go_at_call 17; refine (hbt.out _).mono ?_; rintro e w' ⟨rfl, rfl⟩))
    go_ret3
    exact ⟨rfl, below_drewN (Below.refl _ _) q⟩
  · rw [f1] at h1
    rw [f1, if_neg (by simp), if_neg (by simp)]
    replace h1 := Lib.hid h1
    replace f1 := Lib.hid f1
    clear hx ha
    go_enter Try.func6, Try.ntmps6
    go_wp2_with fail
    refine h1.out.mono ?_
    rintro e w1 ⟨rfl, q, rfl⟩
    go_wp2_with fail
    go_ret3
    exact ⟨rfl, below_drewN (Below.refl _ _) q⟩
end Go.Proofs.Ytcdngooephcamaa
