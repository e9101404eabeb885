/- The model's WeightOf and the exact law. -/
import Derived.Test.YtffnpignkimkhaaCk6
import Derived.Test.YtffnpignkimkhaaCk7
import Derived.Test.YtffnpignkimkhaaLawBool
namespace Go.Proofs.Ytffnpignkimkhaa
open Go.ChangeShapes Go.WideShapes Go.ChangeAt Go.RowKit Go.Proofs

theorem l5weight (n : Nat) (lv : Value) (xs : List Int) (S : Nat) (w : World) (hx : Row w S lv xs) (n1 : 1 ≤ n) (n8 : n ≤ 8) (hl : xs.length ≤ 256) (hset : ∀ z ∈ xs, ∃ k : Nat, cntI z = (k : Nat) ∧ k ≤ n ∧ 0 ≤ z ∧ z < 256) :
    Calls Try.prog 51 #[.int .i64 (n : Nat), lv] w fun e w' => e = .returned (.int .i64 (wS n xs : Nat)) ∧ w = w' := by
  obtain ⟨a, cap, rfl, ha⟩ := hx
  have hbot := Lib.hid (fun W => l5bottom n W n1 n8)
  have hcb2 := (cb_bd n).2
  obtain ⟨cb, hcb⟩ : ∃ cb, cbN n = cb := ⟨_, rfl⟩
  rw [hcb] at hbot hcb2
  replace ha := Lib.hid ha
  replace hset := Lib.hid hset
  replace hcb := Lib.hid hcb
  go_enter Try.func51, Try.ntmps51
  go_wp2_with (go_at_call 52; refine (hbot.out _).mono ?_; rintro e w' ⟨rfl, rfl⟩)
  go_loop [6, 7] (fun o i => ∃ k : Nat, k ≤ xs.length ∧ i = .int .i64 (k : Nat) ∧ o = .int .i64 (wS n (xs.take k) : Nat)) (fun _ i => xs.length - (intOf i).toNat)
  case atStart => exact ⟨0, by omega, rfl, by simp [wS]⟩
  case round =>
    obtain ⟨k, hk, rfl, rfl⟩ := hrel
    by_cases hlt : k < xs.length
    · obtain ⟨b1, o1, rfl, s1, c1⟩ := ha.out (by omega)
      have k1 : (0 : Int) ≤ (k : Int) := by omega
      have k2 : (k : Int) < (xs.length : Nat) := by omega
      have e1 := c1 k hlt
      obtain ⟨x, hx⟩ : ∃ x, xs.getD k 0 = x := ⟨_, rfl⟩
      obtain ⟨c, hcn, hcN, x1, x2⟩ := hset.out x (by rw [← hx]; exact getD_mem hlt)
      rw [hx] at e1
      have hst := wS_take (n := n) hlt hx
      rw [hcn, hcb.out, Int.toNat_natCast] at hst
      have hle1 := wS_le n (xs.take k)
      rw [List.length_take] at hle1
      have hsize := fun W => l1size x x1 x2 W
      rw [hcn] at hsize
      have hch := fun W => sp_choose_in (n : Nat) (c : Nat) (by omega) (by omega) (by omega) (by omega) W
      obtain ⟨hc0, hc1, hc2⟩ := ch_N n8 hcN
      rw [hc0] at hch
      obtain ⟨d, hd⟩ : ∃ d, chN n c = d := ⟨_, rfl⟩
      rw [hd] at hch hc1 hc2 hst
      have hq := Nat.div_le_self cb d
      have hqi : (cb : Int) / (d : Int) = ((cb / d : Nat) : Int) := by simp
      obtain ⟨q, hqq⟩ : ∃ q, cb / d = q := ⟨_, rfl⟩
      rw [hqq] at hst hq hqi
      obtain ⟨t, ht⟩ : ∃ t, wS n (xs.take k) = t := ⟨_, rfl⟩
      rw [ht] at hst hle1 ⊢
      have d0 : (1 : Int) ≤ (d : Int) := by omega
      replace hsize := Lib.hid hsize
      replace hch := Lib.hid hch
      replace hst := Lib.hid hst
      replace ht := Lib.hid ht
      replace hd := Lib.hid hd
      replace hqq := Lib.hid hqq
      replace hcn := Lib.hid hcn
      clear hx c1 hc0
      go_wp2_with (first | (go_at_call 81; refine (hsize.out _).mono ?_; rintro e w' ⟨rfl, rfl⟩) | (go_at_call 80; refine (hch.out _).mono ?_; rintro e w' ⟨rfl, rfl⟩))
      go_round
      case rel => exact ⟨k + 1, by omega, by first | rfl | go_num, by rw [hst.out]; first | rfl | go_num⟩
      case measure => simp [intOf]; omega
    · obtain rfl : k = xs.length := by omega
      rw [List.take_length]
      go_wp2_with fail
      go_ret
      exact ⟨rfl, rfl⟩
theorem sp_WeightOf (n : Int) (lv : Value) (xs : List Int) (S : Nat) (w : World) (hx : Row w S lv xs) (_hS : S ≤ w.heap.size) (hl : xs.length ≤ 100000000) :
    Calls Try.prog 26 #[.int .i64 n, lv] w (PairPost (wgtI n xs) (botI n xs) (famB n xs) w) := by
  have h1 := sp_FamilyIn n lv xs S w hx (by omega)
  obtain ⟨a, cap, rfl, ha⟩ := id hx
  unfold wgtI botI
  rcases (by cases famB n xs <;> simp : famB n xs = true ∨ famB n xs = false) with f1 | f1
  · rw [f1] at h1
    rw [f1, if_pos rfl, if_pos rfl]
    obtain ⟨n1, n2, hall⟩ := famB_all f1
    obtain ⟨N, rfl⟩ : ∃ N : Nat, n = (N : Nat) := ⟨n.toNat, by omega⟩
    simp only [Int.toNat_natCast]
    have hset : ∀ z ∈ xs, ∃ k : Nat, cntI z = (k : Nat) ∧ k ≤ N ∧ 0 ≤ z ∧ z < 256 := fun z hz => by
      obtain ⟨_, _, z1, z2⟩ := setB_yes (hall z hz)
      obtain ⟨z3, z4⟩ := setB_lt (hall z hz)
      rw [Int.toNat_natCast] at z2
      obtain ⟨k, h1, h2⟩ := cnt_set (by omega) z1 z2
      exact ⟨k, h1, h2, z3, z4⟩
    have hwt := Lib.hid (fun q => l5weight N _ xs S (w.drewN q) (hx.drewN q) (by omega) (by omega) (famB_len f1) hset)
    have hbt := Lib.hid (fun W => l5bottom N W (by omega) (by omega))
    replace h1 := Lib.hid h1
    replace f1 := Lib.hid f1
    replace hall := Lib.hid hall
    replace hset := Lib.hid hset
    clear hx ha
    go_enter Try.func26, Try.ntmps26
    go_wp2_with fail
    refine h1.out.mono ?_
    rintro e w1 ⟨rfl, q, rfl⟩
    go_wp2_with (first | (go_at_call 51; refine (hwt.out q).mono ?_; rintro e w' ⟨rfl, rfl⟩) | (go_at_call 52; refine (hbt.out _).mono ?_; rintro e w' ⟨rfl, rfl⟩))
    go_ret3
    exact ⟨rfl, below_drewN (Below.refl _ _) q⟩
  · rw [f1] at h1
    rw [f1, if_neg (by simp), if_neg (by simp)]
    replace h1 := Lib.hid h1
    replace f1 := Lib.hid f1
    clear hx ha
    go_enter Try.func26, Try.ntmps26
    go_wp2_with fail
    refine h1.out.mono ?_
    rintro e w1 ⟨rfl, q, rfl⟩
    go_wp2_with fail
    go_ret3
    exact ⟨rfl, below_drewN (Below.refl _ _) q⟩
set_option maxHeartbeats 4000000 in
theorem law_WeightOf (n : Int) (v : Value) (xs : List Int) (w : World) (hx : Row w w.heap.size v xs) (hl : xs.length ≤ 9223372036854775807) (c d : Int) (b : Bool)
    (hi : ∀ (W : World) (u : Value) (S : Nat), Row W S u xs → S ≤ W.heap.size → xs.length ≤ 100000000 → Calls Try.prog 27 #[.int .i64 n, u] W fun e w' => e = .returned (.tuple #[.int .i64 c, .int .i64 d, .bool b]) ∧ Below W.heap.size W w')
    (hs : ∀ (W : World) (u : Value) (S : Nat), Row W S u xs → S ≤ W.heap.size → xs.length ≤ 100000000 → Calls Try.prog 26 #[.int .i64 n, u] W fun e w' => e = .returned (.tuple #[.int .i64 c, .int .i64 d, .bool b]) ∧ Below W.heap.size W w') :
    Calls Try.prog 8 #[.int .i64 n, v] w fun e w' => e = .returned (.bool true) ∧ Below w.heap.size w w' := by
  have hx' := hx
  obtain ⟨a, cap, rfl, _⟩ := hx'
  by_cases hbig : 1048576 < xs.length
  · go_enter Try.func8, Try.ntmps8
    go_wp2_with fail
    go_ret
    exact ⟨rfl, Below.refl _ _⟩
  · have hl2 : xs.length ≤ 1048576 := by omega
    have hl3 : xs.length ≤ 100000000 := by omega
    have hR := Lib.hid hx
    replace hi := Lib.hid (fun W u S h1 h2 => hi W u S h1 h2 hl3)
    replace hs := Lib.hid (fun W u S h1 h2 => hs W u S h1 h2 hl3)
    have hcc : (c != c) = false := by simp
    have hdd : (d != d) = false := by simp
    have hbb : (b != b) = false := by simp
    have hsamx := Lib.hid (same_self xs)
    clear hx hbig
    go_enter Try.func8, Try.ntmps8
    go_wp2_with fail
    refine (to_ints _ xs _ _ hR.out (by omega) (Nat.le_refl _)).mono ?_
    rintro e w1 ⟨u, rfl, hu, hb1⟩
    obtain ⟨ua, uc, rfl, _⟩ := id hu
    have z1 := hb1.size
    have c2 := Lib.hid (hs.out _ _ _ hu.row (Nat.le_refl _))
    have hR1 := Lib.hid (hR.out.below hb1 (Nat.le_refl _))
    replace hb1 := Lib.hid hb1
    clear hu hs
    go_wp2_with fail
    refine c2.out.mono ?_
    rintro e w2 ⟨rfl, hb2⟩
    have z2 := hb2.size
    have hR2 := Lib.hid (hR1.out.below hb2 z1)
    replace hb2 := Lib.hid (hb1.out.trans (hb2.mono z1))
    clear c2
    go_wp2_with fail
    refine (to_ints _ xs _ _ hR2.out (by omega) (by omega)).mono ?_
    rintro e w3 ⟨x1, rfl, hX3, hb3⟩
    obtain ⟨xa, xc, rfl, _⟩ := id hX3
    have z3 : w2.heap.size ≤ w3.heap.size := hb3.size
    have c4 := Lib.hid (hi.out _ _ _ hX3.row (Nat.le_refl _))
    have hR3 := Lib.hid (hR2.out.below hb3 (by omega))
    have hX3' := Lib.hid hX3.row
    replace hb3 := Lib.hid (hb2.out.trans (hb3.mono (by omega)))
    clear hX3
    go_wp2_with fail
    refine c4.out.mono ?_
    rintro e w4 ⟨rfl, hb4⟩
    have z4 := hb4.size
    have hR4 := Lib.hid (hR3.out.below hb4 (by omega))
    have hX4 := Lib.hid (hX3'.out.below hb4 (Nat.le_refl _))
    replace hb4 := Lib.hid (hb3.out.trans (hb4.mono (by omega)))
    clear c4
    go_wp2_with fail
    refine (to_ints _ xs _ _ hR4.out (by omega) (by omega)).mono ?_
    rintro e w6 ⟨t, rfl, hT6, hb6⟩
    obtain ⟨ta, tc, rfl, _⟩ := id hT6
    have z6 := hb6.size
    have hX6 := Lib.hid (hX4.out.below hb6 (by omega))
    have hT6' := Lib.hid hT6.row
    replace hb6 := Lib.hid (hb4.out.trans (hb6.mono (by omega)))
    clear hT6
    go_wp2_with fail
    refine (eq_ints _ _ xs xs w6.heap.size _ (hX6.out.mono (by omega)) hT6'.out (by omega) (by omega)).mono ?_
    rintro e w' ⟨rfl, n7, rfl⟩
    rw [hsamx.out]
    go_wp2_with fail
    go_ret
    exact ⟨rfl, below_drewN hb6.out n7⟩
theorem Law_WeightOf (n : Int) (v : Value) (xs : List Int) (w : World) (hx : Row w w.heap.size v xs) (hl : xs.length ≤ 9223372036854775807) : Calls Try.prog 8 #[.int .i64 n, v] w fun e w' => e = .returned (.bool true) ∧ Below w.heap.size w w' :=
  law_WeightOf n v xs w hx hl _ _ _ (fun W u S h1 h2 h3 => im_WeightOf n u xs S W h1 h2 h3) (fun W u S h1 h2 h3 => sp_WeightOf n u xs S W h1 h2 h3)
end Go.Proofs.Ytffnpignkimkhaa
