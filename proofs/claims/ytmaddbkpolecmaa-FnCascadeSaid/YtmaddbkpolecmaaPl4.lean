/- Laws of chapter 1 over the program: cascades fall and add up. -/
import Derived.Test.YtmaddbkpolecmaaDrawS
import Derived.Test.YtmaddbkpolecmaaPl2
import Derived.Test.YtmaddbkpolecmaaSameL
import Derived.BigQuiet
namespace Go.Proofs.Ytmaddbkpolecmaa
open Go.ChangeShapes Go.WideShapes Go.ChangeAt Go.RowKit

set_option maxRecDepth 100000 in
set_option maxHeartbeats 1000000 in
theorem draw_Cascade (v : Value) (a : Option Addr) (len cap : Nat) (w : World) (hv : v = .slice a len cap) (hc : len ≤ cap) (hcap : cap ≤ 9223372036854775807) (hB : Bytes w w.heap.size a len) :
    Calls Try.prog 21 #[v] w (OneDraw w) := by
  have h0 := Lib.hid (rd_open v a len cap w hv hc hcap hB)
  clear hv hc hcap hB
  go_enter Try.func21, Try.ntmps21
  go_wp2_with fail
  refine (h0.out).mono ?_
  rintro e w0 ⟨r, rfl, hr, hR0, hb0, hz0⟩
  have hrw : w.heap.size ≤ r := by omega
  replace hr := Lib.hid hr
  replace hR0 := Lib.hid hR0
  replace hb0 := Lib.hid hb0
  go_wp2_with fail
  refine (rd_pick r _ 0 200 w0 hR0.out (by omega) (by omega) (by omega)).mono ?_
  rintro e w1 ⟨m, rfl, hm, hR1, hO1⟩
  have hb1 := Lib.hid (hO1.below hb0.out hrw hb0.out.size)
  replace hR1 := Lib.hid hR1
  clear hm hO1 hR0
  go_wp2_with fail
  refine (rd_pick r _ (0 + 1) 4 w1 hR1.out (by omega) (by omega) (by omega)).mono ?_
  rintro e w2 ⟨c, rfl, hcc, hR2, hO2⟩
  have hb2 := Lib.hid (hO2.below hb1.out hrw hb1.out.size)
  replace hR2 := Lib.hid hR2
  clear hcc hO2 hR1
  rcases (by by_cases e : c = 0 <;> simp [e] : (c == 0) = true ∨ (c == 0) = false) with hz | hz
  · go_wp2_with fail
    refine (rd_pick r _ (0 + 1 + 1) 250 w2 hR2.out (by omega) (by omega) (by omega)).mono ?_
    rintro e w3 ⟨x, rfl, ⟨x1, x2, x3, x4⟩, hR3, hO3⟩
    have x5 : x < 250 := x3 (by omega)
    have hb3 := Lib.hid (hO3.below hb2.out hrw hb2.out.size)
    replace hR3 := Lib.hid hR3
    clear x3 x4 hO3 hR2
    go_wp2_with fail
    refine (rd_pick r _ (0 + 1 + 1 + 1) 250 w3 hR3.out (by omega) (by omega) (by omega)).mono ?_
    rintro e w4 ⟨y, rfl, ⟨y1, y2, y3, y4⟩, hR4, hO4⟩
    have y5 : y < 250 := y3 (by omega)
    have hb4 := Lib.hid (hO4.below hb3.out hrw hb3.out.size)
    replace hR4 := Lib.hid hR4
    clear y3 y4 hO4 hR3
    have q1 : 0 ≤ x * y := Int.mul_nonneg x1 y1
    have q2 : x * y ≤ 250 * 250 := Int.mul_le_mul (by omega) (by omega) y1 (by omega)
    obtain ⟨P, hP⟩ : ∃ P, x * y = P := ⟨_, rfl⟩
    rw [hP] at q1 q2
    have q3 : P ≤ 62500 := by omega
    go_wp2_with fail
    refine (rd_pick r _ (0 + 1 + 1 + 1 + 1) 16 w4 hR4.out (by omega) (by omega) (by omega)).mono ?_
    rintro e w5 ⟨z, rfl, ⟨z1, z2, z3, z4⟩, hR5, hO5⟩
    have hb5 := Lib.hid (hO5.below hb4.out hrw hb4.out.size)
    replace hR5 := Lib.hid hR5
    clear z3 z4 hO5 hR4
    go_wp2_with fail
    refine (rd_pick r _ (0 + 1 + 1 + 1 + 1 + 1) 10 w5 hR5.out (by omega) (by omega) (by omega)).mono ?_
    rintro e w6 ⟨k, rfl, hk, hR6, hO6⟩
    have hb6 := Lib.hid (hO6.below hb5.out hrw hb5.out.size)
    clear hk hO6 hR5 hR6
    go_wp2_with fail
    go_ret2
    exact ⟨_, _, rfl, hb6.out⟩
  · go_wp2_with fail
    refine (rd_pick r _ (0 + 1 + 1) 10 w2 hR2.out (by omega) (by omega) (by omega)).mono ?_
    rintro e w3 ⟨k, rfl, hk, hR3, hO3⟩
    have hb3 := Lib.hid (hO3.below hb2.out hrw hb2.out.size)
    clear hk hO3 hR2 hR3
    go_wp2_with fail
    go_ret2
    exact ⟨_, _, rfl, hb3.out⟩
set_option maxRecDepth 100000 in
set_option maxHeartbeats 4000000 in
theorem law_FnCascade (v : Value) (a : Option Addr) (len cap : Nat) (w : World) (hv : v = .slice a len cap) (hc : len ≤ cap) (hcap : cap ≤ 9223372036854775807) (hB : Bytes w w.heap.size a len) :
    Calls Try.prog 7 #[v] w fun e w' => e = .returned (.bool true) ∧ Below w.heap.size w w' := by
  have h0 := Lib.hid (draw_Cascade v a len cap w hv hc hcap hB)
  subst hv
  clear hB
  by_cases hbig : 1048576 < len
  · go_enter Try.func7, Try.ntmps7
    go_wp2_with fail
    go_ret
    exact ⟨rfl, Below.refl _ _⟩
  · go_enter Try.func7, Try.ntmps7
    go_wp2_with fail
    refine (h0.out).mono ?_
    rintro e w1 ⟨m, k, rfl, hb⟩
    have hz := hb.size
    replace hb := Lib.hid hb
    by_cases h : cascOk m k
    · obtain ⟨f1, f2, f3, f4⟩ := casc_facts h
      obtain ⟨m1, m2, k1, k2, _⟩ := id h
      have c1 := Lib.hid (im_casc_yes m k h w1)
      have c2 := Lib.hid (fun W => sp_casc_yes m k h W)
      obtain ⟨xs, hxs⟩ : ∃ xs, cascL m k.toNat = xs := ⟨_, rfl⟩
      rw [hxs] at c1 c2 f1 f2 f3 f4
      have hsame : sameB xs xs = true := decide_eq_true rfl
      have hbd := Lib.hid (wayS_bd k2 f2)
      replace f1 := Lib.hid f1
      replace f2 := Lib.hid f2
      replace hxs := Lib.hid hxs
      replace h := Lib.hid h
      go_wp2_with fail
      refine c1.out.mono ?_
      rintro e w2 ⟨v2, rfl, hO2, hb2⟩
      obtain ⟨va, vc, rfl, _⟩ := id hO2
      have z2 := hb2.size
      replace hO2 := Lib.hid hO2
      replace hb2 := Lib.hid (hb.out.trans (hb2.mono hz))
      go_wp2_with fail
      refine (c2.out _).mono ?_
      rintro e w3 ⟨v3, rfl, hO3, hb3⟩
      obtain ⟨ya, yc, rfl, _⟩ := id hO3
      have z3 := hb3.size
      have hO23 := Lib.hid (hO2.out.below hb3 (Nat.le_refl _))
      replace hb3 := Lib.hid (hb2.out.trans (hb3.mono hb2.out.size))
      have hq := same_l (.slice va xs.length vc) (.slice ya xs.length yc) _ _ w3.heap.size w3 (hO23.out.row.mono z3) hO3.row (by omega) (by omega)
      rw [hsame] at hq
      replace hq := Lib.hid hq
      clear hO3
      go_wp2_with fail
      refine hq.out.mono ?_
      rintro e w4 ⟨rfl, q, rfl⟩
      have hO4 := Lib.hid (hO23.out.drewN q)
      have hb4 := Lib.hid (below_drewN hb3.out q)
      obtain ⟨w4, hw4⟩ : ∃ w4, w3.drewN q = w4 := ⟨_, rfl⟩
      rw [hw4] at hO4 hb4 ⊢
      go_wp2_with fail
      replace hw4 := Lib.hid hw4
      go_loopw [9, 10] (fun s i wr => ∃ j : Nat, j ≤ xs.length ∧ i = .int .i64 j ∧ s = .int .i64 (wayS k xs j) ∧ Hid (∃ m, wr = w4.drewN m)) (fun _ i _ => xs.length - (intOf i).toNat)
      case atStart => exact ⟨0, by omega, rfl, rfl, Lib.hid ⟨0, rfl⟩⟩
      case round =>
        obtain ⟨j, hj, rfl, rfl, hm⟩ := hrel
        obtain ⟨m', rfl⟩ := hm.out
        clear hm
        by_cases hlt : j < xs.length
        · obtain ⟨a', c', e', hcell⟩ := hO4.out.row
          injection e' with e1 e2 e3
          subst e1 e3
          obtain ⟨b1, o1, rfl, t1, cc⟩ := hcell (by omega)
          have g1 := cc j hlt
          obtain ⟨q1, q2, q3, _, q5⟩ := f2.out j hlt
          have hs : wayS k xs (j + 1) = wayS k xs j + chI (xs.getD j 0) (k - j) := rfl
          obtain ⟨y1, y2⟩ := hbd.out j (by omega)
          obtain ⟨x, hx⟩ : ∃ x, xs.getD j 0 = x := ⟨_, rfl⟩
          rw [hx] at g1 q2 q3 hs q5
          have hch := Lib.hid (fun W => im_Choose_yes x (k - j) (by unfold chooseOk; omega) W)
          have hcb := chI_bounds (n := x) (k := k - j) (by omega) (by omega) (by omega) (by omega)
          obtain ⟨c, hcc⟩ : ∃ c, chI x (k - j) = c := ⟨_, rfl⟩
          rw [hcc] at hch hs hcb
          obtain ⟨cb1, cb2⟩ := hcb
          obtain ⟨S, hSS⟩ : ∃ S, wayS k xs j = S := ⟨_, rfl⟩
          rw [hSS] at hs y1 y2 ⊢
          have y3 : S ≤ 8000000000000 := by omega
          have d1 : decide (k - (j : Int) < 1) = false := decide_eq_false (by omega)
          have d2 : decide (x < k - (j : Int)) = false := decide_eq_false (by omega)
          have hw1 : IntKind.i64.wrap (k - (j : Int)) = k - j := by rw [IntKind.wrap_i64]; omega
          have j0 : (0 : Int) ≤ (j : Int) := by omega
          have j3 : (j : Int) < (xs.length : Nat) := by omega
          replace hs := Lib.hid hs
          replace hx := Lib.hid hx
          replace hcc := Lib.hid hcc
          replace hSS := Lib.hid hSS
          clear hcell y2
          by_cases hj0 : 0 < j
          · obtain ⟨i, hi⟩ : ∃ i, j - 1 = i := ⟨_, rfl⟩
            have g2 := cc i (by omega)
            have hlts := q5 hj0
            rw [hi] at hlts
            obtain ⟨y, hy⟩ : ∃ y, xs.getD i 0 = y := ⟨_, rfl⟩
            rw [hy] at g2 hlts
            have d3 : decide ((0 : Int) < (j : Int)) = true := decide_eq_true (by omega)
            have d4 : decide (y ≤ x) = false := decide_eq_false (by omega)
            have hw2 : IntKind.i64.wrap ((j : Int) - 1) = (i : Int) := by rw [IntKind.wrap_i64]; omega
            have i0 : (0 : Int) ≤ (i : Int) := by omega
            have i3 : (i : Int) < (xs.length : Nat) := by omega
            replace hlts := Lib.hid hlts
            replace hi := Lib.hid hi
            replace hy := Lib.hid hy
            replace q5 := Lib.hid q5
            clear cc
            go_wp2_with (go_at_call 19; (with_reducible refine (hch.out _).mono ?_); rintro e w' ⟨rfl, rfl⟩)
            go_quiet (fail)
            go_wp2
            go_roundw
            case rel => exact ⟨j + 1, by omega, by go_num, by rw [hs.out], Lib.hid ⟨_, by first | rfl | exact drewN_add _ _ _⟩⟩
            case measure => simp [intOf]; omega
          · have d3 : decide ((0 : Int) < (j : Int)) = false := decide_eq_false (by omega)
            replace q5 := Lib.hid q5
            clear cc
            go_wp2_with (go_at_call 19; (with_reducible refine (hch.out _).mono ?_); rintro e w' ⟨rfl, rfl⟩)
            go_quiet (fail)
            go_wp2
            go_roundw
            case rel => exact ⟨j + 1, by omega, by go_num, by rw [hs.out], Lib.hid ⟨_, by first | rfl | exact drewN_add _ _ _⟩⟩
            case measure => simp [intOf]; omega
        · obtain rfl : j = xs.length := by omega
          rw [f1.out]
          have hl0 : (0 : Int) < (xs.length : Nat) := by omega
          go_wp2
          go_ret
          exact ⟨rfl, below_drewN hb4.out _⟩
    · have c1 := Lib.hid (im_casc_no m k h w1)
      have c2 := Lib.hid (fun W => sp_casc_no m k h W)
      have hsame : sameB ([] : List Int) [] = true := decide_eq_true rfl
      replace h := Lib.hid h
      go_wp2_with fail
      refine (c1.out).mono ?_
      rintro e w2 ⟨v2, rfl, hO2, hb2⟩
      obtain ⟨va, vc, rfl, _⟩ := id hO2
      have z2 := hb2.size
      replace hO2 := Lib.hid hO2
      replace hb2 := Lib.hid (hb.out.trans (hb2.mono hz))
      go_wp2_with fail
      refine (c2.out _).mono ?_
      rintro e w3 ⟨v3, rfl, hO3, hb3⟩
      obtain ⟨ya, yc, rfl, _⟩ := id hO3
      have z3 := hb3.size
      have hO23 := Lib.hid (hO2.out.below hb3 (Nat.le_refl _))
      replace hb3 := Lib.hid (hb2.out.trans (hb3.mono hb2.out.size))
      have hq : ∀ W, (∃ q, W = w3.drewN q) → Calls Try.prog 24 #[.slice va ([] : List Int).length vc, .slice ya ([] : List Int).length yc] W fun e w' => e = .returned (.bool true) ∧ ∃ n, w' = W.drewN n := by
        rintro W ⟨q, rfl⟩
        have := same_l (.slice va ([] : List Int).length vc) (.slice ya ([] : List Int).length yc) _ _ w3.heap.size (w3.drewN q) ((hO23.out.row.mono z3).drewN q) (hO3.row.drewN q) (by simp) (by simp)
        rw [hsame] at this
        exact this
      replace hq := Lib.hid hq
      go_wp2_with fail
      refine (hq.out w3 ⟨0, rfl⟩).mono ?_
      rintro e w4 ⟨rfl, q, rfl⟩
      go_wp2_with fail
      refine (hq.out _ ⟨q, rfl⟩).mono ?_
      rintro e w5 ⟨rfl, q5, rfl⟩
      go_wp2_with fail
      go_ret
      exact ⟨rfl, below_drewN hb3.out _⟩
end Go.Proofs.Ytmaddbkpolecmaa
