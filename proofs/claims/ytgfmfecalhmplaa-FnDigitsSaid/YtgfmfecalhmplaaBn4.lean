/- Digits double: the draw and the law. -/
import Derived.Test.YtgfmfecalhmplaaBn3
import Derived.Test.YtgfmfecalhmplaaDraw
namespace Go.Proofs.Ytgfmfecalhmplaa
open Go.ChangeShapes Go.WideShapes Go.ChangeAt Go.RowKit

set_option maxRecDepth 100000 in
set_option maxHeartbeats 1000000 in
theorem draw_Digits (v : Value) (a : Option Addr) (len cap : Nat) (w : World) (hv : v = .slice a len cap) (hc : len ≤ cap) (hcap : cap ≤ 9223372036854775807) (hB : Bytes w w.heap.size a len) :
    Calls Try.prog 7 #[v] w fun e w' => ∃ m, e = .returned (.int .i64 m) ∧ -2 ≤ m ∧ m ≤ 1036 ∧ Below w.heap.size w w' := by
  have h0 := Lib.hid (rd_open v a len cap w hv hc hcap hB)
  clear hv hc hcap hB
  go_enter Try.func7, Try.ntmps7
  go_wp2_with fail
  refine (h0.out).mono ?_
  rintro e w0 ⟨r, rfl, hr, hR0, hb0, hz0⟩
  have hrw : w.heap.size ≤ r := by omega
  replace hr := Lib.hid hr
  replace hR0 := Lib.hid hR0
  replace hb0 := Lib.hid hb0
  go_wp2_with fail
  refine (rd_pick r _ 0 260 w0 hR0.out (by omega) (by omega) (by omega)).mono ?_
  rintro e w1 ⟨x, rfl, ⟨x1, x2, x3, x4⟩, hR1, hO1⟩
  have x5 : x < 260 := x3 (by omega)
  have hb1 := Lib.hid (hO1.below hb0.out hrw hb0.out.size)
  replace hR1 := Lib.hid hR1
  clear x2 x3 x4 hO1 hR0
  go_wp2_with fail
  refine (rd_pick r _ (0 + 1) 3 w1 hR1.out (by omega) (by omega) (by omega)).mono ?_
  rintro e w2 ⟨y, rfl, ⟨y1, y2, y3, y4⟩, hR2, hO2⟩
  have y5 : y < 3 := y3 (by omega)
  have hb2 := Lib.hid (hO2.below hb1.out hrw hb1.out.size)
  clear y2 y3 y4 hO2 hR1 hR2
  go_wp2_with fail
  go_ret
  exact ⟨_, rfl, by omega, by omega, hb2.out⟩
theorem pc_dbl : ∀ k : Fin 512, pcI ((2 * k.val : Nat) : Int) = pcI (k.val : Nat) ∧ pcI ((2 * k.val + 1 : Nat) : Int) = pcI (k.val : Nat) + 1 := by decide +kernel
theorem dg_dbl : ∀ k : Nat, k ≤ 512 → dgS (2 * k) = 2 * dgS k + (k : Nat)
  | 0, _ => by simp [dgS]
  | k + 1, h => by
    have ih := dg_dbl k (by omega)
    obtain ⟨a, b⟩ := pc_dbl ⟨k, by omega⟩
    have e : dgS (2 * (k + 1)) = dgS (2 * k) + pcI ((2 * k : Nat) : Int) + pcI ((2 * k + 1 : Nat) : Int) := rfl
    have e2 : dgS (k + 1) = dgS k + pcI (k : Nat) := rfl
    simp only at a b
    rw [e, e2, ih, a, b]; omega
theorem dgV_yes {m : Int} (h : 0 ≤ m ∧ m ≤ 1000) : dgV m = dgS m.toNat ∧ dgB m = true := by
  have hb : dgB m = true := decide_eq_true h
  exact ⟨by unfold dgV; rw [hb]; rfl, hb⟩
set_option maxRecDepth 100000 in
set_option maxHeartbeats 2000000 in
theorem law_FnDigits (v : Value) (a : Option Addr) (len cap : Nat) (w : World) (hv : v = .slice a len cap) (hc : len ≤ cap) (hcap : cap ≤ 9223372036854775807) (hB : Bytes w w.heap.size a len) :
    Calls Try.prog 3 #[v] w fun e w' => e = .returned (.bool true) ∧ Below w.heap.size w w' := by
  have h0 := Lib.hid (draw_Digits v a len cap w hv hc hcap hB)
  subst hv
  clear hB
  by_cases hbig : 1048576 < len
  · go_enter Try.func3, Try.ntmps3
    go_wp2_with fail
    go_ret
    exact ⟨rfl, Below.refl _ _⟩
  · go_enter Try.func3, Try.ntmps3
    go_wp2_with fail
    refine (h0.out).mono ?_
    rintro e w1 ⟨m, rfl, m1, m2, hb⟩
    replace hb := Lib.hid hb
    have c1 := fun W => im_BoundaryDigits m W
    have c2 := fun W => sp_BoundaryDigits m W
    by_cases h : 0 ≤ m ∧ m ≤ 1000
    · obtain ⟨v1, v2⟩ := dgV_yes h
      rw [v1, v2] at c1 c2
      have hbd := dg_bd m.toNat
      have c3 := fun W => im_BoundaryDigits (2 * m) W
      have hd : m ≤ 500 → dgV (2 * m) = 2 * dgS m.toNat + m ∧ dgB (2 * m) = true := fun hm => by
        obtain ⟨a1, a2⟩ := dgV_yes (m := 2 * m) (by omega)
        have e := dg_dbl m.toNat (by omega)
        have e2 : (2 * m).toNat = 2 * m.toNat := by omega
        refine ⟨?_, a2⟩
        rw [a1, e2, e]; omega
      obtain ⟨d, hdd⟩ : ∃ d, dgS m.toNat = d := ⟨_, rfl⟩
      rw [hdd] at c1 c2 hbd hd
      replace hdd := Lib.hid hdd
      have c1 := Lib.hid c1
      have c2 := Lib.hid c2
      clear v1 v2
      have h1 := h.1
      have hbd1 : d ≤ 10000 := by omega
      have hbd0 := hbd.1
      clear h hbd
      by_cases hm : m ≤ 500
      · obtain ⟨e1, e2⟩ := hd hm
        rw [e1, e2] at c3
        have c3 := Lib.hid c3
        clear e1 e2 hd
        go_wp2_with (first
            | (go_at_call 8; first | ((with_reducible refine (c1.out _).mono ?_); rintro e w' ⟨rfl, rfl⟩) | ((with_reducible refine (c3.out _).mono ?_); rintro e w' ⟨rfl, rfl⟩))
            | (go_at_call 9; (with_reducible refine (c2.out _).mono ?_); rintro e w' ⟨rfl, rfl⟩))
        go_ret
        exact ⟨rfl, hb.out⟩
      · have hm2 : 500 < m := by omega
        clear hd hm
        obtain ⟨x, hx⟩ : ∃ x, dgV (2 * m) = x := ⟨_, rfl⟩
        obtain ⟨y, hy⟩ : ∃ y, dgB (2 * m) = y := ⟨_, rfl⟩
        rw [hx, hy] at c3
        have c3 := Lib.hid c3
        clear hx hy
        go_wp2_with (first
            | (go_at_call 8; first | ((with_reducible refine (c1.out _).mono ?_); rintro e w' ⟨rfl, rfl⟩) | ((with_reducible refine (c3.out _).mono ?_); rintro e w' ⟨rfl, rfl⟩))
            | (go_at_call 9; (with_reducible refine (c2.out _).mono ?_); rintro e w' ⟨rfl, rfl⟩))
        go_ret
        exact ⟨rfl, hb.out⟩
    · have v2 : dgB m = false := decide_eq_false h
      have v1 : dgV m = 0 := by unfold dgV; rw [v2]; rfl
      rw [v1, v2] at c1 c2
      have c1 := Lib.hid c1
      have c2 := Lib.hid c2
      clear v1 v2 h
      go_wp2_with (first
            | (go_at_call 8; (with_reducible refine (c1.out _).mono ?_); rintro e w' ⟨rfl, rfl⟩)
            | (go_at_call 9; (with_reducible refine (c2.out _).mono ?_); rintro e w' ⟨rfl, rfl⟩))
      go_ret
      exact ⟨rfl, hb.out⟩
end Go.Proofs.Ytgfmfecalhmplaa
