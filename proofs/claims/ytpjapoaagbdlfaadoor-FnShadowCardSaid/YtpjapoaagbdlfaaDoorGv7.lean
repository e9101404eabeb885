/- Draws of families of one size that tell the number of points. -/
import Derived.Test.YtpjapoaagbdlfaaDoorGv6
namespace Go.Proofs.YtpjapoaagbdlfaaDoor
open Go.ChangeShapes Go.WideShapes Go.ChangeAt Go.RowKit Go.Proofs

theorem mkL_len256 (p : Nat → Bool) (m : Nat) : (mkL p m).length ≤ m := by
  unfold mkL
  have := List.length_filter_le (fun z : Int => p z.toNat) (upI m)
  rw [upI_len] at this
  exact this
set_option maxRecDepth 100000 in
set_option maxHeartbeats 4000000 in
theorem draw_even6 (v : Value) (a : Option Addr) (len cap : Nat) (w : World) (hv : v = .slice a len cap) (hc : len ≤ cap) (hcap : cap ≤ 9223372036854775807) (hB : Bytes w w.heap.size a len) :
    Calls Tryd.prog 11 #[v] w (Given6 w) := by
  have h0 := Lib.hid (rd_open v a len cap w hv hc hcap hB)
  clear hv hc hcap hB
  go_enter Tryd.func11, Tryd.ntmps11
  go_wp2_with fail
  refine (h0.out).mono ?_
  rintro e w0 ⟨r, rfl, hr, hR0, hb0, hz0⟩
  have hrw : w.heap.size ≤ r := by omega
  replace hr := Lib.hid hr
  replace hR0 := Lib.hid hR0
  replace hb0 := Lib.hid hb0
  go_wp2_with fail
  refine (rd_pick r _ 0 6 w0 hR0.out (by omega) (by omega) (by omega)).mono ?_
  rintro e w1 ⟨x, rfl, ⟨m1, m2, m3, m4⟩, hR1, hO1⟩
  have m5 : x < 6 := m3 (by omega)
  have hb1 := Lib.hid (hO1.below hb0.out hrw hb0.out.size)
  obtain ⟨n, hn⟩ : ∃ n, 1 + x = n := ⟨_, rfl⟩
  have n1 : 1 ≤ n := by omega
  have n6 : n ≤ 6 := by omega
  have hwn : IntKind.i64.wrap (1 + x) = n := by rw [IntKind.wrap_i64]; omega
  have hwn2 : wrap64 (1 + x) = n := by unfold wrap64; omega
  replace hR1 := Lib.hid hR1
  clear m3 m4 hO1 hR0
  go_wp2_with fail
  refine (rd_pick r _ 1 (n + 1) w1 hR1.out (by omega) (by omega) (by omega)).mono ?_
  rintro e w2 ⟨k, rfl, hk, hR2, hO2⟩
  clear hk
  have hb2 := Lib.hid (hO2.below hb1.out hrw hb1.out.size)
  have hz2 := hb2.out.size
  have hrl2 := hR2.lt
  have hlv := Lib.hid (level_at n k w2 n1 (by omega))
  have hLl := mkL_len256 (fun j => cntI (j : Nat) == k) (2 ^ n.toNat)
  have hpw := (pow_nat n1 (show n ≤ 8 by omega)).1
  obtain ⟨L, hL⟩ : ∃ L, mkL (fun j => cntI (j : Nat) == k) (2 ^ n.toNat) = L := ⟨_, rfl⟩
  rw [hL] at hlv hLl
  have hL3 : L.length ≤ 256 := by omega
  replace hL := Lib.hid hL
  replace hR2 := Lib.hid hR2
  clear hO2 hR1 hLl hpw
  go_wp2_with fail
  refine hlv.out.mono ?_
  rintro e w3 ⟨v3, rfl, hO3, hb3⟩
  obtain ⟨a3, c3, rfl⟩ := hO3.form
  have hz3 := hb3.size
  have hR3 := Lib.hid ((hR2.out.below hb3 hrl2).alloc (.cells #[] 3))
  have hA3 := hO3.own
  have hb23 := Lib.hid (hb2.out.trans (hb3.mono hz2))
  have hO3W := Lib.hid ((Only.refl r w3).alloc (.cells #[] 3))
  have hL0 := Lib.hid (OwnL.lit w3 (Nat.le_refl w3.heap.size))
  replace hA3 := Lib.hid hA3
  have hrl3 : r < w3.heap.size := by omega
  clear hO3 hb3 hR2
  go_wp2_with fail
  obtain ⟨W, hW⟩ : ∃ W, w3.alloc (.cells #[] 3) = W := ⟨_, rfl⟩
  have hWs : W.heap.size = w3.heap.size + 1 := by rw [← hW]; simp
  rw [hW] at hR3 hL0 hO3W ⊢
  replace hW := Lib.hid hW
  go_loopw [8, 9] (fun u i wr => ∃ (j : Nat) (acc : List Int), j ≤ L.length ∧ i = .int .i64 (j : Nat) ∧ acc.length ≤ j ∧ Hid (OwnL wr w3.heap.size u acc) ∧ Hid (Rdr wr r w.heap.size (1 + 1 + (j : Int))) ∧ Hid (Only r w3 wr)) (fun _ i _ => L.length - (intOf i).toNat)
  case atStart => exact ⟨0, [], by omega, rfl, by simp, hL0, Lib.hid (by simpa using hR3.out), hO3W⟩
  case round =>
    obtain ⟨j, acc, hj, rfl, hac, hown, hR, hO⟩ := hrel
    have hzz := hO.out.size
    obtain ⟨a', c', rfl⟩ := hown.out.form
    by_cases hlt : j < L.length
    · have j1 : (0 : Int) ≤ (j : Int) := by omega
      have j2 : (j : Int) < (L.length : Nat) := by omega
      go_wp2_with fail
      refine (rd_pick r _ (1 + 1 + (j : Int)) 2 _ hR.out (by omega) (by omega) (by omega)).mono ?_
      rintro e w4 ⟨z, rfl, ⟨z1, z2, z3, -⟩, hR4, hO4⟩
      have z4 : z < 2 := z3 (by omega)
      have hown4 := Lib.hid (hown.out.only hO4 hrl3)
      have hO5 := Lib.hid (hO.out.trans hO4)
      have hA5 := hA3.out.only hO5.out (show r < w2.heap.size from hrl2) (Nat.le_refl _)
      obtain ⟨ra, rc, he, hcells⟩ := hA5.row
      cases he
      obtain ⟨b1, o1, rfl, t1, cc⟩ := hcells (by omega)
      have e1 := cc j hlt
      obtain ⟨y, hy⟩ : ∃ y, L.getD j 0 = y := ⟨_, rfl⟩
      rw [hy] at e1
      have ep : 1 + 1 + (j : Int) + 1 = 1 + 1 + ((j + 1 : Nat) : Int) := by omega
      rw [ep] at hR4
      replace hR4 := Lib.hid hR4
      replace ep := Lib.hid ep
      replace hy := Lib.hid hy
      have hlt4 := hO5.out.size
      have hlen9 : acc.length ≤ 1073741824 := by omega
      have hrl4 : r < w4.heap.size := by omega
      clear hO4 cc hcells z3 hA5
      rcases (by omega : z = 0 ∨ z = 1) with rfl | rfl
      · have hB9 : w3.heap.size ≤ (w4.alloc (.cells #[.int .i64 y] 3)).heap.size := by rw [World.size_alloc]; omega
        go_wp2_with (at_builtin; refine app_int rfl _ _ rfl w3.heap.size _ acc rfl (hown4.out.alloc _) y w4.heap.size rfl (cell_new _ _ _) hlen9 hB9 ?_; intro v' w5 hown5 hb5)
        go_roundw
        case rel => exact ⟨j + 1, acc ++ [y], by omega, by go_num, by rw [List.length_append, List.length_singleton]; omega, Lib.hid hown5, Lib.hid ((hR4.out.alloc _).below hb5 hrl3), Lib.hid ((hO5.out.alloc _).then hb5 (Nat.le_refl _))⟩
        case measure => simp [intOf]; omega
      · go_wp2_with fail
        go_roundw
        case rel => exact ⟨j + 1, acc, by omega, by go_num, by omega, hown4, hR4, hO5⟩
        case measure => simp [intOf]; omega
    · have hfin := Lib.hid (hO.out.below hb23.out hrw hb23.out.size)
      go_wp2_with fail
      go_ret2
      exact ⟨_, _, acc, rfl, .inl n6, by omega, hown.out.own.mono (by omega) (Nat.le_refl _), hfin.out⟩
theorem draw_ShadowOf6 (v : Value) (a : Option Addr) (len cap : Nat) (w : World) (hv : v = .slice a len cap) (hc : len ≤ cap) (hcap : cap ≤ 9223372036854775807) (hB : Bytes w w.heap.size a len) :
    Calls Tryd.prog 4 #[v] w (Given6 w) := by
  have h0 := Lib.hid (draw_given6 v a len cap w hv hc hcap hB)
  have h1 := Lib.hid (draw_even6 v a len cap w hv hc hcap hB)
  subst hv
  clear hB
  have hl0 : (0 : Int) ≤ (len : Nat) := by omega
  have hl1 : (len : Int) ≤ 9223372036854775807 := by omega
  by_cases hpar : (len : Int) % 2 = 0
  · have hp2 : ((len : Int) % 2 == 0) = true := by simp [hpar]
    have hp3 : (len : Int).tmod 2 = 0 := by rw [Int.tmod_eq_emod_of_nonneg hl0]; exact hpar
    go_enter Tryd.func4, Tryd.ntmps4
    go_wp2_with fail
    refine (h1.out).mono ?_
    rintro e w1 ⟨n, u, xs, rfl, hn6, hl, hO, hb⟩
    obtain ⟨fa, fc, rfl, _⟩ := id hO
    replace hO := Lib.hid hO
    replace hb := Lib.hid hb
    go_wp2_with fail
    go_ret2
    exact ⟨_, _, xs, rfl, hn6, hl, hO.out, hb.out⟩
  · have hp2 : ((len : Int) % 2 == 0) = false := by simp [hpar]
    have hp3 : ¬ (len : Int).tmod 2 = 0 := by rw [Int.tmod_eq_emod_of_nonneg hl0]; exact hpar
    have hp4 : ((len : Int).tmod 2 == 0) = false := by simp [hp3]
    go_enter Tryd.func4, Tryd.ntmps4
    go_wp2_with fail
    refine (h0.out).mono ?_
    rintro e w1 ⟨n, u, xs, rfl, hn6, hl, hO, hb⟩
    obtain ⟨fa, fc, rfl, _⟩ := id hO
    replace hO := Lib.hid hO
    replace hb := Lib.hid hb
    go_wp2_with fail
    go_ret2
    exact ⟨_, _, xs, rfl, hn6, hl, hO.out, hb.out⟩
end Go.Proofs.YtpjapoaagbdlfaaDoor
