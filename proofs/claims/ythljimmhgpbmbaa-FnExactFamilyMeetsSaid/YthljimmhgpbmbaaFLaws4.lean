/- The exact laws of functions of two lists. -/
import Derived.Test.YthljimmhgpbmbaaFLaws
namespace Go.Proofs.Ythljimmhgpbmbaa
open Go.ChangeShapes Go.WideShapes Go.ChangeAt Go.RowKit Go.Proofs

set_option maxHeartbeats 4000000 in
theorem law_FamilyMeets (n : Int) (v v2 : Value) (xs zs : List Int) (w : World) (hx : Row w w.heap.size v xs) (hy : Row w w.heap.size v2 zs) (hl : xs.length ≤ 9223372036854775807) (hm : zs.length ≤ 9223372036854775807) (L : List Int) (b : Bool) (hL : L.length ≤ 1000000)
    (hi : ∀ (W : World) (u u2 : Value) (S : Nat), Row W S u xs → Row W S u2 zs → S ≤ W.heap.size → xs.length ≤ 100000000 → zs.length ≤ 100000000 → Calls Try.prog 40 #[.int .i64 n, u, u2] W (ListPost L b W))
    (hs : ∀ (W : World) (u u2 : Value) (S : Nat), Row W S u xs → Row W S u2 zs → S ≤ W.heap.size → xs.length ≤ 100000000 → zs.length ≤ 100000000 → Calls Try.prog 39 #[.int .i64 n, u, u2] W (ListPost L b W)) :
    Calls Try.prog 13 #[.int .i64 n, v, v2] w fun e w' => e = .returned (.bool true) ∧ Below w.heap.size w w' := by
  have hx' := hx
  obtain ⟨a, cap, rfl, _⟩ := hx'
  have hy' := hy
  obtain ⟨a9, cap9, rfl, _⟩ := hy'
  by_cases hbig : 1048576 < xs.length
  · go_enter Try.func13, Try.ntmps13
    go_wp2_with fail
    go_ret
    exact ⟨rfl, Below.refl _ _⟩
  by_cases hbig2 : 1048576 < zs.length
  · have hnb : xs.length ≤ 1048576 := by omega
    clear hbig
    go_enter Try.func13, Try.ntmps13
    go_wp2_with fail
    go_ret
    exact ⟨rfl, Below.refl _ _⟩
  · have hm2 : zs.length ≤ 1048576 := by omega
    have hm3 : zs.length ≤ 100000000 := by omega
    have hl2 : xs.length ≤ 1048576 := by omega
    have hLL := hL
    have hl3 : xs.length ≤ 100000000 := by omega
    have hR := Lib.hid hx
    have hY := Lib.hid hy
    replace hi := Lib.hid (fun W u u2 S h1 h2 h3 => hi W u u2 S h1 h2 h3 hl3 hm3)
    replace hs := Lib.hid (fun W u u2 S h1 h2 h3 => hs W u u2 S h1 h2 h3 hl3 hm3)
    have hbb : (b != b) = false := by simp
    have hsame := Lib.hid (same_self L)
    have hsamx := Lib.hid (same_self xs)
    have hsamz := Lib.hid (same_self zs)
    clear hx hy hbig hbig2 hL
    go_enter Try.func13, Try.ntmps13
    go_wp2_with fail
    refine (to_ints _ xs _ _ hR.out (by omega) (Nat.le_refl _)).mono ?_
    rintro e w1 ⟨u, rfl, hu, hb1⟩
    obtain ⟨ua, uc, rfl, _⟩ := id hu
    have z1 := hb1.size
    have hR1 := Lib.hid (hR.out.below hb1 (Nat.le_refl _))
    have hY1 := Lib.hid (hY.out.below hb1 (Nat.le_refl _))
    have hu1 := Lib.hid hu.row
    replace hb1 := Lib.hid hb1
    clear hu
    go_wp2_with fail
    refine (to_ints _ zs _ _ hY1.out (by omega) (by omega)).mono ?_
    rintro e w1 ⟨u2, rfl, hu, hb1'⟩
    obtain ⟨ub, ud, rfl, _⟩ := id hu
    have z1' := hb1'.size
    have z0 := z1
    replace z1 := Nat.le_trans z1 z1'
    have c2 := Lib.hid (hs.out _ _ _ _ ((hu1.out.below hb1' (Nat.le_refl _)).mono z1') hu.row (Nat.le_refl _))
    replace hR1 := Lib.hid (hR1.out.below hb1' (by omega))
    replace hY1 := Lib.hid (hY1.out.below hb1' (by omega))
    replace hb1 := Lib.hid (hb1.out.trans (hb1'.mono (by omega)))
    clear hu hs hb1' hu1
    go_wp2_with fail
    refine c2.out.mono ?_
    rintro e w2 ⟨v0, rfl, hO0, hb2⟩
    obtain ⟨a0, c0, rfl, _⟩ := id hO0
    have z2 := hb2.size
    have hR2 := Lib.hid (hR1.out.below hb2 z1)
    have hY2 := Lib.hid (hY1.out.below hb2 z1)
    replace hO0 := Lib.hid hO0
    replace hb2 := Lib.hid (hb1.out.trans (hb2.mono z1))
    clear c2
    go_wp2_with fail
    refine (to_ints _ xs _ _ hR2.out (by omega) (by omega)).mono ?_
    rintro e w3 ⟨x1, rfl, hX3, hb3⟩
    obtain ⟨xa, xc, rfl, _⟩ := id hX3
    have z3 := hb3.size
    have hR3 := Lib.hid (hR2.out.below hb3 (by omega))
    have hY3 := Lib.hid (hY2.out.below hb3 (by omega))
    have hO3 := Lib.hid (hO0.out.below hb3 (Nat.le_refl _))
    replace hX3 := Lib.hid hX3
    replace hb3 := Lib.hid (hb2.out.trans (hb3.mono (by omega)))
    clear hO0
    go_wp2_with fail
    refine (to_ints _ zs _ _ hY3.out (by omega) (by omega)).mono ?_
    rintro e w35 ⟨x9, rfl, hZ3, hb35⟩
    obtain ⟨za, zc, rfl, _⟩ := id hZ3
    have z35 := hb35.size
    have c4 := Lib.hid (hi.out _ _ _ _ ((hX3.out.below hb35 (Nat.le_refl _)).row.mono z35) hZ3.row (Nat.le_refl _))
    replace hR3 := Lib.hid (hR3.out.below hb35 (by omega))
    replace hY3 := Lib.hid (hY3.out.below hb35 (by omega))
    replace hO3 := Lib.hid (hO3.out.below hb35 (by omega))
    replace hX3 := Lib.hid (hX3.out.below hb35 (Nat.le_refl _))
    replace hZ3 := Lib.hid hZ3
    replace hb3 := Lib.hid (hb3.out.trans (hb35.mono (by omega)))
    clear hb35
    go_wp2_with fail
    refine c4.out.mono ?_
    rintro e w4 ⟨g0, rfl, hG4, hb4⟩
    obtain ⟨ga, gc, rfl, _⟩ := id hG4
    have z4 := hb4.size
    have hR4 := Lib.hid (hR3.out.below hb4 (by omega))
    have hY4 := Lib.hid (hY3.out.below hb4 (by omega))
    have hO4 := Lib.hid (hO3.out.below hb4 (by omega))
    have hX4 := Lib.hid (hX3.out.below hb4 (by omega))
    have hZ4 := Lib.hid (hZ3.out.below hb4 (Nat.le_refl _))
    replace hG4 := Lib.hid hG4
    replace hb4 := Lib.hid (hb3.out.trans (hb4.mono (by omega)))
    clear c4 hO3 hX3 hZ3 hR1 hR2 hR3 hY1 hY2 hY3
    go_wp2_with fail
    refine (eq_ints _ _ L L w4.heap.size _ (hG4.out.row.mono (Nat.le_refl _)) (hO4.out.row.mono (by omega)) (by omega) (by omega)).mono ?_
    rintro e w' ⟨rfl, n5, rfl⟩
    rw [hsame.out]
    go_wp2_with fail
    refine (to_ints _ xs _ _ (hR4.out.drewN n5) (by omega) (show w.heap.size ≤ w4.heap.size by omega)).mono ?_
    rintro e w6 ⟨t, rfl, hT6, hb6⟩
    obtain ⟨ta, tc, rfl, _⟩ := id hT6
    have z6 : w4.heap.size ≤ w6.heap.size := hb6.size
    have hb6' : Below w4.heap.size w4 w6 := (below_drewN (Below.refl w4.heap.size w4) n5).trans hb6
    have hR6 := Lib.hid (hR4.out.below hb6' (by omega))
    have hO6 := Lib.hid (hO4.out.below hb6' (by omega))
    have hY6 := Lib.hid (hY4.out.below hb6' (by omega))
    have hX6 := Lib.hid (hX4.out.below hb6' (by omega))
    have hZ6 := Lib.hid (hZ4.out.below hb6' (by omega))
    have hG6 := Lib.hid (hG4.out.below hb6' (Nat.le_refl _))
    have hT6' := Lib.hid hT6.row
    replace hb6 := Lib.hid (hb4.out.trans (hb6'.mono (by omega)))
    clear hT6 hb6' hO4 hX4 hZ4 hG4 hR4 hY4
    go_wp2_with fail
    refine (eq_ints _ _ xs xs w6.heap.size _ (hX6.out.row.mono (by omega)) hT6'.out (by omega) (by omega)).mono ?_
    rintro e w' ⟨rfl, n7, rfl⟩
    rw [hsamx.out]
    clear hT6'
    go_wp2_with fail
    refine (to_ints _ zs _ _ (hY6.out.drewN n7) (by omega) (show w.heap.size ≤ w6.heap.size by omega)).mono ?_
    rintro e w7 ⟨t7, rfl, hT7, hb7⟩
    obtain ⟨ta7, tc7, rfl, _⟩ := id hT7
    have z7 : w6.heap.size ≤ w7.heap.size := hb7.size
    have hb7' : Below w6.heap.size w6 w7 := (below_drewN (Below.refl w6.heap.size w6) n7).trans hb7
    have hR7 := Lib.hid (hR6.out.below hb7' (by omega))
    have hY7 := Lib.hid (hY6.out.below hb7' (by omega))
    have hO7 := Lib.hid (hO6.out.below hb7' (by omega))
    have hX7 := Lib.hid (hX6.out.below hb7' (by omega))
    have hZ7 := Lib.hid (hZ6.out.below hb7' (by omega))
    have hG7 := Lib.hid (hG6.out.below hb7' (by omega))
    have hT7' := Lib.hid hT7.row
    replace hb7 := Lib.hid (hb6.out.trans (hb7'.mono (by omega)))
    clear hT7 hb7' hO6 hX6 hZ6 hG6 hR6 hY6
    go_wp2_with fail
    refine (eq_ints _ _ zs zs w7.heap.size _ (hZ7.out.row.mono (by omega)) hT7'.out (by omega) (by omega)).mono ?_
    rintro e w' ⟨rfl, n8, rfl⟩
    rw [hsamz.out]
    go_wp2_with fail
    refine (mark_up _ xs 1 w2.heap.size w3.heap.size _ (hX7.out.drewN n8) (by omega) (by omega) (by omega)).mono ?_
    rintro e w8 ⟨rfl, _, hb8, hk8⟩
    have z8 : w7.heap.size ≤ w8.heap.size := hb8.size
    have hR8 := Lib.hid ((hR7.out.drewN n8).below hb8 (by omega))
    have hY8 := Lib.hid ((hY7.out.drewN n8).below hb8 (by omega))
    have hO8 := Lib.hid ((hO7.out.drewN n8).below hb8 (Nat.le_refl _))
    have hZ8 := Lib.hid ((hZ7.out.drewN n8).up hk8 (Nat.le_refl _))
    have hG8 := Lib.hid ((hG7.out.drewN n8).up hk8 (by omega))
    replace hb8 := Lib.hid ((below_drewN hb7.out n8).trans (hb8.mono (by omega)))
    have hq1 : (0 : Int) ≤ 1 + (xs.length : Nat) := by omega
    clear hk8 hO7 hG7 hX7 hZ7 hR7 hY7 hT7'
    go_wp2_with fail
    refine (mark_up _ zs (1 + (xs.length : Nat)) w3.heap.size w35.heap.size _ hZ8.out (by omega) (by omega) (by omega)).mono ?_
    rintro e w85 ⟨rfl, _, hb85, hk85⟩
    have z85 : w8.heap.size ≤ w85.heap.size := hb85.size
    replace hR8 := Lib.hid (hR8.out.below hb85 (by omega))
    replace hY8 := Lib.hid (hY8.out.below hb85 (by omega))
    replace hO8 := Lib.hid (hO8.out.below hb85 (by omega))
    replace hG8 := Lib.hid (hG8.out.up hk85 (Nat.le_refl _))
    replace hb8 := Lib.hid (hb8.out.trans (hb85.mono (by omega)))
    have hq2 : (0 : Int) ≤ 1 + (xs.length : Nat) + (zs.length : Nat) := by omega
    clear hk85 hZ8
    go_wp2_with fail
    refine (eq_ints _ _ L L w85.heap.size _ (hG8.out.row.mono (by omega)) (hO8.out.row.mono (by omega)) (by omega) (by omega)).mono ?_
    rintro e w' ⟨rfl, n9, rfl⟩
    rw [hsame.out]
    go_wp2_with fail
    refine (mark_ints _ L 1 _ _ _ (hG8.out.drewN n9) (by omega) (by omega) (by omega)).mono ?_
    rintro e w10 ⟨rfl, hG10, hb10⟩
    have z10 : w85.heap.size ≤ w10.heap.size := hb10.size
    have hlen : (marks 1 L.length).length ≤ 1000000 := by rw [marks_len]; exact hLL
    have hR10 := Lib.hid ((hR8.out.drewN n9).below hb10 (by omega))
    have hY10 := Lib.hid ((hY8.out.drewN n9).below hb10 (by omega))
    have hO10 := Lib.hid ((hO8.out.drewN n9).below hb10 (by omega))
    replace hG10 := Lib.hid hG10
    replace hb10 := Lib.hid ((below_drewN hb8.out n9).trans (hb10.mono (by omega)))
    clear hG8 hO8 hR8 hY8
    go_wp2_with fail
    refine (held_ints _ (marks 1 L.length) 1 _ _ (by have := hG10.out.row; exact this) (by omega) (by omega) (by omega)).mono ?_
    rintro e w' ⟨rfl, rfl⟩
    rw [heldV_marks]
    have hq : (0 : Int) ≤ 1 + (L.length : Nat) := by omega
    have hqq : ((1 : Int) + (L.length : Nat) != 1 + (L.length : Nat)) = false := by simp
    go_wp2_with fail
    refine (to_ints _ xs _ _ hR10.out (by omega) (by omega)).mono ?_
    rintro e w11 ⟨x2, rfl, hX11, hb11⟩
    obtain ⟨ya, yc, rfl, _⟩ := id hX11
    have z11 := hb11.size
    have hY11 := Lib.hid (hY10.out.below hb11 (by omega))
    have hO11 := Lib.hid (hO10.out.below hb11 (by omega))
    have hG11 := Lib.hid (hG10.out.below hb11 (by omega))
    have hX11' := Lib.hid hX11.row
    replace hb11 := Lib.hid (hb10.out.trans (hb11.mono (by omega)))
    clear hX11 hO10 hG10 hR10 hY10
    go_wp2_with fail
    refine (to_ints _ zs _ _ hY11.out (by omega) (by omega)).mono ?_
    rintro e w115 ⟨x29, rfl, hZ11, hb115⟩
    obtain ⟨yb, yd, rfl, _⟩ := id hZ11
    have z115 := hb115.size
    have c12 := Lib.hid (hi.out _ _ _ _ ((hX11'.out.below hb115 (Nat.le_refl _)).mono z115) hZ11.row (Nat.le_refl _))
    replace hO11 := Lib.hid (hO11.out.below hb115 (by omega))
    replace hG11 := Lib.hid (hG11.out.below hb115 (by omega))
    replace hb11 := Lib.hid (hb11.out.trans (hb115.mono (by omega)))
    clear hX11' hZ11 hY11 hb115 hi
    go_wp2_with fail
    refine c12.out.mono ?_
    rintro e w12 ⟨h0, rfl, hH12, hb12⟩
    obtain ⟨ha, hc, rfl, _⟩ := id hH12
    have z12 := hb12.size
    have hO12 := Lib.hid (hO11.out.below hb12 (by omega))
    have hG12 := Lib.hid (hG11.out.below hb12 (by omega))
    replace hH12 := Lib.hid hH12
    replace hb12 := Lib.hid (hb11.out.trans (hb12.mono (by omega)))
    clear c12 hO11 hG11
    go_wp2_with fail
    refine (eq_ints _ _ L L w12.heap.size _ (hH12.out.row.mono (Nat.le_refl _)) (hO12.out.row.mono (by omega)) (by omega) (by omega)).mono ?_
    rintro e w' ⟨rfl, n13, rfl⟩
    rw [hsame.out]
    go_wp2_with fail
    refine (held_ints _ (marks 1 L.length) 1 _ _ ((hG12.out.drewN n13).row) (by omega) (by omega) (by omega)).mono ?_
    rintro e w' ⟨rfl, rfl⟩
    rw [heldV_marks]
    go_wp2_with fail
    go_ret
    exact ⟨rfl, below_drewN hb12.out n13⟩

set_option maxHeartbeats 4000000 in
theorem law_FamilyJoins (n : Int) (v v2 : Value) (xs zs : List Int) (w : World) (hx : Row w w.heap.size v xs) (hy : Row w w.heap.size v2 zs) (hl : xs.length ≤ 9223372036854775807) (hm : zs.length ≤ 9223372036854775807) (L : List Int) (b : Bool) (hL : L.length ≤ 1000000)
    (hi : ∀ (W : World) (u u2 : Value) (S : Nat), Row W S u xs → Row W S u2 zs → S ≤ W.heap.size → xs.length ≤ 100000000 → zs.length ≤ 100000000 → Calls Try.prog 42 #[.int .i64 n, u, u2] W (ListPost L b W))
    (hs : ∀ (W : World) (u u2 : Value) (S : Nat), Row W S u xs → Row W S u2 zs → S ≤ W.heap.size → xs.length ≤ 100000000 → zs.length ≤ 100000000 → Calls Try.prog 41 #[.int .i64 n, u, u2] W (ListPost L b W)) :
    Calls Try.prog 14 #[.int .i64 n, v, v2] w fun e w' => e = .returned (.bool true) ∧ Below w.heap.size w w' := by
  have hx' := hx
  obtain ⟨a, cap, rfl, _⟩ := hx'
  have hy' := hy
  obtain ⟨a9, cap9, rfl, _⟩ := hy'
  by_cases hbig : 1048576 < xs.length
  · go_enter Try.func14, Try.ntmps14
    go_wp2_with fail
    go_ret
    exact ⟨rfl, Below.refl _ _⟩
  by_cases hbig2 : 1048576 < zs.length
  · have hnb : xs.length ≤ 1048576 := by omega
    clear hbig
    go_enter Try.func14, Try.ntmps14
    go_wp2_with fail
    go_ret
    exact ⟨rfl, Below.refl _ _⟩
  · have hm2 : zs.length ≤ 1048576 := by omega
    have hm3 : zs.length ≤ 100000000 := by omega
    have hl2 : xs.length ≤ 1048576 := by omega
    have hLL := hL
    have hl3 : xs.length ≤ 100000000 := by omega
    have hR := Lib.hid hx
    have hY := Lib.hid hy
    replace hi := Lib.hid (fun W u u2 S h1 h2 h3 => hi W u u2 S h1 h2 h3 hl3 hm3)
    replace hs := Lib.hid (fun W u u2 S h1 h2 h3 => hs W u u2 S h1 h2 h3 hl3 hm3)
    have hbb : (b != b) = false := by simp
    have hsame := Lib.hid (same_self L)
    have hsamx := Lib.hid (same_self xs)
    have hsamz := Lib.hid (same_self zs)
    clear hx hy hbig hbig2 hL
    go_enter Try.func14, Try.ntmps14
    go_wp2_with fail
    refine (to_ints _ xs _ _ hR.out (by omega) (Nat.le_refl _)).mono ?_
    rintro e w1 ⟨u, rfl, hu, hb1⟩
    obtain ⟨ua, uc, rfl, _⟩ := id hu
    have z1 := hb1.size
    have hR1 := Lib.hid (hR.out.below hb1 (Nat.le_refl _))
    have hY1 := Lib.hid (hY.out.below hb1 (Nat.le_refl _))
    have hu1 := Lib.hid hu.row
    replace hb1 := Lib.hid hb1
    clear hu
    go_wp2_with fail
    refine (to_ints _ zs _ _ hY1.out (by omega) (by omega)).mono ?_
    rintro e w1 ⟨u2, rfl, hu, hb1'⟩
    obtain ⟨ub, ud, rfl, _⟩ := id hu
    have z1' := hb1'.size
    have z0 := z1
    replace z1 := Nat.le_trans z1 z1'
    have c2 := Lib.hid (hs.out _ _ _ _ ((hu1.out.below hb1' (Nat.le_refl _)).mono z1') hu.row (Nat.le_refl _))
    replace hR1 := Lib.hid (hR1.out.below hb1' (by omega))
    replace hY1 := Lib.hid (hY1.out.below hb1' (by omega))
    replace hb1 := Lib.hid (hb1.out.trans (hb1'.mono (by omega)))
    clear hu hs hb1' hu1
    go_wp2_with fail
    refine c2.out.mono ?_
    rintro e w2 ⟨v0, rfl, hO0, hb2⟩
    obtain ⟨a0, c0, rfl, _⟩ := id hO0
    have z2 := hb2.size
    have hR2 := Lib.hid (hR1.out.below hb2 z1)
    have hY2 := Lib.hid (hY1.out.below hb2 z1)
    replace hO0 := Lib.hid hO0
    replace hb2 := Lib.hid (hb1.out.trans (hb2.mono z1))
    clear c2
    go_wp2_with fail
    refine (to_ints _ xs _ _ hR2.out (by omega) (by omega)).mono ?_
    rintro e w3 ⟨x1, rfl, hX3, hb3⟩
    obtain ⟨xa, xc, rfl, _⟩ := id hX3
    have z3 := hb3.size
    have hR3 := Lib.hid (hR2.out.below hb3 (by omega))
    have hY3 := Lib.hid (hY2.out.below hb3 (by omega))
    have hO3 := Lib.hid (hO0.out.below hb3 (Nat.le_refl _))
    replace hX3 := Lib.hid hX3
    replace hb3 := Lib.hid (hb2.out.trans (hb3.mono (by omega)))
    clear hO0
    go_wp2_with fail
    refine (to_ints _ zs _ _ hY3.out (by omega) (by omega)).mono ?_
    rintro e w35 ⟨x9, rfl, hZ3, hb35⟩
    obtain ⟨za, zc, rfl, _⟩ := id hZ3
    have z35 := hb35.size
    have c4 := Lib.hid (hi.out _ _ _ _ ((hX3.out.below hb35 (Nat.le_refl _)).row.mono z35) hZ3.row (Nat.le_refl _))
    replace hR3 := Lib.hid (hR3.out.below hb35 (by omega))
    replace hY3 := Lib.hid (hY3.out.below hb35 (by omega))
    replace hO3 := Lib.hid (hO3.out.below hb35 (by omega))
    replace hX3 := Lib.hid (hX3.out.below hb35 (Nat.le_refl _))
    replace hZ3 := Lib.hid hZ3
    replace hb3 := Lib.hid (hb3.out.trans (hb35.mono (by omega)))
    clear hb35
    go_wp2_with fail
    refine c4.out.mono ?_
    rintro e w4 ⟨g0, rfl, hG4, hb4⟩
    obtain ⟨ga, gc, rfl, _⟩ := id hG4
    have z4 := hb4.size
    have hR4 := Lib.hid (hR3.out.below hb4 (by omega))
    have hY4 := Lib.hid (hY3.out.below hb4 (by omega))
    have hO4 := Lib.hid (hO3.out.below hb4 (by omega))
    have hX4 := Lib.hid (hX3.out.below hb4 (by omega))
    have hZ4 := Lib.hid (hZ3.out.below hb4 (Nat.le_refl _))
    replace hG4 := Lib.hid hG4
    replace hb4 := Lib.hid (hb3.out.trans (hb4.mono (by omega)))
    clear c4 hO3 hX3 hZ3 hR1 hR2 hR3 hY1 hY2 hY3
    go_wp2_with fail
    refine (eq_ints _ _ L L w4.heap.size _ (hG4.out.row.mono (Nat.le_refl _)) (hO4.out.row.mono (by omega)) (by omega) (by omega)).mono ?_
    rintro e w' ⟨rfl, n5, rfl⟩
    rw [hsame.out]
    go_wp2_with fail
    refine (to_ints _ xs _ _ (hR4.out.drewN n5) (by omega) (show w.heap.size ≤ w4.heap.size by omega)).mono ?_
    rintro e w6 ⟨t, rfl, hT6, hb6⟩
    obtain ⟨ta, tc, rfl, _⟩ := id hT6
    have z6 : w4.heap.size ≤ w6.heap.size := hb6.size
    have hb6' : Below w4.heap.size w4 w6 := (below_drewN (Below.refl w4.heap.size w4) n5).trans hb6
    have hR6 := Lib.hid (hR4.out.below hb6' (by omega))
    have hO6 := Lib.hid (hO4.out.below hb6' (by omega))
    have hY6 := Lib.hid (hY4.out.below hb6' (by omega))
    have hX6 := Lib.hid (hX4.out.below hb6' (by omega))
    have hZ6 := Lib.hid (hZ4.out.below hb6' (by omega))
    have hG6 := Lib.hid (hG4.out.below hb6' (Nat.le_refl _))
    have hT6' := Lib.hid hT6.row
    replace hb6 := Lib.hid (hb4.out.trans (hb6'.mono (by omega)))
    clear hT6 hb6' hO4 hX4 hZ4 hG4 hR4 hY4
    go_wp2_with fail
    refine (eq_ints _ _ xs xs w6.heap.size _ (hX6.out.row.mono (by omega)) hT6'.out (by omega) (by omega)).mono ?_
    rintro e w' ⟨rfl, n7, rfl⟩
    rw [hsamx.out]
    clear hT6'
    go_wp2_with fail
    refine (to_ints _ zs _ _ (hY6.out.drewN n7) (by omega) (show w.heap.size ≤ w6.heap.size by omega)).mono ?_
    rintro e w7 ⟨t7, rfl, hT7, hb7⟩
    obtain ⟨ta7, tc7, rfl, _⟩ := id hT7
    have z7 : w6.heap.size ≤ w7.heap.size := hb7.size
    have hb7' : Below w6.heap.size w6 w7 := (below_drewN (Below.refl w6.heap.size w6) n7).trans hb7
    have hR7 := Lib.hid (hR6.out.below hb7' (by omega))
    have hY7 := Lib.hid (hY6.out.below hb7' (by omega))
    have hO7 := Lib.hid (hO6.out.below hb7' (by omega))
    have hX7 := Lib.hid (hX6.out.below hb7' (by omega))
    have hZ7 := Lib.hid (hZ6.out.below hb7' (by omega))
    have hG7 := Lib.hid (hG6.out.below hb7' (by omega))
    have hT7' := Lib.hid hT7.row
    replace hb7 := Lib.hid (hb6.out.trans (hb7'.mono (by omega)))
    clear hT7 hb7' hO6 hX6 hZ6 hG6 hR6 hY6
    go_wp2_with fail
    refine (eq_ints _ _ zs zs w7.heap.size _ (hZ7.out.row.mono (by omega)) hT7'.out (by omega) (by omega)).mono ?_
    rintro e w' ⟨rfl, n8, rfl⟩
    rw [hsamz.out]
    go_wp2_with fail
    refine (mark_up _ xs 1 w2.heap.size w3.heap.size _ (hX7.out.drewN n8) (by omega) (by omega) (by omega)).mono ?_
    rintro e w8 ⟨rfl, _, hb8, hk8⟩
    have z8 : w7.heap.size ≤ w8.heap.size := hb8.size
    have hR8 := Lib.hid ((hR7.out.drewN n8).below hb8 (by omega))
    have hY8 := Lib.hid ((hY7.out.drewN n8).below hb8 (by omega))
    have hO8 := Lib.hid ((hO7.out.drewN n8).below hb8 (Nat.le_refl _))
    have hZ8 := Lib.hid ((hZ7.out.drewN n8).up hk8 (Nat.le_refl _))
    have hG8 := Lib.hid ((hG7.out.drewN n8).up hk8 (by omega))
    replace hb8 := Lib.hid ((below_drewN hb7.out n8).trans (hb8.mono (by omega)))
    have hq1 : (0 : Int) ≤ 1 + (xs.length : Nat) := by omega
    clear hk8 hO7 hG7 hX7 hZ7 hR7 hY7 hT7'
    go_wp2_with fail
    refine (mark_up _ zs (1 + (xs.length : Nat)) w3.heap.size w35.heap.size _ hZ8.out (by omega) (by omega) (by omega)).mono ?_
    rintro e w85 ⟨rfl, _, hb85, hk85⟩
    have z85 : w8.heap.size ≤ w85.heap.size := hb85.size
    replace hR8 := Lib.hid (hR8.out.below hb85 (by omega))
    replace hY8 := Lib.hid (hY8.out.below hb85 (by omega))
    replace hO8 := Lib.hid (hO8.out.below hb85 (by omega))
    replace hG8 := Lib.hid (hG8.out.up hk85 (Nat.le_refl _))
    replace hb8 := Lib.hid (hb8.out.trans (hb85.mono (by omega)))
    have hq2 : (0 : Int) ≤ 1 + (xs.length : Nat) + (zs.length : Nat) := by omega
    clear hk85 hZ8
    go_wp2_with fail
    refine (eq_ints _ _ L L w85.heap.size _ (hG8.out.row.mono (by omega)) (hO8.out.row.mono (by omega)) (by omega) (by omega)).mono ?_
    rintro e w' ⟨rfl, n9, rfl⟩
    rw [hsame.out]
    go_wp2_with fail
    refine (mark_ints _ L 1 _ _ _ (hG8.out.drewN n9) (by omega) (by omega) (by omega)).mono ?_
    rintro e w10 ⟨rfl, hG10, hb10⟩
    have z10 : w85.heap.size ≤ w10.heap.size := hb10.size
    have hlen : (marks 1 L.length).length ≤ 1000000 := by rw [marks_len]; exact hLL
    have hR10 := Lib.hid ((hR8.out.drewN n9).below hb10 (by omega))
    have hY10 := Lib.hid ((hY8.out.drewN n9).below hb10 (by omega))
    have hO10 := Lib.hid ((hO8.out.drewN n9).below hb10 (by omega))
    replace hG10 := Lib.hid hG10
    replace hb10 := Lib.hid ((below_drewN hb8.out n9).trans (hb10.mono (by omega)))
    clear hG8 hO8 hR8 hY8
    go_wp2_with fail
    refine (held_ints _ (marks 1 L.length) 1 _ _ (by have := hG10.out.row; exact this) (by omega) (by omega) (by omega)).mono ?_
    rintro e w' ⟨rfl, rfl⟩
    rw [heldV_marks]
    have hq : (0 : Int) ≤ 1 + (L.length : Nat) := by omega
    have hqq : ((1 : Int) + (L.length : Nat) != 1 + (L.length : Nat)) = false := by simp
    go_wp2_with fail
    refine (to_ints _ xs _ _ hR10.out (by omega) (by omega)).mono ?_
    rintro e w11 ⟨x2, rfl, hX11, hb11⟩
    obtain ⟨ya, yc, rfl, _⟩ := id hX11
    have z11 := hb11.size
    have hY11 := Lib.hid (hY10.out.below hb11 (by omega))
    have hO11 := Lib.hid (hO10.out.below hb11 (by omega))
    have hG11 := Lib.hid (hG10.out.below hb11 (by omega))
    have hX11' := Lib.hid hX11.row
    replace hb11 := Lib.hid (hb10.out.trans (hb11.mono (by omega)))
    clear hX11 hO10 hG10 hR10 hY10
    go_wp2_with fail
    refine (to_ints _ zs _ _ hY11.out (by omega) (by omega)).mono ?_
    rintro e w115 ⟨x29, rfl, hZ11, hb115⟩
    obtain ⟨yb, yd, rfl, _⟩ := id hZ11
    have z115 := hb115.size
    have c12 := Lib.hid (hi.out _ _ _ _ ((hX11'.out.below hb115 (Nat.le_refl _)).mono z115) hZ11.row (Nat.le_refl _))
    replace hO11 := Lib.hid (hO11.out.below hb115 (by omega))
    replace hG11 := Lib.hid (hG11.out.below hb115 (by omega))
    replace hb11 := Lib.hid (hb11.out.trans (hb115.mono (by omega)))
    clear hX11' hZ11 hY11 hb115 hi
    go_wp2_with fail
    refine c12.out.mono ?_
    rintro e w12 ⟨h0, rfl, hH12, hb12⟩
    obtain ⟨ha, hc, rfl, _⟩ := id hH12
    have z12 := hb12.size
    have hO12 := Lib.hid (hO11.out.below hb12 (by omega))
    have hG12 := Lib.hid (hG11.out.below hb12 (by omega))
    replace hH12 := Lib.hid hH12
    replace hb12 := Lib.hid (hb11.out.trans (hb12.mono (by omega)))
    clear c12 hO11 hG11
    go_wp2_with fail
    refine (eq_ints _ _ L L w12.heap.size _ (hH12.out.row.mono (Nat.le_refl _)) (hO12.out.row.mono (by omega)) (by omega) (by omega)).mono ?_
    rintro e w' ⟨rfl, n13, rfl⟩
    rw [hsame.out]
    go_wp2_with fail
    refine (held_ints _ (marks 1 L.length) 1 _ _ ((hG12.out.drewN n13).row) (by omega) (by omega) (by omega)).mono ?_
    rintro e w' ⟨rfl, rfl⟩
    rw [heldV_marks]
    go_wp2_with fail
    go_ret
    exact ⟨rfl, below_drewN hb12.out n13⟩

theorem Law_FamilyMeets (n : Int) (v u : Value) (xs zs : List Int) (w : World) (hx : Row w w.heap.size v xs) (hy : Row w w.heap.size u zs) (hl : xs.length ≤ 9223372036854775807) (hm : zs.length ≤ 9223372036854775807) : Calls Try.prog 13 #[.int .i64 n, v, u] w fun e w' => e = .returned (.bool true) ∧ Below w.heap.size w w' :=
  law_FamilyMeets n v u xs zs w hx hy hl hm _ _ (ifL_len fun hf => by
    rw [Bool.and_eq_true] at hf
    exact sort_len fun z hz => by obtain ⟨x, hx, y, hy, rfl⟩ := pairs_mem hz; exact setB_lt (andI_set ((famB_all hf.1).2.2 x hx) ((famB_all hf.2).2.2 y hy))) (fun W t t2 S h1 h2 h3 h4 h5 => im_FamilyMeets n t t2 xs zs S W h1 h2 h3 h4 h5) (fun W t t2 S h1 h2 h3 h4 h5 => sp_FamilyMeets n t t2 xs zs S W h1 h2 h3 h4 h5)

theorem Law_FamilyJoins (n : Int) (v u : Value) (xs zs : List Int) (w : World) (hx : Row w w.heap.size v xs) (hy : Row w w.heap.size u zs) (hl : xs.length ≤ 9223372036854775807) (hm : zs.length ≤ 9223372036854775807) : Calls Try.prog 14 #[.int .i64 n, v, u] w fun e w' => e = .returned (.bool true) ∧ Below w.heap.size w w' :=
  law_FamilyJoins n v u xs zs w hx hy hl hm _ _ (ifL_len fun hf => by
    rw [Bool.and_eq_true] at hf
    exact sort_len fun z hz => by obtain ⟨x, hx, y, hy, rfl⟩ := pairs_mem hz; exact setB_lt (orI_set ((famB_all hf.1).2.2 x hx) ((famB_all hf.2).2.2 y hy))) (fun W t t2 S h1 h2 h3 h4 h5 => im_FamilyJoins n t t2 xs zs S W h1 h2 h3 h4 h5) (fun W t t2 S h1 h2 h3 h4 h5 => sp_FamilyJoins n t t2 xs zs S W h1 h2 h3 h4 h5)
end Go.Proofs.Ythljimmhgpbmbaa
