/- The exact laws of AntichainTop, AntichainBottom, ClosedDown, ClosedUp, AntichainIn. -/
import Derived.Test.YtffnpignkimkhaaAc2
import Derived.Test.YtffnpignkimkhaaAs2
import Derived.Test.YtffnpignkimkhaaLawBool
import Derived.Test.YtffnpignkimkhaaFLaws2
namespace Go.Proofs.Ytffnpignkimkhaa
open Go.ChangeShapes Go.WideShapes Go.ChangeAt Go.RowKit Go.Proofs
set_option maxHeartbeats 4000000 in
theorem law_AntichainTop (n : Int) (v : Value) (xs : List Int) (w : World) (hx : Row w w.heap.size v xs) (hl : xs.length ≤ 9223372036854775807) (L : List Int) (b : Bool) (hL : xs.length ≤ 1048576 → L.length ≤ 1000000)
    (hi : ∀ (W : World) (u : Value) (S : Nat), Row W S u xs → S ≤ W.heap.size → xs.length ≤ 100000000 → Calls Try.prog 17 #[.int .i64 n, u] W (ListPost L b W))
    (hs : ∀ (W : World) (u : Value) (S : Nat), Row W S u xs → S ≤ W.heap.size → xs.length ≤ 100000000 → Calls Try.prog 16 #[.int .i64 n, u] W (ListPost L b W)) :
    Calls Try.prog 4 #[.int .i64 n, v] w fun e w' => e = .returned (.bool true) ∧ Below w.heap.size w w' := by
  have hx' := hx
  obtain ⟨a, cap, rfl, _⟩ := hx'
  by_cases hbig : 1048576 < xs.length
  · go_enter Try.func4, Try.ntmps4
    go_wp2_with fail
    go_ret
    exact ⟨rfl, Below.refl _ _⟩
  · have hl2 : xs.length ≤ 1048576 := by omega
    have hLL := hL hl2
    have hl3 : xs.length ≤ 100000000 := by omega
    have hR := Lib.hid hx
    replace hi := Lib.hid (fun W u S h1 h2 => hi W u S h1 h2 hl3)
    replace hs := Lib.hid (fun W u S h1 h2 => hs W u S h1 h2 hl3)
    have hbb : (b != b) = false := by simp
    have hsame := Lib.hid (same_self L)
    have hsamx := Lib.hid (same_self xs)
    clear hx hbig hL
    go_enter Try.func4, Try.ntmps4
    go_wp2_with fail
    refine (to_ints _ xs _ _ hR.out (by omega) (Nat.le_refl _)).mono ?_
    rintro e w1 ⟨u, rfl, hu, hb1⟩
    obtain ⟨ua, uc, rfl, _⟩ := id hu
    have z1 := hb1.size
    have c2 := Lib.hid (hs.out _ _ _ hu.row (Nat.le_refl _))
    have hR1 := Lib.hid (hR.out.below hb1 (Nat.le_refl _))
    replace hb1 := Lib.hid hb1
    clear hu hs
    go_wp2_with fail
    refine c2.out.mono ?_
    rintro e w2 ⟨v0, rfl, hO0, hb2⟩
    obtain ⟨a0, c0, rfl, _⟩ := id hO0
    have z2 := hb2.size
    have hR2 := Lib.hid (hR1.out.below hb2 z1)
    replace hO0 := Lib.hid hO0
    replace hb2 := Lib.hid (hb1.out.trans (hb2.mono z1))
    clear c2
    go_wp2_with fail
    refine (to_ints _ xs _ _ hR2.out (by omega) (by omega)).mono ?_
    rintro e w3 ⟨x1, rfl, hX3, hb3⟩
    obtain ⟨xa, xc, rfl, _⟩ := id hX3
    have z3 := hb3.size
    have c4 := Lib.hid (hi.out _ _ _ hX3.row (Nat.le_refl _))
    have hR3 := Lib.hid (hR2.out.below hb3 (by omega))
    have hO3 := Lib.hid (hO0.out.below hb3 (Nat.le_refl _))
    replace hX3 := Lib.hid hX3
    replace hb3 := Lib.hid (hb2.out.trans (hb3.mono (by omega)))
    clear hO0
    go_wp2_with fail
    refine c4.out.mono ?_
    rintro e w4 ⟨g0, rfl, hG4, hb4⟩
    obtain ⟨ga, gc, rfl, _⟩ := id hG4
    have z4 := hb4.size
    have hR4 := Lib.hid (hR3.out.below hb4 (by omega))
    have hO4 := Lib.hid (hO3.out.below hb4 (by omega))
    have hX4 := Lib.hid (hX3.out.below hb4 (Nat.le_refl _))
    replace hG4 := Lib.hid hG4
    replace hb4 := Lib.hid (hb3.out.trans (hb4.mono (by omega)))
    clear c4 hO3 hX3 hR1 hR2 hR3
    go_wp2_with fail
    refine (eq_ints _ _ L L w4.heap.size _ (hG4.out.row.mono (Nat.le_refl _)) (hO4.out.row.mono (by omega)) (by omega) (by omega)).mono ?_
    rintro e w' ⟨rfl, n5, rfl⟩
    rw [hsame.out]
    go_wp2_with fail
    refine (to_ints _ xs _ _ (hR4.out.drewN n5) (by omega) (show w.heap.size ≤ w4.heap.size by omega)).mono ?_
    rintro e w6 ⟨t, rfl, hT6, hb6⟩
    obtain ⟨ta, tc, rfl, _⟩ := id hT6
    have z6 : w4.heap.size ≤ w6.heap.size := hb6.size
    have hb6' : Below w4.heap.size w4 w6 := (below_drewN (Below.refl w4.heap.size w4) n5).trans hb6
    have hR6 := Lib.hid (hR4.out.below hb6' (by omega))
    have hO6 := Lib.hid (hO4.out.below hb6' (by omega))
    have hX6 := Lib.hid (hX4.out.below hb6' (by omega))
    have hG6 := Lib.hid (hG4.out.below hb6' (Nat.le_refl _))
    have hT6' := Lib.hid hT6.row
    replace hb6 := Lib.hid (hb4.out.trans (hb6'.mono (by omega)))
    clear hT6 hb6' hO4 hX4 hG4 hR4
    go_wp2_with fail
    refine (eq_ints _ _ xs xs w6.heap.size _ (hX6.out.row.mono (by omega)) hT6'.out (by omega) (by omega)).mono ?_
    rintro e w' ⟨rfl, n7, rfl⟩
    rw [hsamx.out]
    go_wp2_with fail
    refine (mark_up _ xs 1 w2.heap.size w3.heap.size _ (hX6.out.drewN n7) (by omega) (by omega) (by omega)).mono ?_
    rintro e w8 ⟨rfl, _, hb8, hk8⟩
    have z8 : w6.heap.size ≤ w8.heap.size := hb8.size
    have hR8 := Lib.hid ((hR6.out.drewN n7).below hb8 (by omega))
    have hO8 := Lib.hid ((hO6.out.drewN n7).below hb8 (Nat.le_refl _))
    have hG8 := Lib.hid ((hG6.out.drewN n7).up hk8 (Nat.le_refl _))
    replace hb8 := Lib.hid ((below_drewN hb6.out n7).trans (hb8.mono (by omega)))
    have hq1 : (0 : Int) ≤ 1 + (xs.length : Nat) := by omega
    clear hk8 hO6 hG6 hX6 hR6 hT6'
    go_wp2_with fail
    refine (eq_ints _ _ L L w8.heap.size _ (hG8.out.row.mono (by omega)) (hO8.out.row.mono (by omega)) (by omega) (by omega)).mono ?_
    rintro e w' ⟨rfl, n9, rfl⟩
    rw [hsame.out]
    go_wp2_with fail
    refine (mark_ints _ L 1 _ _ _ (hG8.out.drewN n9) (by omega) (by omega) (by omega)).mono ?_
    rintro e w10 ⟨rfl, hG10, hb10⟩
    have z10 : w8.heap.size ≤ w10.heap.size := hb10.size
    have hlen : (marks 1 L.length).length ≤ 1000000 := by rw [marks_len]; exact hLL
    have hR10 := Lib.hid ((hR8.out.drewN n9).below hb10 (by omega))
    have hO10 := Lib.hid ((hO8.out.drewN n9).below hb10 (by omega))
    replace hG10 := Lib.hid hG10
    replace hb10 := Lib.hid ((below_drewN hb8.out n9).trans (hb10.mono (by omega)))
    clear hG8 hO8 hR8
    go_wp2_with fail
    refine (held_ints _ (marks 1 L.length) 1 _ _ (by have := hG10.out.row; exact this) (by omega) (by omega) (by omega)).mono ?_
    rintro e w' ⟨rfl, rfl⟩
    rw [heldV_marks]
    have hq : (0 : Int) ≤ 1 + (L.length : Nat) := by omega
    have hqq : ((1 : Int) + (L.length : Nat) != 1 + (L.length : Nat)) = false := by simp
    go_wp2_with fail
    refine (to_ints _ xs _ _ hR10.out (by omega) (by omega)).mono ?_
    rintro e w11 ⟨x2, rfl, hX11, hb11⟩
    obtain ⟨ya, yc, rfl, _⟩ := id hX11
    have z11 := hb11.size
    have c12 := Lib.hid (hi.out _ _ _ hX11.row (Nat.le_refl _))
    have hO11 := Lib.hid (hO10.out.below hb11 (by omega))
    have hG11 := Lib.hid (hG10.out.below hb11 (by omega))
    replace hb11 := Lib.hid (hb10.out.trans (hb11.mono (by omega)))
    clear hX11 hO10 hG10 hR10 hi
    go_wp2_with fail
    refine c12.out.mono ?_
    rintro e w12 ⟨h0, rfl, hH12, hb12⟩
    obtain ⟨ha, hc, rfl, _⟩ := id hH12
    have z12 := hb12.size
    have hO12 := Lib.hid (hO11.out.below hb12 (by omega))
    have hG12 := Lib.hid (hG11.out.below hb12 (by omega))
    replace hH12 := Lib.hid hH12
    replace hb12 := Lib.hid (hb11.out.trans (hb12.mono (by omega)))
    clear c12 hO11 hG11
    go_wp2_with fail
    refine (eq_ints _ _ L L w12.heap.size _ (hH12.out.row.mono (Nat.le_refl _)) (hO12.out.row.mono (by omega)) (by omega) (by omega)).mono ?_
    rintro e w' ⟨rfl, n13, rfl⟩
    rw [hsame.out]
    go_wp2_with fail
    refine (held_ints _ (marks 1 L.length) 1 _ _ ((hG12.out.drewN n13).row) (by omega) (by omega) (by omega)).mono ?_
    rintro e w' ⟨rfl, rfl⟩
    rw [heldV_marks]
    go_wp2_with fail
    go_ret
    exact ⟨rfl, below_drewN hb12.out n13⟩

set_option maxHeartbeats 4000000 in
theorem law_AntichainBottom (n : Int) (v : Value) (xs : List Int) (w : World) (hx : Row w w.heap.size v xs) (hl : xs.length ≤ 9223372036854775807) (L : List Int) (b : Bool) (hL : xs.length ≤ 1048576 → L.length ≤ 1000000)
    (hi : ∀ (W : World) (u : Value) (S : Nat), Row W S u xs → S ≤ W.heap.size → xs.length ≤ 100000000 → Calls Try.prog 21 #[.int .i64 n, u] W (ListPost L b W))
    (hs : ∀ (W : World) (u : Value) (S : Nat), Row W S u xs → S ≤ W.heap.size → xs.length ≤ 100000000 → Calls Try.prog 20 #[.int .i64 n, u] W (ListPost L b W)) :
    Calls Try.prog 5 #[.int .i64 n, v] w fun e w' => e = .returned (.bool true) ∧ Below w.heap.size w w' := by
  have hx' := hx
  obtain ⟨a, cap, rfl, _⟩ := hx'
  by_cases hbig : 1048576 < xs.length
  · go_enter Try.func5, Try.ntmps5
    go_wp2_with fail
    go_ret
    exact ⟨rfl, Below.refl _ _⟩
  · have hl2 : xs.length ≤ 1048576 := by omega
    have hLL := hL hl2
    have hl3 : xs.length ≤ 100000000 := by omega
    have hR := Lib.hid hx
    replace hi := Lib.hid (fun W u S h1 h2 => hi W u S h1 h2 hl3)
    replace hs := Lib.hid (fun W u S h1 h2 => hs W u S h1 h2 hl3)
    have hbb : (b != b) = false := by simp
    have hsame := Lib.hid (same_self L)
    have hsamx := Lib.hid (same_self xs)
    clear hx hbig hL
    go_enter Try.func5, Try.ntmps5
    go_wp2_with fail
    refine (to_ints _ xs _ _ hR.out (by omega) (Nat.le_refl _)).mono ?_
    rintro e w1 ⟨u, rfl, hu, hb1⟩
    obtain ⟨ua, uc, rfl, _⟩ := id hu
    have z1 := hb1.size
    have c2 := Lib.hid (hs.out _ _ _ hu.row (Nat.le_refl _))
    have hR1 := Lib.hid (hR.out.below hb1 (Nat.le_refl _))
    replace hb1 := Lib.hid hb1
    clear hu hs
    go_wp2_with fail
    refine c2.out.mono ?_
    rintro e w2 ⟨v0, rfl, hO0, hb2⟩
    obtain ⟨a0, c0, rfl, _⟩ := id hO0
    have z2 := hb2.size
    have hR2 := Lib.hid (hR1.out.below hb2 z1)
    replace hO0 := Lib.hid hO0
    replace hb2 := Lib.hid (hb1.out.trans (hb2.mono z1))
    clear c2
    go_wp2_with fail
    refine (to_ints _ xs _ _ hR2.out (by omega) (by omega)).mono ?_
    rintro e w3 ⟨x1, rfl, hX3, hb3⟩
    obtain ⟨xa, xc, rfl, _⟩ := id hX3
    have z3 := hb3.size
    have c4 := Lib.hid (hi.out _ _ _ hX3.row (Nat.le_refl _))
    have hR3 := Lib.hid (hR2.out.below hb3 (by omega))
    have hO3 := Lib.hid (hO0.out.below hb3 (Nat.le_refl _))
    replace hX3 := Lib.hid hX3
    replace hb3 := Lib.hid (hb2.out.trans (hb3.mono (by omega)))
    clear hO0
    go_wp2_with fail
    refine c4.out.mono ?_
    rintro e w4 ⟨g0, rfl, hG4, hb4⟩
    obtain ⟨ga, gc, rfl, _⟩ := id hG4
    have z4 := hb4.size
    have hR4 := Lib.hid (hR3.out.below hb4 (by omega))
    have hO4 := Lib.hid (hO3.out.below hb4 (by omega))
    have hX4 := Lib.hid (hX3.out.below hb4 (Nat.le_refl _))
    replace hG4 := Lib.hid hG4
    replace hb4 := Lib.hid (hb3.out.trans (hb4.mono (by omega)))
    clear c4 hO3 hX3 hR1 hR2 hR3
    go_wp2_with fail
    refine (eq_ints _ _ L L w4.heap.size _ (hG4.out.row.mono (Nat.le_refl _)) (hO4.out.row.mono (by omega)) (by omega) (by omega)).mono ?_
    rintro e w' ⟨rfl, n5, rfl⟩
    rw [hsame.out]
    go_wp2_with fail
    refine (to_ints _ xs _ _ (hR4.out.drewN n5) (by omega) (show w.heap.size ≤ w4.heap.size by omega)).mono ?_
    rintro e w6 ⟨t, rfl, hT6, hb6⟩
    obtain ⟨ta, tc, rfl, _⟩ := id hT6
    have z6 : w4.heap.size ≤ w6.heap.size := hb6.size
    have hb6' : Below w4.heap.size w4 w6 := (below_drewN (Below.refl w4.heap.size w4) n5).trans hb6
    have hR6 := Lib.hid (hR4.out.below hb6' (by omega))
    have hO6 := Lib.hid (hO4.out.below hb6' (by omega))
    have hX6 := Lib.hid (hX4.out.below hb6' (by omega))
    have hG6 := Lib.hid (hG4.out.below hb6' (Nat.le_refl _))
    have hT6' := Lib.hid hT6.row
    replace hb6 := Lib.hid (hb4.out.trans (hb6'.mono (by omega)))
    clear hT6 hb6' hO4 hX4 hG4 hR4
    go_wp2_with fail
    refine (eq_ints _ _ xs xs w6.heap.size _ (hX6.out.row.mono (by omega)) hT6'.out (by omega) (by omega)).mono ?_
    rintro e w' ⟨rfl, n7, rfl⟩
    rw [hsamx.out]
    go_wp2_with fail
    refine (mark_up _ xs 1 w2.heap.size w3.heap.size _ (hX6.out.drewN n7) (by omega) (by omega) (by omega)).mono ?_
    rintro e w8 ⟨rfl, _, hb8, hk8⟩
    have z8 : w6.heap.size ≤ w8.heap.size := hb8.size
    have hR8 := Lib.hid ((hR6.out.drewN n7).below hb8 (by omega))
    have hO8 := Lib.hid ((hO6.out.drewN n7).below hb8 (Nat.le_refl _))
    have hG8 := Lib.hid ((hG6.out.drewN n7).up hk8 (Nat.le_refl _))
    replace hb8 := Lib.hid ((below_drewN hb6.out n7).trans (hb8.mono (by omega)))
    have hq1 : (0 : Int) ≤ 1 + (xs.length : Nat) := by omega
    clear hk8 hO6 hG6 hX6 hR6 hT6'
    go_wp2_with fail
    refine (eq_ints _ _ L L w8.heap.size _ (hG8.out.row.mono (by omega)) (hO8.out.row.mono (by omega)) (by omega) (by omega)).mono ?_
    rintro e w' ⟨rfl, n9, rfl⟩
    rw [hsame.out]
    go_wp2_with fail
    refine (mark_ints _ L 1 _ _ _ (hG8.out.drewN n9) (by omega) (by omega) (by omega)).mono ?_
    rintro e w10 ⟨rfl, hG10, hb10⟩
    have z10 : w8.heap.size ≤ w10.heap.size := hb10.size
    have hlen : (marks 1 L.length).length ≤ 1000000 := by rw [marks_len]; exact hLL
    have hR10 := Lib.hid ((hR8.out.drewN n9).below hb10 (by omega))
    have hO10 := Lib.hid ((hO8.out.drewN n9).below hb10 (by omega))
    replace hG10 := Lib.hid hG10
    replace hb10 := Lib.hid ((below_drewN hb8.out n9).trans (hb10.mono (by omega)))
    clear hG8 hO8 hR8
    go_wp2_with fail
    refine (held_ints _ (marks 1 L.length) 1 _ _ (by have := hG10.out.row; exact this) (by omega) (by omega) (by omega)).mono ?_
    rintro e w' ⟨rfl, rfl⟩
    rw [heldV_marks]
    have hq : (0 : Int) ≤ 1 + (L.length : Nat) := by omega
    have hqq : ((1 : Int) + (L.length : Nat) != 1 + (L.length : Nat)) = false := by simp
    go_wp2_with fail
    refine (to_ints _ xs _ _ hR10.out (by omega) (by omega)).mono ?_
    rintro e w11 ⟨x2, rfl, hX11, hb11⟩
    obtain ⟨ya, yc, rfl, _⟩ := id hX11
    have z11 := hb11.size
    have c12 := Lib.hid (hi.out _ _ _ hX11.row (Nat.le_refl _))
    have hO11 := Lib.hid (hO10.out.below hb11 (by omega))
    have hG11 := Lib.hid (hG10.out.below hb11 (by omega))
    replace hb11 := Lib.hid (hb10.out.trans (hb11.mono (by omega)))
    clear hX11 hO10 hG10 hR10 hi
    go_wp2_with fail
    refine c12.out.mono ?_
    rintro e w12 ⟨h0, rfl, hH12, hb12⟩
    obtain ⟨ha, hc, rfl, _⟩ := id hH12
    have z12 := hb12.size
    have hO12 := Lib.hid (hO11.out.below hb12 (by omega))
    have hG12 := Lib.hid (hG11.out.below hb12 (by omega))
    replace hH12 := Lib.hid hH12
    replace hb12 := Lib.hid (hb11.out.trans (hb12.mono (by omega)))
    clear c12 hO11 hG11
    go_wp2_with fail
    refine (eq_ints _ _ L L w12.heap.size _ (hH12.out.row.mono (Nat.le_refl _)) (hO12.out.row.mono (by omega)) (by omega) (by omega)).mono ?_
    rintro e w' ⟨rfl, n13, rfl⟩
    rw [hsame.out]
    go_wp2_with fail
    refine (held_ints _ (marks 1 L.length) 1 _ _ ((hG12.out.drewN n13).row) (by omega) (by omega) (by omega)).mono ?_
    rintro e w' ⟨rfl, rfl⟩
    rw [heldV_marks]
    go_wp2_with fail
    go_ret
    exact ⟨rfl, below_drewN hb12.out n13⟩

set_option maxHeartbeats 4000000 in
theorem law_ClosedDown (n : Int) (v : Value) (xs : List Int) (w : World) (hx : Row w w.heap.size v xs) (hl : xs.length ≤ 9223372036854775807) (L : List Int) (b : Bool) (hL : xs.length ≤ 1048576 → L.length ≤ 1000000)
    (hi : ∀ (W : World) (u : Value) (S : Nat), Row W S u xs → S ≤ W.heap.size → xs.length ≤ 100000000 → Calls Try.prog 23 #[.int .i64 n, u] W (ListPost L b W))
    (hs : ∀ (W : World) (u : Value) (S : Nat), Row W S u xs → S ≤ W.heap.size → xs.length ≤ 100000000 → Calls Try.prog 22 #[.int .i64 n, u] W (ListPost L b W)) :
    Calls Try.prog 6 #[.int .i64 n, v] w fun e w' => e = .returned (.bool true) ∧ Below w.heap.size w w' := by
  have hx' := hx
  obtain ⟨a, cap, rfl, _⟩ := hx'
  by_cases hbig : 1048576 < xs.length
  · go_enter Try.func6, Try.ntmps6
    go_wp2_with fail
    go_ret
    exact ⟨rfl, Below.refl _ _⟩
  · have hl2 : xs.length ≤ 1048576 := by omega
    have hLL := hL hl2
    have hl3 : xs.length ≤ 100000000 := by omega
    have hR := Lib.hid hx
    replace hi := Lib.hid (fun W u S h1 h2 => hi W u S h1 h2 hl3)
    replace hs := Lib.hid (fun W u S h1 h2 => hs W u S h1 h2 hl3)
    have hbb : (b != b) = false := by simp
    have hsame := Lib.hid (same_self L)
    have hsamx := Lib.hid (same_self xs)
    clear hx hbig hL
    go_enter Try.func6, Try.ntmps6
    go_wp2_with fail
    refine (to_ints _ xs _ _ hR.out (by omega) (Nat.le_refl _)).mono ?_
    rintro e w1 ⟨u, rfl, hu, hb1⟩
    obtain ⟨ua, uc, rfl, _⟩ := id hu
    have z1 := hb1.size
    have c2 := Lib.hid (hs.out _ _ _ hu.row (Nat.le_refl _))
    have hR1 := Lib.hid (hR.out.below hb1 (Nat.le_refl _))
    replace hb1 := Lib.hid hb1
    clear hu hs
    go_wp2_with fail
    refine c2.out.mono ?_
    rintro e w2 ⟨v0, rfl, hO0, hb2⟩
    obtain ⟨a0, c0, rfl, _⟩ := id hO0
    have z2 := hb2.size
    have hR2 := Lib.hid (hR1.out.below hb2 z1)
    replace hO0 := Lib.hid hO0
    replace hb2 := Lib.hid (hb1.out.trans (hb2.mono z1))
    clear c2
    go_wp2_with fail
    refine (to_ints _ xs _ _ hR2.out (by omega) (by omega)).mono ?_
    rintro e w3 ⟨x1, rfl, hX3, hb3⟩
    obtain ⟨xa, xc, rfl, _⟩ := id hX3
    have z3 := hb3.size
    have c4 := Lib.hid (hi.out _ _ _ hX3.row (Nat.le_refl _))
    have hR3 := Lib.hid (hR2.out.below hb3 (by omega))
    have hO3 := Lib.hid (hO0.out.below hb3 (Nat.le_refl _))
    replace hX3 := Lib.hid hX3
    replace hb3 := Lib.hid (hb2.out.trans (hb3.mono (by omega)))
    clear hO0
    go_wp2_with fail
    refine c4.out.mono ?_
    rintro e w4 ⟨g0, rfl, hG4, hb4⟩
    obtain ⟨ga, gc, rfl, _⟩ := id hG4
    have z4 := hb4.size
    have hR4 := Lib.hid (hR3.out.below hb4 (by omega))
    have hO4 := Lib.hid (hO3.out.below hb4 (by omega))
    have hX4 := Lib.hid (hX3.out.below hb4 (Nat.le_refl _))
    replace hG4 := Lib.hid hG4
    replace hb4 := Lib.hid (hb3.out.trans (hb4.mono (by omega)))
    clear c4 hO3 hX3 hR1 hR2 hR3
    go_wp2_with fail
    refine (eq_ints _ _ L L w4.heap.size _ (hG4.out.row.mono (Nat.le_refl _)) (hO4.out.row.mono (by omega)) (by omega) (by omega)).mono ?_
    rintro e w' ⟨rfl, n5, rfl⟩
    rw [hsame.out]
    go_wp2_with fail
    refine (to_ints _ xs _ _ (hR4.out.drewN n5) (by omega) (show w.heap.size ≤ w4.heap.size by omega)).mono ?_
    rintro e w6 ⟨t, rfl, hT6, hb6⟩
    obtain ⟨ta, tc, rfl, _⟩ := id hT6
    have z6 : w4.heap.size ≤ w6.heap.size := hb6.size
    have hb6' : Below w4.heap.size w4 w6 := (below_drewN (Below.refl w4.heap.size w4) n5).trans hb6
    have hR6 := Lib.hid (hR4.out.below hb6' (by omega))
    have hO6 := Lib.hid (hO4.out.below hb6' (by omega))
    have hX6 := Lib.hid (hX4.out.below hb6' (by omega))
    have hG6 := Lib.hid (hG4.out.below hb6' (Nat.le_refl _))
    have hT6' := Lib.hid hT6.row
    replace hb6 := Lib.hid (hb4.out.trans (hb6'.mono (by omega)))
    clear hT6 hb6' hO4 hX4 hG4 hR4
    go_wp2_with fail
    refine (eq_ints _ _ xs xs w6.heap.size _ (hX6.out.row.mono (by omega)) hT6'.out (by omega) (by omega)).mono ?_
    rintro e w' ⟨rfl, n7, rfl⟩
    rw [hsamx.out]
    go_wp2_with fail
    refine (mark_up _ xs 1 w2.heap.size w3.heap.size _ (hX6.out.drewN n7) (by omega) (by omega) (by omega)).mono ?_
    rintro e w8 ⟨rfl, _, hb8, hk8⟩
    have z8 : w6.heap.size ≤ w8.heap.size := hb8.size
    have hR8 := Lib.hid ((hR6.out.drewN n7).below hb8 (by omega))
    have hO8 := Lib.hid ((hO6.out.drewN n7).below hb8 (Nat.le_refl _))
    have hG8 := Lib.hid ((hG6.out.drewN n7).up hk8 (Nat.le_refl _))
    replace hb8 := Lib.hid ((below_drewN hb6.out n7).trans (hb8.mono (by omega)))
    have hq1 : (0 : Int) ≤ 1 + (xs.length : Nat) := by omega
    clear hk8 hO6 hG6 hX6 hR6 hT6'
    go_wp2_with fail
    refine (eq_ints _ _ L L w8.heap.size _ (hG8.out.row.mono (by omega)) (hO8.out.row.mono (by omega)) (by omega) (by omega)).mono ?_
    rintro e w' ⟨rfl, n9, rfl⟩
    rw [hsame.out]
    go_wp2_with fail
    refine (mark_ints _ L 1 _ _ _ (hG8.out.drewN n9) (by omega) (by omega) (by omega)).mono ?_
    rintro e w10 ⟨rfl, hG10, hb10⟩
    have z10 : w8.heap.size ≤ w10.heap.size := hb10.size
    have hlen : (marks 1 L.length).length ≤ 1000000 := by rw [marks_len]; exact hLL
    have hR10 := Lib.hid ((hR8.out.drewN n9).below hb10 (by omega))
    have hO10 := Lib.hid ((hO8.out.drewN n9).below hb10 (by omega))
    replace hG10 := Lib.hid hG10
    replace hb10 := Lib.hid ((below_drewN hb8.out n9).trans (hb10.mono (by omega)))
    clear hG8 hO8 hR8
    go_wp2_with fail
    refine (held_ints _ (marks 1 L.length) 1 _ _ (by have := hG10.out.row; exact this) (by omega) (by omega) (by omega)).mono ?_
    rintro e w' ⟨rfl, rfl⟩
    rw [heldV_marks]
    have hq : (0 : Int) ≤ 1 + (L.length : Nat) := by omega
    have hqq : ((1 : Int) + (L.length : Nat) != 1 + (L.length : Nat)) = false := by simp
    go_wp2_with fail
    refine (to_ints _ xs _ _ hR10.out (by omega) (by omega)).mono ?_
    rintro e w11 ⟨x2, rfl, hX11, hb11⟩
    obtain ⟨ya, yc, rfl, _⟩ := id hX11
    have z11 := hb11.size
    have c12 := Lib.hid (hi.out _ _ _ hX11.row (Nat.le_refl _))
    have hO11 := Lib.hid (hO10.out.below hb11 (by omega))
    have hG11 := Lib.hid (hG10.out.below hb11 (by omega))
    replace hb11 := Lib.hid (hb10.out.trans (hb11.mono (by omega)))
    clear hX11 hO10 hG10 hR10 hi
    go_wp2_with fail
    refine c12.out.mono ?_
    rintro e w12 ⟨h0, rfl, hH12, hb12⟩
    obtain ⟨ha, hc, rfl, _⟩ := id hH12
    have z12 := hb12.size
    have hO12 := Lib.hid (hO11.out.below hb12 (by omega))
    have hG12 := Lib.hid (hG11.out.below hb12 (by omega))
    replace hH12 := Lib.hid hH12
    replace hb12 := Lib.hid (hb11.out.trans (hb12.mono (by omega)))
    clear c12 hO11 hG11
    go_wp2_with fail
    refine (eq_ints _ _ L L w12.heap.size _ (hH12.out.row.mono (Nat.le_refl _)) (hO12.out.row.mono (by omega)) (by omega) (by omega)).mono ?_
    rintro e w' ⟨rfl, n13, rfl⟩
    rw [hsame.out]
    go_wp2_with fail
    refine (held_ints _ (marks 1 L.length) 1 _ _ ((hG12.out.drewN n13).row) (by omega) (by omega) (by omega)).mono ?_
    rintro e w' ⟨rfl, rfl⟩
    rw [heldV_marks]
    go_wp2_with fail
    go_ret
    exact ⟨rfl, below_drewN hb12.out n13⟩

set_option maxHeartbeats 4000000 in
theorem law_ClosedUp (n : Int) (v : Value) (xs : List Int) (w : World) (hx : Row w w.heap.size v xs) (hl : xs.length ≤ 9223372036854775807) (L : List Int) (b : Bool) (hL : xs.length ≤ 1048576 → L.length ≤ 1000000)
    (hi : ∀ (W : World) (u : Value) (S : Nat), Row W S u xs → S ≤ W.heap.size → xs.length ≤ 100000000 → Calls Try.prog 25 #[.int .i64 n, u] W (ListPost L b W))
    (hs : ∀ (W : World) (u : Value) (S : Nat), Row W S u xs → S ≤ W.heap.size → xs.length ≤ 100000000 → Calls Try.prog 24 #[.int .i64 n, u] W (ListPost L b W)) :
    Calls Try.prog 7 #[.int .i64 n, v] w fun e w' => e = .returned (.bool true) ∧ Below w.heap.size w w' := by
  have hx' := hx
  obtain ⟨a, cap, rfl, _⟩ := hx'
  by_cases hbig : 1048576 < xs.length
  · go_enter Try.func7, Try.ntmps7
    go_wp2_with fail
    go_ret
    exact ⟨rfl, Below.refl _ _⟩
  · have hl2 : xs.length ≤ 1048576 := by omega
    have hLL := hL hl2
    have hl3 : xs.length ≤ 100000000 := by omega
    have hR := Lib.hid hx
    replace hi := Lib.hid (fun W u S h1 h2 => hi W u S h1 h2 hl3)
    replace hs := Lib.hid (fun W u S h1 h2 => hs W u S h1 h2 hl3)
    have hbb : (b != b) = false := by simp
    have hsame := Lib.hid (same_self L)
    have hsamx := Lib.hid (same_self xs)
    clear hx hbig hL
    go_enter Try.func7, Try.ntmps7
    go_wp2_with fail
    refine (to_ints _ xs _ _ hR.out (by omega) (Nat.le_refl _)).mono ?_
    rintro e w1 ⟨u, rfl, hu, hb1⟩
    obtain ⟨ua, uc, rfl, _⟩ := id hu
    have z1 := hb1.size
    have c2 := Lib.hid (hs.out _ _ _ hu.row (Nat.le_refl _))
    have hR1 := Lib.hid (hR.out.below hb1 (Nat.le_refl _))
    replace hb1 := Lib.hid hb1
    clear hu hs
    go_wp2_with fail
    refine c2.out.mono ?_
    rintro e w2 ⟨v0, rfl, hO0, hb2⟩
    obtain ⟨a0, c0, rfl, _⟩ := id hO0
    have z2 := hb2.size
    have hR2 := Lib.hid (hR1.out.below hb2 z1)
    replace hO0 := Lib.hid hO0
    replace hb2 := Lib.hid (hb1.out.trans (hb2.mono z1))
    clear c2
    go_wp2_with fail
    refine (to_ints _ xs _ _ hR2.out (by omega) (by omega)).mono ?_
    rintro e w3 ⟨x1, rfl, hX3, hb3⟩
    obtain ⟨xa, xc, rfl, _⟩ := id hX3
    have z3 := hb3.size
    have c4 := Lib.hid (hi.out _ _ _ hX3.row (Nat.le_refl _))
    have hR3 := Lib.hid (hR2.out.below hb3 (by omega))
    have hO3 := Lib.hid (hO0.out.below hb3 (Nat.le_refl _))
    replace hX3 := Lib.hid hX3
    replace hb3 := Lib.hid (hb2.out.trans (hb3.mono (by omega)))
    clear hO0
    go_wp2_with fail
    refine c4.out.mono ?_
    rintro e w4 ⟨g0, rfl, hG4, hb4⟩
    obtain ⟨ga, gc, rfl, _⟩ := id hG4
    have z4 := hb4.size
    have hR4 := Lib.hid (hR3.out.below hb4 (by omega))
    have hO4 := Lib.hid (hO3.out.below hb4 (by omega))
    have hX4 := Lib.hid (hX3.out.below hb4 (Nat.le_refl _))
    replace hG4 := Lib.hid hG4
    replace hb4 := Lib.hid (hb3.out.trans (hb4.mono (by omega)))
    clear c4 hO3 hX3 hR1 hR2 hR3
    go_wp2_with fail
    refine (eq_ints _ _ L L w4.heap.size _ (hG4.out.row.mono (Nat.le_refl _)) (hO4.out.row.mono (by omega)) (by omega) (by omega)).mono ?_
    rintro e w' ⟨rfl, n5, rfl⟩
    rw [hsame.out]
    go_wp2_with fail
    refine (to_ints _ xs _ _ (hR4.out.drewN n5) (by omega) (show w.heap.size ≤ w4.heap.size by omega)).mono ?_
    rintro e w6 ⟨t, rfl, hT6, hb6⟩
    obtain ⟨ta, tc, rfl, _⟩ := id hT6
    have z6 : w4.heap.size ≤ w6.heap.size := hb6.size
    have hb6' : Below w4.heap.size w4 w6 := (below_drewN (Below.refl w4.heap.size w4) n5).trans hb6
    have hR6 := Lib.hid (hR4.out.below hb6' (by omega))
    have hO6 := Lib.hid (hO4.out.below hb6' (by omega))
    have hX6 := Lib.hid (hX4.out.below hb6' (by omega))
    have hG6 := Lib.hid (hG4.out.below hb6' (Nat.le_refl _))
    have hT6' := Lib.hid hT6.row
    replace hb6 := Lib.hid (hb4.out.trans (hb6'.mono (by omega)))
    clear hT6 hb6' hO4 hX4 hG4 hR4
    go_wp2_with fail
    refine (eq_ints _ _ xs xs w6.heap.size _ (hX6.out.row.mono (by omega)) hT6'.out (by omega) (by omega)).mono ?_
    rintro e w' ⟨rfl, n7, rfl⟩
    rw [hsamx.out]
    go_wp2_with fail
    refine (mark_up _ xs 1 w2.heap.size w3.heap.size _ (hX6.out.drewN n7) (by omega) (by omega) (by omega)).mono ?_
    rintro e w8 ⟨rfl, _, hb8, hk8⟩
    have z8 : w6.heap.size ≤ w8.heap.size := hb8.size
    have hR8 := Lib.hid ((hR6.out.drewN n7).below hb8 (by omega))
    have hO8 := Lib.hid ((hO6.out.drewN n7).below hb8 (Nat.le_refl _))
    have hG8 := Lib.hid ((hG6.out.drewN n7).up hk8 (Nat.le_refl _))
    replace hb8 := Lib.hid ((below_drewN hb6.out n7).trans (hb8.mono (by omega)))
    have hq1 : (0 : Int) ≤ 1 + (xs.length : Nat) := by omega
    clear hk8 hO6 hG6 hX6 hR6 hT6'
    go_wp2_with fail
    refine (eq_ints _ _ L L w8.heap.size _ (hG8.out.row.mono (by omega)) (hO8.out.row.mono (by omega)) (by omega) (by omega)).mono ?_
    rintro e w' ⟨rfl, n9, rfl⟩
    rw [hsame.out]
    go_wp2_with fail
    refine (mark_ints _ L 1 _ _ _ (hG8.out.drewN n9) (by omega) (by omega) (by omega)).mono ?_
    rintro e w10 ⟨rfl, hG10, hb10⟩
    have z10 : w8.heap.size ≤ w10.heap.size := hb10.size
    have hlen : (marks 1 L.length).length ≤ 1000000 := by rw [marks_len]; exact hLL
    have hR10 := Lib.hid ((hR8.out.drewN n9).below hb10 (by omega))
    have hO10 := Lib.hid ((hO8.out.drewN n9).below hb10 (by omega))
    replace hG10 := Lib.hid hG10
    replace hb10 := Lib.hid ((below_drewN hb8.out n9).trans (hb10.mono (by omega)))
    clear hG8 hO8 hR8
    go_wp2_with fail
    refine (held_ints _ (marks 1 L.length) 1 _ _ (by have := hG10.out.row; exact this) (by omega) (by omega) (by omega)).mono ?_
    rintro e w' ⟨rfl, rfl⟩
    rw [heldV_marks]
    have hq : (0 : Int) ≤ 1 + (L.length : Nat) := by omega
    have hqq : ((1 : Int) + (L.length : Nat) != 1 + (L.length : Nat)) = false := by simp
    go_wp2_with fail
    refine (to_ints _ xs _ _ hR10.out (by omega) (by omega)).mono ?_
    rintro e w11 ⟨x2, rfl, hX11, hb11⟩
    obtain ⟨ya, yc, rfl, _⟩ := id hX11
    have z11 := hb11.size
    have c12 := Lib.hid (hi.out _ _ _ hX11.row (Nat.le_refl _))
    have hO11 := Lib.hid (hO10.out.below hb11 (by omega))
    have hG11 := Lib.hid (hG10.out.below hb11 (by omega))
    replace hb11 := Lib.hid (hb10.out.trans (hb11.mono (by omega)))
    clear hX11 hO10 hG10 hR10 hi
    go_wp2_with fail
    refine c12.out.mono ?_
    rintro e w12 ⟨h0, rfl, hH12, hb12⟩
    obtain ⟨ha, hc, rfl, _⟩ := id hH12
    have z12 := hb12.size
    have hO12 := Lib.hid (hO11.out.below hb12 (by omega))
    have hG12 := Lib.hid (hG11.out.below hb12 (by omega))
    replace hH12 := Lib.hid hH12
    replace hb12 := Lib.hid (hb11.out.trans (hb12.mono (by omega)))
    clear c12 hO11 hG11
    go_wp2_with fail
    refine (eq_ints _ _ L L w12.heap.size _ (hH12.out.row.mono (Nat.le_refl _)) (hO12.out.row.mono (by omega)) (by omega) (by omega)).mono ?_
    rintro e w' ⟨rfl, n13, rfl⟩
    rw [hsame.out]
    go_wp2_with fail
    refine (held_ints _ (marks 1 L.length) 1 _ _ ((hG12.out.drewN n13).row) (by omega) (by omega) (by omega)).mono ?_
    rintro e w' ⟨rfl, rfl⟩
    rw [heldV_marks]
    go_wp2_with fail
    go_ret
    exact ⟨rfl, below_drewN hb12.out n13⟩

set_option maxHeartbeats 4000000 in
theorem law_AntichainIn (n : Int) (v : Value) (xs : List Int) (w : World) (hx : Row w w.heap.size v xs) (hl : xs.length ≤ 9223372036854775807) (b : Bool)
    (hi : ∀ (W : World) (u : Value) (S : Nat), Row W S u xs → S ≤ W.heap.size → xs.length ≤ 100000000 → Calls Try.prog 14 #[.int .i64 n, u] W fun e w' => e = .returned (.bool b) ∧ Below W.heap.size W w')
    (hs : ∀ (W : World) (u : Value) (S : Nat), Row W S u xs → S ≤ W.heap.size → xs.length ≤ 100000000 → Calls Try.prog 12 #[.int .i64 n, u] W fun e w' => e = .returned (.bool b) ∧ Below W.heap.size W w') :
    Calls Try.prog 3 #[.int .i64 n, v] w fun e w' => e = .returned (.bool true) ∧ Below w.heap.size w w' := by
  have hx' := hx
  obtain ⟨a, cap, rfl, _⟩ := hx'
  by_cases hbig : 1048576 < xs.length
  · go_enter Try.func3, Try.ntmps3
    go_wp2_with fail
    go_ret
    exact ⟨rfl, Below.refl _ _⟩
  · have hl2 : xs.length ≤ 1048576 := by omega
    have hl3 : xs.length ≤ 100000000 := by omega
    have hR := Lib.hid hx
    replace hi := Lib.hid (fun W u S h1 h2 => hi W u S h1 h2 hl3)
    replace hs := Lib.hid (fun W u S h1 h2 => hs W u S h1 h2 hl3)
    have hbb : (b != b) = false := by simp
    have hsamx := Lib.hid (same_self xs)
    clear hx hbig
    go_enter Try.func3, Try.ntmps3
    go_wp2_with fail
    refine (to_ints _ xs _ _ hR.out (by omega) (Nat.le_refl _)).mono ?_
    rintro e w1 ⟨u, rfl, hu, hb1⟩
    obtain ⟨ua, uc, rfl, _⟩ := id hu
    have z1 := hb1.size
    have c2 := Lib.hid (hs.out _ _ _ hu.row (Nat.le_refl _))
    have hR1 := Lib.hid (hR.out.below hb1 (Nat.le_refl _))
    replace hb1 := Lib.hid hb1
    clear hu hs
    go_wp2_with fail
    refine c2.out.mono ?_
    rintro e w2 ⟨rfl, hb2⟩
    have z2 := hb2.size
    have hR2 := Lib.hid (hR1.out.below hb2 z1)
    replace hb2 := Lib.hid (hb1.out.trans (hb2.mono z1))
    clear c2
    go_wp2_with fail
    refine (to_ints _ xs _ _ hR2.out (by omega) (by omega)).mono ?_
    rintro e w3 ⟨x1, rfl, hX3, hb3⟩
    obtain ⟨xa, xc, rfl, _⟩ := id hX3
    have z3 : w2.heap.size ≤ w3.heap.size := hb3.size
    have c4 := Lib.hid (hi.out _ _ _ hX3.row (Nat.le_refl _))
    have hR3 := Lib.hid (hR2.out.below hb3 (by omega))
    have hX3' := Lib.hid hX3.row
    replace hb3 := Lib.hid (hb2.out.trans (hb3.mono (by omega)))
    clear hX3
    go_wp2_with fail
    refine c4.out.mono ?_
    rintro e w4 ⟨rfl, hb4⟩
    have z4 := hb4.size
    have hR4 := Lib.hid (hR3.out.below hb4 (by omega))
    have hX4 := Lib.hid (hX3'.out.below hb4 (Nat.le_refl _))
    replace hb4 := Lib.hid (hb3.out.trans (hb4.mono (by omega)))
    clear c4
    go_wp2_with fail
    refine (to_ints _ xs _ _ hR4.out (by omega) (by omega)).mono ?_
    rintro e w6 ⟨t, rfl, hT6, hb6⟩
    obtain ⟨ta, tc, rfl, _⟩ := id hT6
    have z6 := hb6.size
    have hX6 := Lib.hid (hX4.out.below hb6 (by omega))
    have hT6' := Lib.hid hT6.row
    replace hb6 := Lib.hid (hb4.out.trans (hb6.mono (by omega)))
    clear hT6
    go_wp2_with fail
    refine (eq_ints _ _ xs xs w6.heap.size _ (hX6.out.mono (by omega)) hT6'.out (by omega) (by omega)).mono ?_
    rintro e w' ⟨rfl, n7, rfl⟩
    rw [hsamx.out]
    go_wp2_with fail
    go_ret
    exact ⟨rfl, below_drewN hb6.out n7⟩
theorem ifL_len7 {b : Bool} {ys : List Int} (h : b = true → ys.length ≤ 1000000) : (ifL b ys).length ≤ 1000000 := by
  unfold ifL
  cases b with
  | true => simpa using h rfl
  | false => simp
theorem ifL_eq7 {b : Bool} {ys zs : List Int} (h : b = true → ys = zs) : ifL b ys = ifL b zs := by
  cases b with
  | true => rw [h rfl]
  | false => rfl
theorem top_eq {xs : List Int} (hA : Asc xs) : sortL (xs.filter (fun s => !xs.any (partO s))) = endL true xs xs := sortL_asc (asc_filter hA _)
theorem bot_eq {xs : List Int} (hA : Asc xs) : sortL (xs.filter (fun s => !xs.any (fun x => partO x s))) = endL false xs xs := sortL_asc (asc_filter hA _)
theorem down_eq (N : Nat) (xs : List Int) : sortL ((sortL (upI N)).filter (fun s => xs.any (partB s))) = clL true xs N := by
  rw [sortL_asc (asc_upI N)]; exact sortL_asc (asc_filter (asc_upI N) _)
theorem up_eq (N : Nat) (xs : List Int) : sortL ((sortL (upI N)).filter (fun s => xs.any (fun x => partB x s))) = clL false xs N := by
  rw [sortL_asc (asc_upI N)]; exact sortL_asc (asc_filter (asc_upI N) _)
theorem end_len {n : Int} {xs : List Int} (top : Bool) (h : famB n xs = true) : (endL top xs xs).length ≤ 1000000 := by
  have h1 := famB_len h
  have h2 := List.length_filter_le (fun x => !xs.any (endB top x)) xs
  unfold endL; omega
theorem cl_len {n : Int} {xs : List Int} (down : Bool) (h : famB n xs = true) : (clL down xs (2 ^ n.toNat)).length ≤ 1000000 := by
  obtain ⟨n1, n2, _⟩ := famB_all h
  have := (pow_nat n1 n2).1
  have := clL_len down xs (2 ^ n.toNat)
  omega
theorem Law_AntichainTop (n : Int) (v : Value) (xs : List Int) (w : World) (hx : Row w w.heap.size v xs) (hl : xs.length ≤ 9223372036854775807) : Calls Try.prog 4 #[.int .i64 n, v] w fun e w' => e = .returned (.bool true) ∧ Below w.heap.size w w' :=
  law_AntichainTop n v xs w hx hl _ _ (fun _ => ifL_len7 fun h => end_len true h) (fun W u S h1 h2 h3 => by rw [← ifL_eq7 (fun hf => top_eq (famB_asc hf))]; exact im_AntichainTop n u xs S W h1 h2 h3) (fun W u S h1 h2 h3 => sp_AntichainTop n u xs S W h1 h2 h3)
theorem Law_AntichainBottom (n : Int) (v : Value) (xs : List Int) (w : World) (hx : Row w w.heap.size v xs) (hl : xs.length ≤ 9223372036854775807) : Calls Try.prog 5 #[.int .i64 n, v] w fun e w' => e = .returned (.bool true) ∧ Below w.heap.size w w' :=
  law_AntichainBottom n v xs w hx hl _ _ (fun _ => ifL_len7 fun h => end_len false h) (fun W u S h1 h2 h3 => by rw [← ifL_eq7 (fun hf => bot_eq (famB_asc hf))]; exact im_AntichainBottom n u xs S W h1 h2 h3) (fun W u S h1 h2 h3 => sp_AntichainBottom n u xs S W h1 h2 h3)
theorem Law_ClosedDown (n : Int) (v : Value) (xs : List Int) (w : World) (hx : Row w w.heap.size v xs) (hl : xs.length ≤ 9223372036854775807) : Calls Try.prog 6 #[.int .i64 n, v] w fun e w' => e = .returned (.bool true) ∧ Below w.heap.size w w' :=
  law_ClosedDown n v xs w hx hl _ _ (fun _ => ifL_len7 fun h => cl_len true h) (fun W u S h1 h2 h3 => by rw [← down_eq]; exact im_ClosedDown n u xs S W h1 h2 h3) (fun W u S h1 h2 h3 => sp_ClosedDown n u xs S W h1 h2 h3)
theorem Law_ClosedUp (n : Int) (v : Value) (xs : List Int) (w : World) (hx : Row w w.heap.size v xs) (hl : xs.length ≤ 9223372036854775807) : Calls Try.prog 7 #[.int .i64 n, v] w fun e w' => e = .returned (.bool true) ∧ Below w.heap.size w w' :=
  law_ClosedUp n v xs w hx hl _ _ (fun _ => ifL_len7 fun h => cl_len false h) (fun W u S h1 h2 h3 => by rw [← up_eq]; exact im_ClosedUp n u xs S W h1 h2 h3) (fun W u S h1 h2 h3 => sp_ClosedUp n u xs S W h1 h2 h3)
theorem filter_all_iff {p : Int → Bool} : ∀ (xs : List Int), ((xs.filter p).length = xs.length) ↔ xs.any (fun x => !p x) = false
  | [] => by simp
  | x :: xs => by
    have ih := filter_all_iff (p := p) xs
    have hle := List.length_filter_le p xs
    rw [List.any_cons]
    rcases (by cases p x <;> simp : p x = true ∨ p x = false) with h | h
    · rw [List.filter_cons_of_pos h, List.length_cons, List.length_cons, h, Bool.not_true, Bool.false_or, ← ih]; omega
    · rw [List.filter_cons_of_neg (by rw [h]; simp), List.length_cons, h, Bool.not_false, Bool.true_or]
      constructor
      · intro e; omega
      · intro e; simp at e
theorem anti_eq {xs : List Int} : decide ((endL true xs xs).length = xs.length) = antiB xs := by
  unfold endL antiB
  have h := filter_all_iff (p := fun x => !xs.any (endB true x)) xs
  have e : (xs.any fun x => !!xs.any (endB true x)) = xs.any (fun x => xs.any (endB true x)) := by congr; funext x; simp
  rw [e] at h
  cases hb : xs.any (fun x => xs.any (endB true x)) with
  | true => rw [hb] at h; exact decide_eq_false (fun hh => by have := h.1 hh; cases this)
  | false => exact decide_eq_true (h.2 hb)
theorem fld0s (x y : Value) (w : World) : (Instr.field 39 (.agg #[x, y]) 0).run Try.prog w = .ok x w := by kernel_rfl
set_option maxHeartbeats 2000000 in
theorem im_AntichainIn (n : Int) (lv : Value) (xs : List Int) (S : Nat) (w : World) (hx : Row w S lv xs) (hS : S ≤ w.heap.size) (hl : xs.length ≤ 100000000) :
    Calls Try.prog 14 #[.int .i64 n, lv] w fun e w' => e = .returned (.bool (famB n xs && antiB xs)) ∧ Below w.heap.size w w' := by
  have hr := Lib.hid (read_any n lv xs S w hx hS hl)
  obtain ⟨la, lc, rfl, _⟩ := id hx
  clear hx
  have hfl := fld0s
  go_enter Try.func14, Try.ntmps14
  go_wp2_with fail
  refine hr.out.mono ?_
  rintro e w1 (⟨hf, v, rfl, hS1, hb1⟩ | ⟨hf, rfl, hb1⟩)
  · obtain ⟨a', c', rfl⟩ := hS1.form
    have hz1 := hb1.size
    have hlen := famB_len hf
    have hzz := famB_lt hf
    have hae := anti_eq (xs := xs)
    have hte := top_eq (famB_asc hf)
    obtain ⟨W1, hW1⟩ : ∃ W1, w1.alloc (.cells #[.slice a' xs.length c', (Value.func (.func 94) #[] #[])] 39) = W1 := ⟨_, rfl⟩
    have hbw := hb1.alloc hz1 (.cells #[.slice a' xs.length c', (Value.func (.func 94) #[] #[])] 39)
    have hS2 := hS1.alloc (.cells #[.slice a' xs.length c', (Value.func (.func 94) #[] #[])] 39)
    have hc1 := heap_alloc_new w1 (.cells #[.slice a' xs.length c', (Value.func (.func 94) #[] #[])] 39 (0, 0))
    have hs1 : W1.heap.size = w1.heap.size + 1 := by rw [← hW1]; simp
    rw [hW1] at hbw hS2 hc1
    have hlt0 : w1.heap.size < W1.heap.size := by omega
    obtain ⟨l0, l1⟩ := pair_cells hc1 (Below.refl W1.heap.size W1) hlt0
    have hbd : Below W1.heap.size W1 W1.drew := (Below.refl _ W1).drew
    have hrow := hS2.row.below hbd (Nat.le_refl _)
    have ht : Calls Try.prog 37 #[.agg #[.slice a' xs.length c', (Value.func (.func 94) #[] #[])]] W1.drew (FamPost W1.drew (sortL (xs.filter (fun s => !xs.any (partO s))))) := top_fam xs W1 (by omega) hzz W1.drew _ hbd hrow
    obtain ⟨ys, hys⟩ : ∃ ys, sortL (xs.filter (fun s => !xs.any (partO s))) = ys := ⟨_, rfl⟩
    rw [hys] at ht hte
    rw [← hte] at hae
    have hB : (famB n xs && antiB xs) = ((ys.length : Int) == (xs.length : Int)) := by
      rw [hf, Bool.true_and, ← hae]
      by_cases e : ys.length = xs.length
      · rw [e]; simp
      · rw [decide_eq_false e]; symm; rw [beq_eq_false_iff_ne]; omega
    have hle0 : w.heap.size ≤ W1.heap.size := by omega
    replace ht := Lib.hid ht
    replace hB := Lib.hid hB
    replace hys := Lib.hid hys
    replace hte := Lib.hid hte
    replace hae := Lib.hid hae
    replace hbw := Lib.hid hbw
    replace hbd := Lib.hid hbd
    replace hc1 := Lib.hid hc1
    replace hW1 := Lib.hid hW1
    replace hzz := Lib.hid hzz
    clear hrow hS2 hS1 hb1 hr
    go_wp2_with fail
    rw [hW1.out]
    go_region_with (go_at_call 37; ((with_reducible refine ht.out.mono ?_)); rintro e w4 ⟨v4, rfl, hS4, hb4⟩; obtain ⟨a4, c4, rfl⟩ := hS4.form; obtain ⟨q0, q1⟩ := pair_cells hc1.out (hbd.out.trans hb4) hlt0; replace hb4 := Lib.hid (hbw.out.trans ((hbd.out.trans hb4).mono hle0)); replace hS4 := Lib.hid hS4)
    all_goals
      go_wp2_with fail
      go_ret
      exact ⟨ret_bool hB.out.symm, hb4.out⟩
  · have hB := Lib.hid (show false = (famB n xs && antiB xs) by rw [hf]; rfl)
    replace hb1 := Lib.hid (hb1.alloc hb1.size (.cells #[.slice none 0 0, .nilFunc] 39))
    replace hf := Lib.hid hf
    clear hr
    go_wp2_with fail
    go_region
    all_goals
      go_wp2_with fail
      go_ret
      exact ⟨ret_bool hB.out, hb1.out.drew⟩
theorem Law_AntichainIn (n : Int) (v : Value) (xs : List Int) (w : World) (hx : Row w w.heap.size v xs) (hl : xs.length ≤ 9223372036854775807) : Calls Try.prog 3 #[.int .i64 n, v] w fun e w' => e = .returned (.bool true) ∧ Below w.heap.size w w' :=
  law_AntichainIn n v xs w hx hl _ (fun W u S h1 h2 h3 => im_AntichainIn n u xs S W h1 h2 h3) (fun W u S h1 h2 h3 => sp_AntichainIn n u xs S W h1 h2 h3)
end Go.Proofs.Ytffnpignkimkhaa
