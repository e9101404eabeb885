/- The exact laws of UnionOf, MeetOf, UnionIn, MeetIn, UnionPrimes. -/
import Derived.Test.YthljimmhgpbmbaaPm2
import Derived.Test.YthljimmhgpbmbaaCs1
import Derived.Test.YthljimmhgpbmbaaFLaws
import Derived.Test.YthljimmhgpbmbaaLawBool
namespace Go.Proofs.Ythljimmhgpbmbaa
open Go.ChangeShapes Go.WideShapes Go.ChangeAt Go.RowKit Go.Proofs
set_option maxHeartbeats 4000000 in
theorem law_UnionOf (n : Int) (v : Value) (xs : List Int) (w : World) (hx : Row w w.heap.size v xs) (hl : xs.length ≤ 9223372036854775807) (L : List Int) (b : Bool) (hL : xs.length ≤ 1048576 → L.length ≤ 1000000)
    (hi : ∀ (W : World) (u : Value) (S : Nat), Row W S u xs → S ≤ W.heap.size → xs.length ≤ 100000000 → Calls Try.prog 19 #[.int .i64 n, u] W (ListPost L b W))
    (hs : ∀ (W : World) (u : Value) (S : Nat), Row W S u xs → S ≤ W.heap.size → xs.length ≤ 100000000 → Calls Try.prog 26 #[.int .i64 n, u] W (ListPost L b W)) :
    Calls Try.prog 6 #[.int .i64 n, v] w fun e w' => e = .returned (.bool true) ∧ Below w.heap.size w w' := by
  have hx' := hx
  obtain ⟨a, cap, rfl, _⟩ := hx'
  by_cases hbig : 1048576 < xs.length
  · go_enter Try.func6, Try.ntmps6
    go_wp2_with fail
    go_ret
    exact ⟨rfl, Below.refl _ _⟩
  · have hl2 : xs.length ≤ 1048576 := by omega
    have hLL := hL hl2
    have hl3 : xs.length ≤ 100000000 := by omega
    have hR := Lib.hid hx
    replace hi := Lib.hid (fun W u S h1 h2 => hi W u S h1 h2 hl3)
    replace hs := Lib.hid (fun W u S h1 h2 => hs W u S h1 h2 hl3)
    have hbb : (b != b) = false := by simp
    have hsame := Lib.hid (same_self L)
    have hsamx := Lib.hid (same_self xs)
    clear hx hbig hL
    go_enter Try.func6, Try.ntmps6
    go_wp2_with fail
    refine (to_ints _ xs _ _ hR.out (by omega) (Nat.le_refl _)).mono ?_
    rintro e w1 ⟨u, rfl, hu, hb1⟩
    obtain ⟨ua, uc, rfl, _⟩ := id hu
    have z1 := hb1.size
    have c2 := Lib.hid (hs.out _ _ _ hu.row (Nat.le_refl _))
    have hR1 := Lib.hid (hR.out.below hb1 (Nat.le_refl _))
    replace hb1 := Lib.hid hb1
    clear hu hs
    go_wp2_with fail
    refine c2.out.mono ?_
    rintro e w2 ⟨v0, rfl, hO0, hb2⟩
    obtain ⟨a0, c0, rfl, _⟩ := id hO0
    have z2 := hb2.size
    have hR2 := Lib.hid (hR1.out.below hb2 z1)
    replace hO0 := Lib.hid hO0
    replace hb2 := Lib.hid (hb1.out.trans (hb2.mono z1))
    clear c2
    go_wp2_with fail
    refine (to_ints _ xs _ _ hR2.out (by omega) (by omega)).mono ?_
    rintro e w3 ⟨x1, rfl, hX3, hb3⟩
    obtain ⟨xa, xc, rfl, _⟩ := id hX3
    have z3 := hb3.size
    have c4 := Lib.hid (hi.out _ _ _ hX3.row (Nat.le_refl _))
    have hR3 := Lib.hid (hR2.out.below hb3 (by omega))
    have hO3 := Lib.hid (hO0.out.below hb3 (Nat.le_refl _))
    replace hX3 := Lib.hid hX3
    replace hb3 := Lib.hid (hb2.out.trans (hb3.mono (by omega)))
    clear hO0
    go_wp2_with fail
    refine c4.out.mono ?_
    rintro e w4 ⟨g0, rfl, hG4, hb4⟩
    obtain ⟨ga, gc, rfl, _⟩ := id hG4
    have z4 := hb4.size
    have hR4 := Lib.hid (hR3.out.below hb4 (by omega))
    have hO4 := Lib.hid (hO3.out.below hb4 (by omega))
    have hX4 := Lib.hid (hX3.out.below hb4 (Nat.le_refl _))
    replace hG4 := Lib.hid hG4
    replace hb4 := Lib.hid (hb3.out.trans (hb4.mono (by omega)))
    clear c4 hO3 hX3 hR1 hR2 hR3
    go_wp2_with fail
    refine (eq_ints _ _ L L w4.heap.size _ (hG4.out.row.mono (Nat.le_refl _)) (hO4.out.row.mono (by omega)) (by omega) (by omega)).mono ?_
    rintro e w' ⟨rfl, n5, rfl⟩
    rw [hsame.out]
    go_wp2_with fail
    refine (to_ints _ xs _ _ (hR4.out.drewN n5) (by omega) (show w.heap.size ≤ w4.heap.size by omega)).mono ?_
    rintro e w6 ⟨t, rfl, hT6, hb6⟩
    obtain ⟨ta, tc, rfl, _⟩ := id hT6
    have z6 : w4.heap.size ≤ w6.heap.size := hb6.size
    have hb6' : Below w4.heap.size w4 w6 := (below_drewN (Below.refl w4.heap.size w4) n5).trans hb6
    have hR6 := Lib.hid (hR4.out.below hb6' (by omega))
    have hO6 := Lib.hid (hO4.out.below hb6' (by omega))
    have hX6 := Lib.hid (hX4.out.below hb6' (by omega))
    have hG6 := Lib.hid (hG4.out.below hb6' (Nat.le_refl _))
    have hT6' := Lib.hid hT6.row
    replace hb6 := Lib.hid (hb4.out.trans (hb6'.mono (by omega)))
    clear hT6 hb6' hO4 hX4 hG4 hR4
    go_wp2_with fail
    refine (eq_ints _ _ xs xs w6.heap.size _ (hX6.out.row.mono (by omega)) hT6'.out (by omega) (by omega)).mono ?_
    rintro e w' ⟨rfl, n7, rfl⟩
    rw [hsamx.out]
    go_wp2_with fail
    refine (mark_up _ xs 1 w2.heap.size w3.heap.size _ (hX6.out.drewN n7) (by omega) (by omega) (by omega)).mono ?_
    rintro e w8 ⟨rfl, _, hb8, hk8⟩
    have z8 : w6.heap.size ≤ w8.heap.size := hb8.size
    have hR8 := Lib.hid ((hR6.out.drewN n7).below hb8 (by omega))
    have hO8 := Lib.hid ((hO6.out.drewN n7).below hb8 (Nat.le_refl _))
    have hG8 := Lib.hid ((hG6.out.drewN n7).up hk8 (Nat.le_refl _))
    replace hb8 := Lib.hid ((below_drewN hb6.out n7).trans (hb8.mono (by omega)))
    have hq1 : (0 : Int) ≤ 1 + (xs.length : Nat) := by omega
    clear hk8 hO6 hG6 hX6 hR6 hT6'
    go_wp2_with fail
    refine (eq_ints _ _ L L w8.heap.size _ (hG8.out.row.mono (by omega)) (hO8.out.row.mono (by omega)) (by omega) (by omega)).mono ?_
    rintro e w' ⟨rfl, n9, rfl⟩
    rw [hsame.out]
    go_wp2_with fail
    refine (mark_ints _ L 1 _ _ _ (hG8.out.drewN n9) (by omega) (by omega) (by omega)).mono ?_
    rintro e w10 ⟨rfl, hG10, hb10⟩
    have z10 : w8.heap.size ≤ w10.heap.size := hb10.size
    have hlen : (marks 1 L.length).length ≤ 1000000 := by rw [marks_len]; exact hLL
    have hR10 := Lib.hid ((hR8.out.drewN n9).below hb10 (by omega))
    have hO10 := Lib.hid ((hO8.out.drewN n9).below hb10 (by omega))
    replace hG10 := Lib.hid hG10
    replace hb10 := Lib.hid ((below_drewN hb8.out n9).trans (hb10.mono (by omega)))
    clear hG8 hO8 hR8
    go_wp2_with fail
    refine (held_ints _ (marks 1 L.length) 1 _ _ (by have := hG10.out.row; exact this) (by omega) (by omega) (by omega)).mono ?_
    rintro e w' ⟨rfl, rfl⟩
    rw [heldV_marks]
    have hq : (0 : Int) ≤ 1 + (L.length : Nat) := by omega
    have hqq : ((1 : Int) + (L.length : Nat) != 1 + (L.length : Nat)) = false := by simp
    go_wp2_with fail
    refine (to_ints _ xs _ _ hR10.out (by omega) (by omega)).mono ?_
    rintro e w11 ⟨x2, rfl, hX11, hb11⟩
    obtain ⟨ya, yc, rfl, _⟩ := id hX11
    have z11 := hb11.size
    have c12 := Lib.hid (hi.out _ _ _ hX11.row (Nat.le_refl _))
    have hO11 := Lib.hid (hO10.out.below hb11 (by omega))
    have hG11 := Lib.hid (hG10.out.below hb11 (by omega))
    replace hb11 := Lib.hid (hb10.out.trans (hb11.mono (by omega)))
    clear hX11 hO10 hG10 hR10 hi
    go_wp2_with fail
    refine c12.out.mono ?_
    rintro e w12 ⟨h0, rfl, hH12, hb12⟩
    obtain ⟨ha, hc, rfl, _⟩ := id hH12
    have z12 := hb12.size
    have hO12 := Lib.hid (hO11.out.below hb12 (by omega))
    have hG12 := Lib.hid (hG11.out.below hb12 (by omega))
    replace hH12 := Lib.hid hH12
    replace hb12 := Lib.hid (hb11.out.trans (hb12.mono (by omega)))
    clear c12 hO11 hG11
    go_wp2_with fail
    refine (eq_ints _ _ L L w12.heap.size _ (hH12.out.row.mono (Nat.le_refl _)) (hO12.out.row.mono (by omega)) (by omega) (by omega)).mono ?_
    rintro e w' ⟨rfl, n13, rfl⟩
    rw [hsame.out]
    go_wp2_with fail
    refine (held_ints _ (marks 1 L.length) 1 _ _ ((hG12.out.drewN n13).row) (by omega) (by omega) (by omega)).mono ?_
    rintro e w' ⟨rfl, rfl⟩
    rw [heldV_marks]
    go_wp2_with fail
    go_ret
    exact ⟨rfl, below_drewN hb12.out n13⟩

set_option maxHeartbeats 4000000 in
theorem law_MeetOf (n : Int) (v : Value) (xs : List Int) (w : World) (hx : Row w w.heap.size v xs) (hl : xs.length ≤ 9223372036854775807) (L : List Int) (b : Bool) (hL : xs.length ≤ 1048576 → L.length ≤ 1000000)
    (hi : ∀ (W : World) (u : Value) (S : Nat), Row W S u xs → S ≤ W.heap.size → xs.length ≤ 100000000 → Calls Try.prog 30 #[.int .i64 n, u] W (ListPost L b W))
    (hs : ∀ (W : World) (u : Value) (S : Nat), Row W S u xs → S ≤ W.heap.size → xs.length ≤ 100000000 → Calls Try.prog 29 #[.int .i64 n, u] W (ListPost L b W)) :
    Calls Try.prog 7 #[.int .i64 n, v] w fun e w' => e = .returned (.bool true) ∧ Below w.heap.size w w' := by
  have hx' := hx
  obtain ⟨a, cap, rfl, _⟩ := hx'
  by_cases hbig : 1048576 < xs.length
  · go_enter Try.func7, Try.ntmps7
    go_wp2_with fail
    go_ret
    exact ⟨rfl, Below.refl _ _⟩
  · have hl2 : xs.length ≤ 1048576 := by omega
    have hLL := hL hl2
    have hl3 : xs.length ≤ 100000000 := by omega
    have hR := Lib.hid hx
    replace hi := Lib.hid (fun W u S h1 h2 => hi W u S h1 h2 hl3)
    replace hs := Lib.hid (fun W u S h1 h2 => hs W u S h1 h2 hl3)
    have hbb : (b != b) = false := by simp
    have hsame := Lib.hid (same_self L)
    have hsamx := Lib.hid (same_self xs)
    clear hx hbig hL
    go_enter Try.func7, Try.ntmps7
    go_wp2_with fail
    refine (to_ints _ xs _ _ hR.out (by omega) (Nat.le_refl _)).mono ?_
    rintro e w1 ⟨u, rfl, hu, hb1⟩
    obtain ⟨ua, uc, rfl, _⟩ := id hu
    have z1 := hb1.size
    have c2 := Lib.hid (hs.out _ _ _ hu.row (Nat.le_refl _))
    have hR1 := Lib.hid (hR.out.below hb1 (Nat.le_refl _))
    replace hb1 := Lib.hid hb1
    clear hu hs
    go_wp2_with fail
    refine c2.out.mono ?_
    rintro e w2 ⟨v0, rfl, hO0, hb2⟩
    obtain ⟨a0, c0, rfl, _⟩ := id hO0
    have z2 := hb2.size
    have hR2 := Lib.hid (hR1.out.below hb2 z1)
    replace hO0 := Lib.hid hO0
    replace hb2 := Lib.hid (hb1.out.trans (hb2.mono z1))
    clear c2
    go_wp2_with fail
    refine (to_ints _ xs _ _ hR2.out (by omega) (by omega)).mono ?_
    rintro e w3 ⟨x1, rfl, hX3, hb3⟩
    obtain ⟨xa, xc, rfl, _⟩ := id hX3
    have z3 := hb3.size
    have c4 := Lib.hid (hi.out _ _ _ hX3.row (Nat.le_refl _))
    have hR3 := Lib.hid (hR2.out.below hb3 (by omega))
    have hO3 := Lib.hid (hO0.out.below hb3 (Nat.le_refl _))
    replace hX3 := Lib.hid hX3
    replace hb3 := Lib.hid (hb2.out.trans (hb3.mono (by omega)))
    clear hO0
    go_wp2_with fail
    refine c4.out.mono ?_
    rintro e w4 ⟨g0, rfl, hG4, hb4⟩
    obtain ⟨ga, gc, rfl, _⟩ := id hG4
    have z4 := hb4.size
    have hR4 := Lib.hid (hR3.out.below hb4 (by omega))
    have hO4 := Lib.hid (hO3.out.below hb4 (by omega))
    have hX4 := Lib.hid (hX3.out.below hb4 (Nat.le_refl _))
    replace hG4 := Lib.hid hG4
    replace hb4 := Lib.hid (hb3.out.trans (hb4.mono (by omega)))
    clear c4 hO3 hX3 hR1 hR2 hR3
    go_wp2_with fail
    refine (eq_ints _ _ L L w4.heap.size _ (hG4.out.row.mono (Nat.le_refl _)) (hO4.out.row.mono (by omega)) (by omega) (by omega)).mono ?_
    rintro e w' ⟨rfl, n5, rfl⟩
    rw [hsame.out]
    go_wp2_with fail
    refine (to_ints _ xs _ _ (hR4.out.drewN n5) (by omega) (show w.heap.size ≤ w4.heap.size by omega)).mono ?_
    rintro e w6 ⟨t, rfl, hT6, hb6⟩
    obtain ⟨ta, tc, rfl, _⟩ := id hT6
    have z6 : w4.heap.size ≤ w6.heap.size := hb6.size
    have hb6' : Below w4.heap.size w4 w6 := (below_drewN (Below.refl w4.heap.size w4) n5).trans hb6
    have hR6 := Lib.hid (hR4.out.below hb6' (by omega))
    have hO6 := Lib.hid (hO4.out.below hb6' (by omega))
    have hX6 := Lib.hid (hX4.out.below hb6' (by omega))
    have hG6 := Lib.hid (hG4.out.below hb6' (Nat.le_refl _))
    have hT6' := Lib.hid hT6.row
    replace hb6 := Lib.hid (hb4.out.trans (hb6'.mono (by omega)))
    clear hT6 hb6' hO4 hX4 hG4 hR4
    go_wp2_with fail
    refine (eq_ints _ _ xs xs w6.heap.size _ (hX6.out.row.mono (by omega)) hT6'.out (by omega) (by omega)).mono ?_
    rintro e w' ⟨rfl, n7, rfl⟩
    rw [hsamx.out]
    go_wp2_with fail
    refine (mark_up _ xs 1 w2.heap.size w3.heap.size _ (hX6.out.drewN n7) (by omega) (by omega) (by omega)).mono ?_
    rintro e w8 ⟨rfl, _, hb8, hk8⟩
    have z8 : w6.heap.size ≤ w8.heap.size := hb8.size
    have hR8 := Lib.hid ((hR6.out.drewN n7).below hb8 (by omega))
    have hO8 := Lib.hid ((hO6.out.drewN n7).below hb8 (Nat.le_refl _))
    have hG8 := Lib.hid ((hG6.out.drewN n7).up hk8 (Nat.le_refl _))
    replace hb8 := Lib.hid ((below_drewN hb6.out n7).trans (hb8.mono (by omega)))
    have hq1 : (0 : Int) ≤ 1 + (xs.length : Nat) := by omega
    clear hk8 hO6 hG6 hX6 hR6 hT6'
    go_wp2_with fail
    refine (eq_ints _ _ L L w8.heap.size _ (hG8.out.row.mono (by omega)) (hO8.out.row.mono (by omega)) (by omega) (by omega)).mono ?_
    rintro e w' ⟨rfl, n9, rfl⟩
    rw [hsame.out]
    go_wp2_with fail
    refine (mark_ints _ L 1 _ _ _ (hG8.out.drewN n9) (by omega) (by omega) (by omega)).mono ?_
    rintro e w10 ⟨rfl, hG10, hb10⟩
    have z10 : w8.heap.size ≤ w10.heap.size := hb10.size
    have hlen : (marks 1 L.length).length ≤ 1000000 := by rw [marks_len]; exact hLL
    have hR10 := Lib.hid ((hR8.out.drewN n9).below hb10 (by omega))
    have hO10 := Lib.hid ((hO8.out.drewN n9).below hb10 (by omega))
    replace hG10 := Lib.hid hG10
    replace hb10 := Lib.hid ((below_drewN hb8.out n9).trans (hb10.mono (by omega)))
    clear hG8 hO8 hR8
    go_wp2_with fail
    refine (held_ints _ (marks 1 L.length) 1 _ _ (by have := hG10.out.row; exact this) (by omega) (by omega) (by omega)).mono ?_
    rintro e w' ⟨rfl, rfl⟩
    rw [heldV_marks]
    have hq : (0 : Int) ≤ 1 + (L.length : Nat) := by omega
    have hqq : ((1 : Int) + (L.length : Nat) != 1 + (L.length : Nat)) = false := by simp
    go_wp2_with fail
    refine (to_ints _ xs _ _ hR10.out (by omega) (by omega)).mono ?_
    rintro e w11 ⟨x2, rfl, hX11, hb11⟩
    obtain ⟨ya, yc, rfl, _⟩ := id hX11
    have z11 := hb11.size
    have c12 := Lib.hid (hi.out _ _ _ hX11.row (Nat.le_refl _))
    have hO11 := Lib.hid (hO10.out.below hb11 (by omega))
    have hG11 := Lib.hid (hG10.out.below hb11 (by omega))
    replace hb11 := Lib.hid (hb10.out.trans (hb11.mono (by omega)))
    clear hX11 hO10 hG10 hR10 hi
    go_wp2_with fail
    refine c12.out.mono ?_
    rintro e w12 ⟨h0, rfl, hH12, hb12⟩
    obtain ⟨ha, hc, rfl, _⟩ := id hH12
    have z12 := hb12.size
    have hO12 := Lib.hid (hO11.out.below hb12 (by omega))
    have hG12 := Lib.hid (hG11.out.below hb12 (by omega))
    replace hH12 := Lib.hid hH12
    replace hb12 := Lib.hid (hb11.out.trans (hb12.mono (by omega)))
    clear c12 hO11 hG11
    go_wp2_with fail
    refine (eq_ints _ _ L L w12.heap.size _ (hH12.out.row.mono (Nat.le_refl _)) (hO12.out.row.mono (by omega)) (by omega) (by omega)).mono ?_
    rintro e w' ⟨rfl, n13, rfl⟩
    rw [hsame.out]
    go_wp2_with fail
    refine (held_ints _ (marks 1 L.length) 1 _ _ ((hG12.out.drewN n13).row) (by omega) (by omega) (by omega)).mono ?_
    rintro e w' ⟨rfl, rfl⟩
    rw [heldV_marks]
    go_wp2_with fail
    go_ret
    exact ⟨rfl, below_drewN hb12.out n13⟩

set_option maxHeartbeats 4000000 in
theorem law_UnionPrimes (n : Int) (v : Value) (xs : List Int) (w : World) (hx : Row w w.heap.size v xs) (hl : xs.length ≤ 9223372036854775807) (L : List Int) (b : Bool) (hL : xs.length ≤ 1048576 → L.length ≤ 1000000)
    (hi : ∀ (W : World) (u : Value) (S : Nat), Row W S u xs → S ≤ W.heap.size → xs.length ≤ 100000000 → Calls Try.prog 16 #[.int .i64 n, u] W (ListPost L b W))
    (hs : ∀ (W : World) (u : Value) (S : Nat), Row W S u xs → S ≤ W.heap.size → xs.length ≤ 100000000 → Calls Try.prog 17 #[.int .i64 n, u] W (ListPost L b W)) :
    Calls Try.prog 8 #[.int .i64 n, v] w fun e w' => e = .returned (.bool true) ∧ Below w.heap.size w w' := by
  have hx' := hx
  obtain ⟨a, cap, rfl, _⟩ := hx'
  by_cases hbig : 1048576 < xs.length
  · go_enter Try.func8, Try.ntmps8
    go_wp2_with fail
    go_ret
    exact ⟨rfl, Below.refl _ _⟩
  · have hl2 : xs.length ≤ 1048576 := by omega
    have hLL := hL hl2
    have hl3 : xs.length ≤ 100000000 := by omega
    have hR := Lib.hid hx
    replace hi := Lib.hid (fun W u S h1 h2 => hi W u S h1 h2 hl3)
    replace hs := Lib.hid (fun W u S h1 h2 => hs W u S h1 h2 hl3)
    have hbb : (b != b) = false := by simp
    have hsame := Lib.hid (same_self L)
    have hsamx := Lib.hid (same_self xs)
    clear hx hbig hL
    go_enter Try.func8, Try.ntmps8
    go_wp2_with fail
    refine (to_ints _ xs _ _ hR.out (by omega) (Nat.le_refl _)).mono ?_
    rintro e w1 ⟨u, rfl, hu, hb1⟩
    obtain ⟨ua, uc, rfl, _⟩ := id hu
    have z1 := hb1.size
    have c2 := Lib.hid (hs.out _ _ _ hu.row (Nat.le_refl _))
    have hR1 := Lib.hid (hR.out.below hb1 (Nat.le_refl _))
    replace hb1 := Lib.hid hb1
    clear hu hs
    go_wp2_with fail
    refine c2.out.mono ?_
    rintro e w2 ⟨v0, rfl, hO0, hb2⟩
    obtain ⟨a0, c0, rfl, _⟩ := id hO0
    have z2 := hb2.size
    have hR2 := Lib.hid (hR1.out.below hb2 z1)
    replace hO0 := Lib.hid hO0
    replace hb2 := Lib.hid (hb1.out.trans (hb2.mono z1))
    clear c2
    go_wp2_with fail
    refine (to_ints _ xs _ _ hR2.out (by omega) (by omega)).mono ?_
    rintro e w3 ⟨x1, rfl, hX3, hb3⟩
    obtain ⟨xa, xc, rfl, _⟩ := id hX3
    have z3 := hb3.size
    have c4 := Lib.hid (hi.out _ _ _ hX3.row (Nat.le_refl _))
    have hR3 := Lib.hid (hR2.out.below hb3 (by omega))
    have hO3 := Lib.hid (hO0.out.below hb3 (Nat.le_refl _))
    replace hX3 := Lib.hid hX3
    replace hb3 := Lib.hid (hb2.out.trans (hb3.mono (by omega)))
    clear hO0
    go_wp2_with fail
    refine c4.out.mono ?_
    rintro e w4 ⟨g0, rfl, hG4, hb4⟩
    obtain ⟨ga, gc, rfl, _⟩ := id hG4
    have z4 := hb4.size
    have hR4 := Lib.hid (hR3.out.below hb4 (by omega))
    have hO4 := Lib.hid (hO3.out.below hb4 (by omega))
    have hX4 := Lib.hid (hX3.out.below hb4 (Nat.le_refl _))
    replace hG4 := Lib.hid hG4
    replace hb4 := Lib.hid (hb3.out.trans (hb4.mono (by omega)))
    clear c4 hO3 hX3 hR1 hR2 hR3
    go_wp2_with fail
    refine (eq_ints _ _ L L w4.heap.size _ (hG4.out.row.mono (Nat.le_refl _)) (hO4.out.row.mono (by omega)) (by omega) (by omega)).mono ?_
    rintro e w' ⟨rfl, n5, rfl⟩
    rw [hsame.out]
    go_wp2_with fail
    refine (to_ints _ xs _ _ (hR4.out.drewN n5) (by omega) (show w.heap.size ≤ w4.heap.size by omega)).mono ?_
    rintro e w6 ⟨t, rfl, hT6, hb6⟩
    obtain ⟨ta, tc, rfl, _⟩ := id hT6
    have z6 : w4.heap.size ≤ w6.heap.size := hb6.size
    have hb6' : Below w4.heap.size w4 w6 := (below_drewN (Below.refl w4.heap.size w4) n5).trans hb6
    have hR6 := Lib.hid (hR4.out.below hb6' (by omega))
    have hO6 := Lib.hid (hO4.out.below hb6' (by omega))
    have hX6 := Lib.hid (hX4.out.below hb6' (by omega))
    have hG6 := Lib.hid (hG4.out.below hb6' (Nat.le_refl _))
    have hT6' := Lib.hid hT6.row
    replace hb6 := Lib.hid (hb4.out.trans (hb6'.mono (by omega)))
    clear hT6 hb6' hO4 hX4 hG4 hR4
    go_wp2_with fail
    refine (eq_ints _ _ xs xs w6.heap.size _ (hX6.out.row.mono (by omega)) hT6'.out (by omega) (by omega)).mono ?_
    rintro e w' ⟨rfl, n7, rfl⟩
    rw [hsamx.out]
    go_wp2_with fail
    refine (mark_up _ xs 1 w2.heap.size w3.heap.size _ (hX6.out.drewN n7) (by omega) (by omega) (by omega)).mono ?_
    rintro e w8 ⟨rfl, _, hb8, hk8⟩
    have z8 : w6.heap.size ≤ w8.heap.size := hb8.size
    have hR8 := Lib.hid ((hR6.out.drewN n7).below hb8 (by omega))
    have hO8 := Lib.hid ((hO6.out.drewN n7).below hb8 (Nat.le_refl _))
    have hG8 := Lib.hid ((hG6.out.drewN n7).up hk8 (Nat.le_refl _))
    replace hb8 := Lib.hid ((below_drewN hb6.out n7).trans (hb8.mono (by omega)))
    have hq1 : (0 : Int) ≤ 1 + (xs.length : Nat) := by omega
    clear hk8 hO6 hG6 hX6 hR6 hT6'
    go_wp2_with fail
    refine (eq_ints _ _ L L w8.heap.size _ (hG8.out.row.mono (by omega)) (hO8.out.row.mono (by omega)) (by omega) (by omega)).mono ?_
    rintro e w' ⟨rfl, n9, rfl⟩
    rw [hsame.out]
    go_wp2_with fail
    refine (mark_ints _ L 1 _ _ _ (hG8.out.drewN n9) (by omega) (by omega) (by omega)).mono ?_
    rintro e w10 ⟨rfl, hG10, hb10⟩
    have z10 : w8.heap.size ≤ w10.heap.size := hb10.size
    have hlen : (marks 1 L.length).length ≤ 1000000 := by rw [marks_len]; exact hLL
    have hR10 := Lib.hid ((hR8.out.drewN n9).below hb10 (by omega))
    have hO10 := Lib.hid ((hO8.out.drewN n9).below hb10 (by omega))
    replace hG10 := Lib.hid hG10
    replace hb10 := Lib.hid ((below_drewN hb8.out n9).trans (hb10.mono (by omega)))
    clear hG8 hO8 hR8
    go_wp2_with fail
    refine (held_ints _ (marks 1 L.length) 1 _ _ (by have := hG10.out.row; exact this) (by omega) (by omega) (by omega)).mono ?_
    rintro e w' ⟨rfl, rfl⟩
    rw [heldV_marks]
    have hq : (0 : Int) ≤ 1 + (L.length : Nat) := by omega
    have hqq : ((1 : Int) + (L.length : Nat) != 1 + (L.length : Nat)) = false := by simp
    go_wp2_with fail
    refine (to_ints _ xs _ _ hR10.out (by omega) (by omega)).mono ?_
    rintro e w11 ⟨x2, rfl, hX11, hb11⟩
    obtain ⟨ya, yc, rfl, _⟩ := id hX11
    have z11 := hb11.size
    have c12 := Lib.hid (hi.out _ _ _ hX11.row (Nat.le_refl _))
    have hO11 := Lib.hid (hO10.out.below hb11 (by omega))
    have hG11 := Lib.hid (hG10.out.below hb11 (by omega))
    replace hb11 := Lib.hid (hb10.out.trans (hb11.mono (by omega)))
    clear hX11 hO10 hG10 hR10 hi
    go_wp2_with fail
    refine c12.out.mono ?_
    rintro e w12 ⟨h0, rfl, hH12, hb12⟩
    obtain ⟨ha, hc, rfl, _⟩ := id hH12
    have z12 := hb12.size
    have hO12 := Lib.hid (hO11.out.below hb12 (by omega))
    have hG12 := Lib.hid (hG11.out.below hb12 (by omega))
    replace hH12 := Lib.hid hH12
    replace hb12 := Lib.hid (hb11.out.trans (hb12.mono (by omega)))
    clear c12 hO11 hG11
    go_wp2_with fail
    refine (eq_ints _ _ L L w12.heap.size _ (hH12.out.row.mono (Nat.le_refl _)) (hO12.out.row.mono (by omega)) (by omega) (by omega)).mono ?_
    rintro e w' ⟨rfl, n13, rfl⟩
    rw [hsame.out]
    go_wp2_with fail
    refine (held_ints _ (marks 1 L.length) 1 _ _ ((hG12.out.drewN n13).row) (by omega) (by omega) (by omega)).mono ?_
    rintro e w' ⟨rfl, rfl⟩
    rw [heldV_marks]
    go_wp2_with fail
    go_ret
    exact ⟨rfl, below_drewN hb12.out n13⟩

set_option maxHeartbeats 4000000 in
theorem law_UnionIn (n : Int) (v : Value) (xs : List Int) (w : World) (hx : Row w w.heap.size v xs) (hl : xs.length ≤ 9223372036854775807) (b : Bool)
    (hi : ∀ (W : World) (u : Value) (S : Nat), Row W S u xs → S ≤ W.heap.size → xs.length ≤ 100000000 → Calls Try.prog 22 #[.int .i64 n, u] W fun e w' => e = .returned (.bool b) ∧ Below W.heap.size W w')
    (hs : ∀ (W : World) (u : Value) (S : Nat), Row W S u xs → S ≤ W.heap.size → xs.length ≤ 100000000 → Calls Try.prog 20 #[.int .i64 n, u] W fun e w' => e = .returned (.bool b) ∧ Below W.heap.size W w') :
    Calls Try.prog 4 #[.int .i64 n, v] w fun e w' => e = .returned (.bool true) ∧ Below w.heap.size w w' := by
  have hx' := hx
  obtain ⟨a, cap, rfl, _⟩ := hx'
  by_cases hbig : 1048576 < xs.length
  · go_enter Try.func4, Try.ntmps4
    go_wp2_with fail
    go_ret
    exact ⟨rfl, Below.refl _ _⟩
  · have hl2 : xs.length ≤ 1048576 := by omega
    have hl3 : xs.length ≤ 100000000 := by omega
    have hR := Lib.hid hx
    replace hi := Lib.hid (fun W u S h1 h2 => hi W u S h1 h2 hl3)
    replace hs := Lib.hid (fun W u S h1 h2 => hs W u S h1 h2 hl3)
    have hbb : (b != b) = false := by simp
    have hsamx := Lib.hid (same_self xs)
    clear hx hbig
    go_enter Try.func4, Try.ntmps4
    go_wp2_with fail
    refine (to_ints _ xs _ _ hR.out (by omega) (Nat.le_refl _)).mono ?_
    rintro e w1 ⟨u, rfl, hu, hb1⟩
    obtain ⟨ua, uc, rfl, _⟩ := id hu
    have z1 := hb1.size
    have c2 := Lib.hid (hs.out _ _ _ hu.row (Nat.le_refl _))
    have hR1 := Lib.hid (hR.out.below hb1 (Nat.le_refl _))
    replace hb1 := Lib.hid hb1
    clear hu hs
    go_wp2_with fail
    refine c2.out.mono ?_
    rintro e w2 ⟨rfl, hb2⟩
    have z2 := hb2.size
    have hR2 := Lib.hid (hR1.out.below hb2 z1)
    replace hb2 := Lib.hid (hb1.out.trans (hb2.mono z1))
    clear c2
    go_wp2_with fail
    refine (to_ints _ xs _ _ hR2.out (by omega) (by omega)).mono ?_
    rintro e w3 ⟨x1, rfl, hX3, hb3⟩
    obtain ⟨xa, xc, rfl, _⟩ := id hX3
    have z3 : w2.heap.size ≤ w3.heap.size := hb3.size
    have c4 := Lib.hid (hi.out _ _ _ hX3.row (Nat.le_refl _))
    have hR3 := Lib.hid (hR2.out.below hb3 (by omega))
    have hX3' := Lib.hid hX3.row
    replace hb3 := Lib.hid (hb2.out.trans (hb3.mono (by omega)))
    clear hX3
    go_wp2_with fail
    refine c4.out.mono ?_
    rintro e w4 ⟨rfl, hb4⟩
    have z4 := hb4.size
    have hR4 := Lib.hid (hR3.out.below hb4 (by omega))
    have hX4 := Lib.hid (hX3'.out.below hb4 (Nat.le_refl _))
    replace hb4 := Lib.hid (hb3.out.trans (hb4.mono (by omega)))
    clear c4
    go_wp2_with fail
    refine (to_ints _ xs _ _ hR4.out (by omega) (by omega)).mono ?_
    rintro e w6 ⟨t, rfl, hT6, hb6⟩
    obtain ⟨ta, tc, rfl, _⟩ := id hT6
    have z6 := hb6.size
    have hX6 := Lib.hid (hX4.out.below hb6 (by omega))
    have hT6' := Lib.hid hT6.row
    replace hb6 := Lib.hid (hb4.out.trans (hb6.mono (by omega)))
    clear hT6
    go_wp2_with fail
    refine (eq_ints _ _ xs xs w6.heap.size _ (hX6.out.mono (by omega)) hT6'.out (by omega) (by omega)).mono ?_
    rintro e w' ⟨rfl, n7, rfl⟩
    rw [hsamx.out]
    go_wp2_with fail
    go_ret
    exact ⟨rfl, below_drewN hb6.out n7⟩
set_option maxHeartbeats 4000000 in
theorem law_MeetIn (n : Int) (v : Value) (xs : List Int) (w : World) (hx : Row w w.heap.size v xs) (hl : xs.length ≤ 9223372036854775807) (b : Bool)
    (hi : ∀ (W : World) (u : Value) (S : Nat), Row W S u xs → S ≤ W.heap.size → xs.length ≤ 100000000 → Calls Try.prog 25 #[.int .i64 n, u] W fun e w' => e = .returned (.bool b) ∧ Below W.heap.size W w')
    (hs : ∀ (W : World) (u : Value) (S : Nat), Row W S u xs → S ≤ W.heap.size → xs.length ≤ 100000000 → Calls Try.prog 24 #[.int .i64 n, u] W fun e w' => e = .returned (.bool b) ∧ Below W.heap.size W w') :
    Calls Try.prog 5 #[.int .i64 n, v] w fun e w' => e = .returned (.bool true) ∧ Below w.heap.size w w' := by
  have hx' := hx
  obtain ⟨a, cap, rfl, _⟩ := hx'
  by_cases hbig : 1048576 < xs.length
  · go_enter Try.func5, Try.ntmps5
    go_wp2_with fail
    go_ret
    exact ⟨rfl, Below.refl _ _⟩
  · have hl2 : xs.length ≤ 1048576 := by omega
    have hl3 : xs.length ≤ 100000000 := by omega
    have hR := Lib.hid hx
    replace hi := Lib.hid (fun W u S h1 h2 => hi W u S h1 h2 hl3)
    replace hs := Lib.hid (fun W u S h1 h2 => hs W u S h1 h2 hl3)
    have hbb : (b != b) = false := by simp
    have hsamx := Lib.hid (same_self xs)
    clear hx hbig
    go_enter Try.func5, Try.ntmps5
    go_wp2_with fail
    refine (to_ints _ xs _ _ hR.out (by omega) (Nat.le_refl _)).mono ?_
    rintro e w1 ⟨u, rfl, hu, hb1⟩
    obtain ⟨ua, uc, rfl, _⟩ := id hu
    have z1 := hb1.size
    have c2 := Lib.hid (hs.out _ _ _ hu.row (Nat.le_refl _))
    have hR1 := Lib.hid (hR.out.below hb1 (Nat.le_refl _))
    replace hb1 := Lib.hid hb1
    clear hu hs
    go_wp2_with fail
    refine c2.out.mono ?_
    rintro e w2 ⟨rfl, hb2⟩
    have z2 := hb2.size
    have hR2 := Lib.hid (hR1.out.below hb2 z1)
    replace hb2 := Lib.hid (hb1.out.trans (hb2.mono z1))
    clear c2
    go_wp2_with fail
    refine (to_ints _ xs _ _ hR2.out (by omega) (by omega)).mono ?_
    rintro e w3 ⟨x1, rfl, hX3, hb3⟩
    obtain ⟨xa, xc, rfl, _⟩ := id hX3
    have z3 : w2.heap.size ≤ w3.heap.size := hb3.size
    have c4 := Lib.hid (hi.out _ _ _ hX3.row (Nat.le_refl _))
    have hR3 := Lib.hid (hR2.out.below hb3 (by omega))
    have hX3' := Lib.hid hX3.row
    replace hb3 := Lib.hid (hb2.out.trans (hb3.mono (by omega)))
    clear hX3
    go_wp2_with fail
    refine c4.out.mono ?_
    rintro e w4 ⟨rfl, hb4⟩
    have z4 := hb4.size
    have hR4 := Lib.hid (hR3.out.below hb4 (by omega))
    have hX4 := Lib.hid (hX3'.out.below hb4 (Nat.le_refl _))
    replace hb4 := Lib.hid (hb3.out.trans (hb4.mono (by omega)))
    clear c4
    go_wp2_with fail
    refine (to_ints _ xs _ _ hR4.out (by omega) (by omega)).mono ?_
    rintro e w6 ⟨t, rfl, hT6, hb6⟩
    obtain ⟨ta, tc, rfl, _⟩ := id hT6
    have z6 := hb6.size
    have hX6 := Lib.hid (hX4.out.below hb6 (by omega))
    have hT6' := Lib.hid hT6.row
    replace hb6 := Lib.hid (hb4.out.trans (hb6.mono (by omega)))
    clear hT6
    go_wp2_with fail
    refine (eq_ints _ _ xs xs w6.heap.size _ (hX6.out.mono (by omega)) hT6'.out (by omega) (by omega)).mono ?_
    rintro e w' ⟨rfl, n7, rfl⟩
    rw [hsamx.out]
    go_wp2_with fail
    go_ret
    exact ⟨rfl, below_drewN hb6.out n7⟩
theorem Law_UnionOf (n : Int) (v : Value) (xs : List Int) (w : World) (hx : Row w w.heap.size v xs) (hl : xs.length ≤ 9223372036854775807) : Calls Try.prog 6 #[.int .i64 n, v] w fun e w' => e = .returned (.bool true) ∧ Below w.heap.size w w' :=
  law_UnionOf n v xs w hx hl _ _ (fun _ => ifL_len fun hf => by have := ucL_len semi_or (famB_all hf).2.2; omega) (fun W u S h1 h2 h3 => im_UnionOf n u xs S W h1 h2 h3) (fun W u S h1 h2 h3 => sp_UnionOf n u xs S W h1 h2 h3)
theorem Law_MeetOf (n : Int) (v : Value) (xs : List Int) (w : World) (hx : Row w w.heap.size v xs) (hl : xs.length ≤ 9223372036854775807) : Calls Try.prog 7 #[.int .i64 n, v] w fun e w' => e = .returned (.bool true) ∧ Below w.heap.size w w' :=
  law_MeetOf n v xs w hx hl _ _ (fun _ => ifL_len fun hf => by have := ucL_len semi_and (famB_all hf).2.2; omega) (fun W u S h1 h2 h3 => im_MeetOf n u xs S W h1 h2 h3) (fun W u S h1 h2 h3 => sp_MeetOf n u xs S W h1 h2 h3)
theorem Law_UnionPrimes (n : Int) (v : Value) (xs : List Int) (w : World) (hx : Row w w.heap.size v xs) (hl : xs.length ≤ 9223372036854775807) : Calls Try.prog 8 #[.int .i64 n, v] w fun e w' => e = .returned (.bool true) ∧ Below w.heap.size w w' :=
  law_UnionPrimes n v xs w hx hl _ _ (fun _ => ifL_len fun hf => by rw [Bool.and_eq_true] at hf; have := prim_len hf.1; omega) (fun W u S h1 h2 h3 => im_UnionPrimes n u xs S W h1 h2 h3) (fun W u S h1 h2 h3 => sp_UnionPrimes n u xs S W h1 h2 h3)
theorem Law_UnionIn (n : Int) (v : Value) (xs : List Int) (w : World) (hx : Row w w.heap.size v xs) (hl : xs.length ≤ 9223372036854775807) : Calls Try.prog 4 #[.int .i64 n, v] w fun e w' => e = .returned (.bool true) ∧ Below w.heap.size w w' :=
  law_UnionIn n v xs w hx hl _ (fun W u S h1 h2 h3 => im_UnionIn n u xs S W h1 h2 h3) (fun W u S h1 h2 h3 => sp_UnionIn n u xs S W h1 h2 h3)
theorem Law_MeetIn (n : Int) (v : Value) (xs : List Int) (w : World) (hx : Row w w.heap.size v xs) (hl : xs.length ≤ 9223372036854775807) : Calls Try.prog 5 #[.int .i64 n, v] w fun e w' => e = .returned (.bool true) ∧ Below w.heap.size w w' :=
  law_MeetIn n v xs w hx hl _ (fun W u S h1 h2 h3 => im_MeetIn n u xs S W h1 h2 h3) (fun W u S h1 h2 h3 => sp_MeetIn n u xs S W h1 h2 h3)
end Go.Proofs.Ythljimmhgpbmbaa
