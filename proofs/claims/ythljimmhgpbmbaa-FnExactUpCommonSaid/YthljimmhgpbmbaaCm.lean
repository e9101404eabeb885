/- UpCommon, the program's and the model's. -/
import Derived.Test.YthljimmhgpbmbaaFams13
import Derived.Test.YthljimmhgpbmbaaAllSp
import Derived.Test.YthljimmhgpbmbaaLawTwo
namespace Go.Proofs.Ythljimmhgpbmbaa
open Go.ChangeShapes Go.WideShapes Go.ChangeAt Go.RowKit Go.Proofs

/-- the number of the common sets times all sets, less the product of both numbers. -/
def comI (n : Int) (xs zs : List Int) : Int := if (famB n xs && famB n zs) then ((sortL (xs.filter (fun x => memB x zs))).length : Int) * 2 ^ n.toNat - (xs.length : Int) * (zs.length : Int) else 0
theorem wrap_diff {A B : Nat} (h1 : A ≤ 256 * 256) (h2 : B ≤ 256 * 256) : wrap64 (wrap64 (A : Int) - wrap64 (B : Int)) = (A : Int) - (B : Int) := by
  unfold wrap64
  omega
set_option maxHeartbeats 2000000 in
theorem im_UpCommon (n : Int) (lv lu : Value) (xs zs : List Int) (S : Nat) (w : World) (hx : Row w S lv xs) (hy : Row w S lu zs) (hS : S ≤ w.heap.size) (hl : xs.length ≤ 100000000) (hl2 : zs.length ≤ 100000000) :
    Calls Try.prog 36 #[.int .i64 n, lv, lu] w fun e w' => e = .returned (.tuple #[.int .i64 (comI n xs zs), .bool (famB n xs && famB n zs)]) ∧ Below w.heap.size w w' := by
  have h1 := im_FamilyCommon n lv lu xs zs S w hx hy hS hl hl2
  obtain ⟨a, cap, rfl, _⟩ := id hx
  obtain ⟨b, cbp, rfl, _⟩ := id hy
  rcases (by cases (famB n xs && famB n zs) <;> simp : (famB n xs && famB n zs) = true ∨ (famB n xs && famB n zs) = false) with hB | hB
  · have hB2 := hB
    rw [Bool.and_eq_true] at hB2
    obtain ⟨n1, n2, _⟩ := famB_all hB2.1
    have l1 := famB_len hB2.1
    have l2 := famB_len hB2.2
    have hcl : (sortL (xs.filter (fun x => memB x zs))).length ≤ 256 := asc_len256 (asc_sortL _) (fun z hz => famB_lt hB2.1 z (List.mem_filter.1 (mem_sortL.1 hz)).1)
    have hci : comI n xs zs = ((sortL (xs.filter (fun x => memB x zs))).length : Int) * 2 ^ n.toNat - (xs.length : Int) * (zs.length : Int) := by unfold comI; rw [hB]; rfl
    rw [hB, show ifL true (sortL (xs.filter (fun x => memB x zs))) = sortL (xs.filter (fun x => memB x zs)) from rfl] at h1
    rw [hci, hB]
    obtain ⟨ys, hys⟩ : ∃ ys, sortL (xs.filter (fun x => memB x zs)) = ys := ⟨_, rfl⟩
    rw [hys] at h1 hcl ⊢
    obtain ⟨p1, p2, p3⟩ := pow_nat n1 n2
    obtain ⟨N, hN⟩ : ∃ N : Nat, 2 ^ n.toNat = N := ⟨_, rfl⟩
    have hNi : (2 : Int) ^ n.toNat = (N : Nat) := by rw [← hN]; simp
    rw [hN] at p1 p2
    rw [hNi]
    have q1 : ys.length * N ≤ 256 * 256 := Nat.mul_le_mul hcl p1
    have q2 : xs.length * zs.length ≤ 256 * 256 := Nat.mul_le_mul l1 l2
    have q3 : ((ys.length : Int)) * (N : Int) = ((ys.length * N : Nat) : Int) := by simp
    have q4 : ((xs.length : Int)) * (zs.length : Int) = ((xs.length * zs.length : Nat) : Int) := by simp
    have hv : wrap64 (wrap64 ((ys.length : Int) * 2 ^ n.toNat) - wrap64 ((xs.length : Int) * (zs.length : Int))) = (ys.length : Int) * (N : Int) - (xs.length : Int) * (zs.length : Int) := by
      rw [hNi, q3, q4]
      exact wrap_diff q1 q2
    have hn0 : (0 : Int) ≤ n := by omega
    have hn64 : n < 64 := by omega
    replace h1 := Lib.hid h1
    replace hys := Lib.hid hys
    replace hN := Lib.hid hN
    replace hNi := Lib.hid hNi
    replace hB := Lib.hid hB
    replace hv := Lib.hid hv
    clear hB2 hci p3 hx hy q1 q2 q3 q4
    go_enter Try.func36, Try.ntmps36
    go_wp2_with fail
    refine h1.out.mono ?_
    rintro e w1 ⟨v, rfl, hO, hb⟩
    obtain ⟨ua, uc, rfl, _⟩ := id hO
    replace hb := Lib.hid hb
    clear h1 hO
    go_wp2_with fail
    go_ret2
    exact ⟨by rw [← hv.out]; rfl, hb.out⟩
  · have hci : comI n xs zs = 0 := by unfold comI; rw [hB]; rfl
    rw [hB] at h1
    rw [hci, hB]
    replace h1 := Lib.hid h1
    replace hB := Lib.hid hB
    clear hx hy
    go_enter Try.func36, Try.ntmps36
    go_wp2_with fail
    refine h1.out.mono ?_
    rintro e w1 ⟨v, rfl, hO, hb⟩
    obtain ⟨ua, uc, rfl, _⟩ := id hO
    replace hb := Lib.hid hb
    clear h1 hO
    go_wp2_with fail
    go_ret2
    exact ⟨rfl, hb.out⟩
set_option maxHeartbeats 2000000 in
theorem sp_UpCommon (n : Int) (lv lu : Value) (xs zs : List Int) (S : Nat) (w : World) (hx : Row w S lv xs) (hy : Row w S lu zs) (hS : S ≤ w.heap.size) (hl : xs.length ≤ 100000000) (hl2 : zs.length ≤ 100000000) :
    Calls Try.prog 35 #[.int .i64 n, lv, lu] w fun e w' => e = .returned (.tuple #[.int .i64 (comI n xs zs), .bool (famB n xs && famB n zs)]) ∧ Below w.heap.size w w' := by
  have h1 := sp_FamilyCommon n lv lu xs zs S w hx hy hS hl hl2
  obtain ⟨a, cap, rfl, _⟩ := id hx
  obtain ⟨b, cbp, rfl, _⟩ := id hy
  rcases (by cases (famB n xs && famB n zs) <;> simp : (famB n xs && famB n zs) = true ∨ (famB n xs && famB n zs) = false) with hB | hB
  · have hB2 := hB
    rw [Bool.and_eq_true] at hB2
    obtain ⟨n1, n2, _⟩ := famB_all hB2.1
    have l1 := famB_len hB2.1
    have l2 := famB_len hB2.2
    have hcl : (sortL (xs.filter (fun x => memB x zs))).length ≤ 256 := asc_len256 (asc_sortL _) (fun z hz => famB_lt hB2.1 z (List.mem_filter.1 (mem_sortL.1 hz)).1)
    have hci : comI n xs zs = ((sortL (xs.filter (fun x => memB x zs))).length : Int) * 2 ^ n.toNat - (xs.length : Int) * (zs.length : Int) := by unfold comI; rw [hB]; rfl
    rw [hB, show ifL true (sortL (xs.filter (fun x => memB x zs))) = sortL (xs.filter (fun x => memB x zs)) from rfl] at h1
    rw [hci, hB]
    obtain ⟨ys, hys⟩ : ∃ ys, sortL (xs.filter (fun x => memB x zs)) = ys := ⟨_, rfl⟩
    rw [hys] at h1 hcl ⊢
    obtain ⟨p1, p2, p3⟩ := pow_nat n1 n2
    obtain ⟨N, hN⟩ : ∃ N : Nat, 2 ^ n.toNat = N := ⟨_, rfl⟩
    have hNi : (2 : Int) ^ n.toNat = (N : Nat) := by rw [← hN]; simp
    rw [hN] at p1 p2
    rw [hNi]
    have q1 : ys.length * N ≤ 256 * 256 := Nat.mul_le_mul hcl p1
    have q2 : xs.length * zs.length ≤ 256 * 256 := Nat.mul_le_mul l1 l2
    have q3 : ((ys.length : Int)) * (N : Int) = ((ys.length * N : Nat) : Int) := by simp
    have q4 : ((xs.length : Int)) * (zs.length : Int) = ((xs.length * zs.length : Nat) : Int) := by simp
    have hv : wrap64 (wrap64 ((ys.length : Int) * 2 ^ n.toNat) - wrap64 ((xs.length : Int) * (zs.length : Int))) = (ys.length : Int) * (N : Int) - (xs.length : Int) * (zs.length : Int) := by
      rw [hNi, q3, q4]
      exact wrap_diff q1 q2
    have hn0 : (0 : Int) ≤ n := by omega
    have hn64 : n < 64 := by omega
    replace h1 := Lib.hid h1
    replace hys := Lib.hid hys
    replace hN := Lib.hid hN
    replace hNi := Lib.hid hNi
    replace hB := Lib.hid hB
    replace hv := Lib.hid hv
    clear hB2 hci p3 hx hy q1 q2 q3 q4
    go_enter Try.func35, Try.ntmps35
    go_wp2_with fail
    refine h1.out.mono ?_
    rintro e w1 ⟨v, rfl, hO, hb⟩
    obtain ⟨ua, uc, rfl, _⟩ := id hO
    replace hb := Lib.hid hb
    clear h1 hO
    go_wp2_with fail
    go_ret2
    exact ⟨by rw [← hv.out]; rfl, hb.out⟩
  · have hci : comI n xs zs = 0 := by unfold comI; rw [hB]; rfl
    rw [hB] at h1
    rw [hci, hB]
    replace h1 := Lib.hid h1
    replace hB := Lib.hid hB
    clear hx hy
    go_enter Try.func35, Try.ntmps35
    go_wp2_with fail
    refine h1.out.mono ?_
    rintro e w1 ⟨v, rfl, hO, hb⟩
    obtain ⟨ua, uc, rfl, _⟩ := id hO
    replace hb := Lib.hid hb
    clear h1 hO
    go_wp2_with fail
    go_ret2
    exact ⟨rfl, hb.out⟩
set_option maxHeartbeats 4000000 in
theorem law_UpCommon (n : Int) (v v2 : Value) (xs zs : List Int) (w : World) (hx : Row w w.heap.size v xs) (hy : Row w w.heap.size v2 zs) (hl : xs.length ≤ 9223372036854775807) (hm : zs.length ≤ 9223372036854775807) (c : Int) (b : Bool)
    (hi : ∀ (W : World) (u u2 : Value) (S : Nat), Row W S u xs → Row W S u2 zs → S ≤ W.heap.size → xs.length ≤ 100000000 → zs.length ≤ 100000000 → Calls Try.prog 36 #[.int .i64 n, u, u2] W fun e w' => e = .returned (.tuple #[.int .i64 c, .bool b]) ∧ Below W.heap.size W w')
    (hs : ∀ (W : World) (u u2 : Value) (S : Nat), Row W S u xs → Row W S u2 zs → S ≤ W.heap.size → xs.length ≤ 100000000 → zs.length ≤ 100000000 → Calls Try.prog 35 #[.int .i64 n, u, u2] W fun e w' => e = .returned (.tuple #[.int .i64 c, .bool b]) ∧ Below W.heap.size W w') :
    Calls Try.prog 11 #[.int .i64 n, v, v2] w fun e w' => e = .returned (.bool true) ∧ Below w.heap.size w w' := by
  have hx' := hx
  obtain ⟨a, cap, rfl, _⟩ := hx'
  have hy' := hy
  obtain ⟨a9, cap9, rfl, _⟩ := hy'
  by_cases hbig : 1048576 < xs.length
  · go_enter Try.func11, Try.ntmps11
    go_wp2_with fail
    go_ret
    exact ⟨rfl, Below.refl _ _⟩
  by_cases hbig2 : 1048576 < zs.length
  · have hnb : xs.length ≤ 1048576 := by omega
    clear hbig
    go_enter Try.func11, Try.ntmps11
    go_wp2_with fail
    go_ret
    exact ⟨rfl, Below.refl _ _⟩
  · have hm2 : zs.length ≤ 1048576 := by omega
    have hm3 : zs.length ≤ 100000000 := by omega
    have hl2 : xs.length ≤ 1048576 := by omega
    have hl3 : xs.length ≤ 100000000 := by omega
    have hR := Lib.hid hx
    have hY := Lib.hid hy
    replace hi := Lib.hid (fun W u u2 S h1 h2 h3 => hi W u u2 S h1 h2 h3 hl3 hm3)
    replace hs := Lib.hid (fun W u u2 S h1 h2 h3 => hs W u u2 S h1 h2 h3 hl3 hm3)
    have hcc : (c != c) = false := by simp
    have hbb : (b != b) = false := by simp
    have hsamx := Lib.hid (same_self xs)
    have hsamz := Lib.hid (same_self zs)
    clear hx hy hbig hbig2
    go_enter Try.func11, Try.ntmps11
    go_wp2_with fail
    refine (to_ints _ xs _ _ hR.out (by omega) (Nat.le_refl _)).mono ?_
    rintro e w1 ⟨u, rfl, hu, hb1⟩
    obtain ⟨ua, uc, rfl, _⟩ := id hu
    have z1 := hb1.size
    have hR1 := Lib.hid (hR.out.below hb1 (Nat.le_refl _))
    have hY1 := Lib.hid (hY.out.below hb1 (Nat.le_refl _))
    have hu1 := Lib.hid hu.row
    replace hb1 := Lib.hid hb1
    clear hu
    go_wp2_with fail
    refine (to_ints _ zs _ _ hY1.out (by omega) (by omega)).mono ?_
    rintro e w1 ⟨u2, rfl, hu, hb1'⟩
    obtain ⟨ub, ud, rfl, _⟩ := id hu
    have z1' := hb1'.size
    have z0 := z1
    replace z1 := Nat.le_trans z1 z1'
    have c2 := Lib.hid (hs.out _ _ _ _ ((hu1.out.below hb1' (Nat.le_refl _)).mono z1') hu.row (Nat.le_refl _))
    replace hR1 := Lib.hid (hR1.out.below hb1' (by omega))
    replace hY1 := Lib.hid (hY1.out.below hb1' (by omega))
    replace hb1 := Lib.hid (hb1.out.trans (hb1'.mono (by omega)))
    clear hu hs hb1' hu1
    go_wp2_with fail
    refine c2.out.mono ?_
    rintro e w2 ⟨rfl, hb2⟩
    have z2 := hb2.size
    have hR2 := Lib.hid (hR1.out.below hb2 z1)
    have hY2 := Lib.hid (hY1.out.below hb2 z1)
    replace hb2 := Lib.hid (hb1.out.trans (hb2.mono z1))
    clear c2
    go_wp2_with fail
    refine (to_ints _ xs _ _ hR2.out (by omega) (by omega)).mono ?_
    rintro e w3 ⟨x1, rfl, hX3, hb3⟩
    obtain ⟨xa, xc, rfl, _⟩ := id hX3
    have z3 : w2.heap.size ≤ w3.heap.size := hb3.size
    have hR3 := Lib.hid (hR2.out.below hb3 (by omega))
    have hY3 := Lib.hid (hY2.out.below hb3 (by omega))
    replace hX3 := Lib.hid hX3.row
    replace hb3 := Lib.hid (hb2.out.trans (hb3.mono (by omega)))
    go_wp2_with fail
    refine (to_ints _ zs _ _ hY3.out (by omega) (by omega)).mono ?_
    rintro e w4 ⟨x2, rfl, hX4, hb4⟩
    obtain ⟨ya, yc, rfl, _⟩ := id hX4
    have z4 : w3.heap.size ≤ w4.heap.size := hb4.size
    have hR4 := Lib.hid (hR3.out.below hb4 (by omega))
    have hY4 := Lib.hid (hY3.out.below hb4 (by omega))
    replace hX3 := Lib.hid ((hX3.out.below hb4 (Nat.le_refl _)).mono z4)
    replace hX4 := Lib.hid hX4.row
    replace hb4 := Lib.hid (hb3.out.trans (hb4.mono (by omega)))
    have c5 := Lib.hid (hi.out _ _ _ _ hX3.out hX4.out (Nat.le_refl _))
    go_wp2_with fail
    refine c5.out.mono ?_
    rintro e w5 ⟨rfl, hb5⟩
    have z5 := hb5.size
    have hR5 := Lib.hid (hR4.out.below hb5 (by omega))
    have hY5 := Lib.hid (hY4.out.below hb5 (by omega))
    replace hX3 := Lib.hid (hX3.out.below hb5 (Nat.le_refl _))
    replace hX4 := Lib.hid (hX4.out.below hb5 (Nat.le_refl _))
    replace hb5 := Lib.hid (hb4.out.trans (hb5.mono (by omega)))
    clear c5 hi
    go_wp2_with fail
    refine (to_ints _ xs _ _ hR5.out (by omega) (by omega)).mono ?_
    rintro e w6 ⟨t, rfl, hT6, hb6⟩
    obtain ⟨ta, tc, rfl, _⟩ := id hT6
    have z6 : w5.heap.size ≤ w6.heap.size := hb6.size
    have hY6 := Lib.hid (hY5.out.below hb6 (by omega))
    have hX6 := Lib.hid (hX3.out.below hb6 (by omega))
    replace hX4 := Lib.hid (hX4.out.below hb6 (by omega))
    have hT6' := Lib.hid hT6.row
    replace hb6 := Lib.hid (hb5.out.trans (hb6.mono (by omega)))
    clear hT6
    go_wp2_with fail
    refine (eq_ints _ _ xs xs w6.heap.size _ (hX6.out.mono (by omega)) hT6'.out (by omega) (by omega)).mono ?_
    rintro e w' ⟨rfl, n7, rfl⟩
    rw [hsamx.out]
    go_wp2_with fail
    refine (to_ints _ zs _ _ (hY6.out.drewN n7) (by omega) (show w.heap.size ≤ w6.heap.size by omega)).mono ?_
    rintro e w8 ⟨t2, rfl, hT8, hb8⟩
    obtain ⟨tb, td, rfl, _⟩ := id hT8
    have z8 : w6.heap.size ≤ w8.heap.size := hb8.size
    have hX8 := Lib.hid ((hX4.out.drewN n7).below hb8 (show w4.heap.size ≤ w6.heap.size by omega))
    have hT8' := Lib.hid hT8.row
    replace hb8 := Lib.hid ((below_drewN hb6.out n7).trans (hb8.mono (show w.heap.size ≤ w6.heap.size by omega)))
    clear hT8
    go_wp2_with fail
    refine (eq_ints _ _ zs zs w8.heap.size _ (hX8.out.mono (by omega)) hT8'.out (by omega) (by omega)).mono ?_
    rintro e w' ⟨rfl, n9, rfl⟩
    rw [hsamz.out]
    go_wp2_with fail
    go_ret
    exact ⟨rfl, below_drewN hb8.out n9⟩
theorem Law_UpCommon (n : Int) (v v2 : Value) (xs zs : List Int) (w : World) (hx : Row w w.heap.size v xs) (hy : Row w w.heap.size v2 zs) (hl : xs.length ≤ 9223372036854775807) (hm : zs.length ≤ 9223372036854775807) :
    Calls Try.prog 11 #[.int .i64 n, v, v2] w fun e w' => e = .returned (.bool true) ∧ Below w.heap.size w w' :=
  law_UpCommon n v v2 xs zs w hx hy hl hm _ _ (fun W u u2 S h1 h2 h3 h4 h5 => im_UpCommon n u u2 xs zs S W h1 h2 h3 h4 h5) (fun W u u2 S h1 h2 h3 h4 h5 => sp_UpCommon n u u2 xs zs S W h1 h2 h3 h4 h5)
end Go.Proofs.Ythljimmhgpbmbaa
