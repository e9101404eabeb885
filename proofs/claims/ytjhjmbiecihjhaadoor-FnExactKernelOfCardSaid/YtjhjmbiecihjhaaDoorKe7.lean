/- KernelSame: the model; the exact laws of KernelOf and KernelSame. -/
import Derived.Test.YtjhjmbiecihjhaaDoorKe6
import Derived.Test.YtjhjmbiecihjhaaDoorLawTwo
namespace Go.Proofs.YtjhjmbiecihjhaaDoor
open Go.ChangeShapes Go.WideShapes Go.ChangeAt Go.RowKit Go.Proofs

/-- the kernels of the sets below k are the same. -/
def kersTo (n : Int) (xs zs : List Int) (k : Nat) : Bool := (List.range k).all fun (j : Nat) => kerI n xs j == kerI n zs j
theorem kersTo_zero (n : Int) (xs zs : List Int) : kersTo n xs zs 0 = true := rfl
theorem kersTo_succ (n : Int) (xs zs : List Int) (k : Nat) : kersTo n xs zs (k + 1) = (kersTo n xs zs k && (kerI n xs k == kerI n zs k)) := by
  unfold kersTo; rw [List.range_succ, List.all_append]; simp
theorem kersTo_no {n : Int} {xs zs : List Int} {k m : Nat} (h : (kerI n xs k == kerI n zs k) = false) (hm : k < m) : kersTo n xs zs m = false := by
  unfold kersTo
  rw [List.all_eq_false]
  exact ⟨k, List.mem_range.2 hm, by rw [h]; simp⟩
set_option maxHeartbeats 4000000 in
theorem sp_KernelSame (n : Int) (lv lu : Value) (xs zs : List Int) (S : Nat) (w : World) (hx : Row w S lv xs) (hy : Row w S lu zs) (_ : S ≤ w.heap.size) (hl : xs.length ≤ 100000000) (hm : zs.length ≤ 100000000) :
    Calls Tryd.prog 15 #[.int .i64 n, lv, lu] w fun e w' => e = .returned (.bool (ksaB n xs zs)) ∧ Below w.heap.size w w' := by
  have h1 := sp_both n lv lu xs zs S w hx hy (by omega) (by omega)
  have hx2 := Lib.hid hx
  have hy2 := Lib.hid hy
  obtain ⟨a, cap, rfl, _⟩ := id hx
  obtain ⟨b, cbp, rfl, _⟩ := id hy
  clear hx hy
  rcases (by cases (famB n xs && famB n zs) <;> simp : (famB n xs && famB n zs) = true ∨ (famB n xs && famB n zs) = false) with hB | hB
  · have hf : famB n xs = true := by simp at hB; exact hB.1
    have hg : famB n zs = true := by simp at hB; exact hB.2
    rw [hB] at h1
    obtain ⟨n1, n2, _⟩ := famB_all hf
    obtain ⟨p1, p2, _⟩ := pow_nat n1 n2
    obtain ⟨N, hN⟩ : ∃ N, 2 ^ n.toNat = N := ⟨_, rfl⟩
    have hNi : (2 : Int) ^ n.toNat = (N : Int) := by rw [← hN]; simp
    have hb : ksaB n xs zs = kersTo n xs zs N := by unfold ksaB kersB kersTo; rw [hB, Bool.true_and, hN]
    have hset : ∀ k : Nat, k < N → setB n (k : Int) = true := fun k hk => setB_mk ⟨n1, n2, by omega, by omega⟩
    have hk1 := fun (q k : Nat) (hk : k < N) => l9kernel n k _ xs S (w.drewN q) (hx2.out.drewN q) hf (hset k hk)
    have hk2 := fun (q k : Nat) (hk : k < N) => l9kernel n k _ zs S (w.drewN q) (hy2.out.drewN q) hg (hset k hk)
    have hz := kersTo_zero n xs zs
    have hsu := Lib.hid (kersTo_succ n xs zs)
    have hno := Lib.hid (fun k h => kersTo_no (n := n) (xs := xs) (zs := zs) (k := k) (m := N) h)
    rw [hb]
    rw [hN] at p1 p2
    replace hk1 := Lib.hid hk1
    replace hk2 := Lib.hid hk2
    replace h1 := Lib.hid h1
    replace hb := Lib.hid hb
    replace hB := Lib.hid hB
    replace hset := Lib.hid hset
    replace hf := Lib.hid hf
    replace hg := Lib.hid hg
    replace hN := Lib.hid hN
    have hn0 : (0 : Int) ≤ n := by omega
    have hn64 : n < 64 := by omega
    go_enter Tryd.func15, Tryd.ntmps15
    go_wp2_with fail
    refine h1.out.mono ?_
    rintro e w1 ⟨rfl, q, rfl⟩
    go_wp2_with fail
    go_loopw [7] (fun p wr => ∃ k : Nat, k ≤ N ∧ p = .int .i64 k ∧ wr = w.drewN q ∧ Hid (kersTo n xs zs k = true)) (fun p _ => N - (intOf p).toNat)
    case atStart => exact ⟨0, by omega, rfl, rfl, Lib.hid hz⟩
    case round =>
      obtain ⟨k, hk, rfl, rfl, ht⟩ := hrel
      by_cases hlk : k < N
      · have k1 : (0 : Int) ≤ (k : Int) := by omega
        have k2 : (k : Int) < (N : Nat) := by omega
        have c1 := Lib.hid (hk1.out q k hlk)
        have c2 := Lib.hid (hk2.out q k hlk)
        have hsk := Lib.hid (hsu.out k)
        have hnk := Lib.hid (hno.out k)
        obtain ⟨x, hx⟩ : ∃ x, kerI n xs k = x := ⟨_, rfl⟩
        obtain ⟨z, hzz⟩ : ∃ z, kerI n zs k = z := ⟨_, rfl⟩
        rw [hx] at c1 hsk hnk
        rw [hzz] at c2 hsk hnk
        replace hx := Lib.hid hx
        replace hzz := Lib.hid hzz
        rcases (by cases (x == z) <;> simp : (x == z) = true ∨ (x == z) = false) with hxz | hxz
        · have hxn : (x != z) = false := by rw [bne, hxz]; rfl
          rw [hxz, ht.out] at hsk
          have hsk2 := Lib.hid hsk.out
          clear hsk hnk
          replace hxz := Lib.hid hxz
          go_wp2_with fail
          refine c1.out.mono ?_
          rintro e w' ⟨rfl, rfl⟩
          go_wp2_with fail
          refine c2.out.mono ?_
          rintro e w' ⟨rfl, rfl⟩
          go_wp2_with fail
          go_roundw
          case rel => exact ⟨k + 1, by omega, by go_num, by first | rfl | trivial, Lib.hid hsk2.out⟩
          case measure => simp [intOf]; omega
        · have hxn : (x != z) = true := by rw [bne, hxz]; rfl
          have hf9 := Lib.hid (hnk.out hxz (by omega))
          clear hsk hnk
          replace hxz := Lib.hid hxz
          go_wp2_with fail
          refine c1.out.mono ?_
          rintro e w' ⟨rfl, rfl⟩
          go_wp2_with fail
          refine c2.out.mono ?_
          rintro e w' ⟨rfl, rfl⟩
          go_wp2_with fail
          go_ret
          exact ⟨ret_bool hf9.out.symm, below_drewN (Below.refl _ _) _⟩
      · obtain rfl : k = N := by omega
        go_wp2_with fail
        go_ret
        exact ⟨ret_bool ht.out.symm, below_drewN (Below.refl _ _) _⟩
  · have hb : ksaB n xs zs = false := by unfold ksaB; rw [hB, Bool.false_and]
    rw [hB] at h1
    rw [hb]
    replace h1 := Lib.hid h1
    replace hb := Lib.hid hb
    replace hB := Lib.hid hB
    go_enter Tryd.func15, Tryd.ntmps15
    go_wp2_with fail
    refine h1.out.mono ?_
    rintro e w1 ⟨rfl, q, rfl⟩
    go_wp2_with fail
    go_ret
    exact ⟨rfl, below_drewN (Below.refl _ _) _⟩
set_option maxHeartbeats 4000000 in
theorem law_KernelOf (n k : Int) (v : Value) (xs : List Int) (w : World) (hx : Row w w.heap.size v xs) (hl : xs.length ≤ 9223372036854775807) (c : Int) (b : Bool)
    (hi : ∀ (W : World) (u : Value) (S : Nat), Row W S u xs → S ≤ W.heap.size → xs.length ≤ 100000000 → Tab W → Calls Tryd.prog 14 #[.int .i64 n, u, .int .i64 k] W fun e w' => e = .returned (.tuple #[.int .i64 c, .bool b]) ∧ Below W.heap.size W w')
    (hs : ∀ (W : World) (u : Value) (S : Nat), Row W S u xs → S ≤ W.heap.size → xs.length ≤ 100000000 → Calls Tryd.prog 13 #[.int .i64 n, u, .int .i64 k] W fun e w' => e = .returned (.tuple #[.int .i64 c, .bool b]) ∧ Below W.heap.size W w') :
    Tab w → Calls Tryd.prog 4 #[.int .i64 n, v, .int .i64 k] w fun e w' => e = .returned (.bool true) ∧ Below w.heap.size w w' := by
  intro hT
  have hx' := hx
  obtain ⟨a, cap, rfl, _⟩ := hx'
  by_cases hbig : 1048576 < xs.length
  · go_enter Tryd.func4, Tryd.ntmps4
    go_wp2_with fail
    go_ret
    exact ⟨rfl, Below.refl _ _⟩
  · have hl2 : xs.length ≤ 1048576 := by omega
    have hl3 : xs.length ≤ 100000000 := by omega
    have hR := Lib.hid hx
    replace hi := Lib.hid (fun W u S h1 h2 h3 => hi W u S h1 h2 hl3 h3)
    replace hs := Lib.hid (fun W u S h1 h2 => hs W u S h1 h2 hl3)
    have hcc : (c != c) = false := by simp
    have hbb : (b != b) = false := by simp
    have hsamx := Lib.hid (same_self xs)
    clear hx hbig
    go_enter Tryd.func4, Tryd.ntmps4
    go_wp2_with fail
    refine (to_ints _ xs _ _ hR.out (by omega) (Nat.le_refl _)).mono ?_
    rintro e w1 ⟨u, rfl, hu, hb1⟩
    obtain ⟨ua, uc, rfl, _⟩ := id hu
    have z1 := hb1.size
    have c2 := Lib.hid (hs.out _ _ _ hu.row (Nat.le_refl _))
    have hR1 := Lib.hid (hR.out.below hb1 (Nat.le_refl _))
    replace hb1 := Lib.hid hb1
    clear hu hs
    go_wp2_with fail
    refine c2.out.mono ?_
    rintro e w2 ⟨rfl, hb2⟩
    have z2 := hb2.size
    have hR2 := Lib.hid (hR1.out.below hb2 z1)
    replace hb2 := Lib.hid (hb1.out.trans (hb2.mono z1))
    clear c2
    go_wp2_with fail
    refine (to_ints _ xs _ _ hR2.out (by omega) (by omega)).mono ?_
    rintro e w3 ⟨x1, rfl, hX3, hb3⟩
    obtain ⟨xa, xc, rfl, _⟩ := id hX3
    have z3 : w2.heap.size ≤ w3.heap.size := hb3.size
    have c4 := Lib.hid (hi.out _ _ _ hX3.row (Nat.le_refl _) (hT.below (hb2.out.trans (hb3.mono (by omega))) hT.lt))
    have hR3 := Lib.hid (hR2.out.below hb3 (by omega))
    have hX3' := Lib.hid hX3.row
    replace hb3 := Lib.hid (hb2.out.trans (hb3.mono (by omega)))
    clear hX3
    go_wp2_with fail
    refine c4.out.mono ?_
    rintro e w4 ⟨rfl, hb4⟩
    have z4 := hb4.size
    have hR4 := Lib.hid (hR3.out.below hb4 (by omega))
    have hX4 := Lib.hid (hX3'.out.below hb4 (Nat.le_refl _))
    replace hb4 := Lib.hid (hb3.out.trans (hb4.mono (by omega)))
    clear c4
    go_wp2_with fail
    refine (to_ints _ xs _ _ hR4.out (by omega) (by omega)).mono ?_
    rintro e w6 ⟨t, rfl, hT6, hb6⟩
    obtain ⟨ta, tc, rfl, _⟩ := id hT6
    have z6 := hb6.size
    have hX6 := Lib.hid (hX4.out.below hb6 (by omega))
    have hT6' := Lib.hid hT6.row
    replace hb6 := Lib.hid (hb4.out.trans (hb6.mono (by omega)))
    clear hT6
    go_wp2_with fail
    refine (eq_ints _ _ xs xs w6.heap.size _ (hX6.out.mono (by omega)) hT6'.out (by omega) (by omega)).mono ?_
    rintro e w' ⟨rfl, n7, rfl⟩
    rw [hsamx.out]
    go_wp2_with fail
    go_ret
    exact ⟨rfl, below_drewN hb6.out n7⟩
set_option maxHeartbeats 4000000 in
theorem law_KernelSame (n : Int) (v v2 : Value) (xs zs : List Int) (w : World) (hx : Row w w.heap.size v xs) (hy : Row w w.heap.size v2 zs) (hl : xs.length ≤ 9223372036854775807) (hm : zs.length ≤ 9223372036854775807) (b : Bool)
    (hi : ∀ (W : World) (u u2 : Value) (S : Nat), Row W S u xs → Row W S u2 zs → S ≤ W.heap.size → xs.length ≤ 100000000 → zs.length ≤ 100000000 → Tab W → Calls Tryd.prog 16 #[.int .i64 n, u, u2] W fun e w' => e = .returned (.bool b) ∧ Below W.heap.size W w')
    (hs : ∀ (W : World) (u u2 : Value) (S : Nat), Row W S u xs → Row W S u2 zs → S ≤ W.heap.size → xs.length ≤ 100000000 → zs.length ≤ 100000000 → Calls Tryd.prog 15 #[.int .i64 n, u, u2] W fun e w' => e = .returned (.bool b) ∧ Below W.heap.size W w') :
    Tab w → Calls Tryd.prog 5 #[.int .i64 n, v, v2] w fun e w' => e = .returned (.bool true) ∧ Below w.heap.size w w' := by
  intro hT
  have hx' := hx
  obtain ⟨a, cap, rfl, _⟩ := hx'
  have hy' := hy
  obtain ⟨a9, cap9, rfl, _⟩ := hy'
  by_cases hbig : 1048576 < xs.length
  · go_enter Tryd.func5, Tryd.ntmps5
    go_wp2_with fail
    go_ret
    exact ⟨rfl, Below.refl _ _⟩
  by_cases hbig2 : 1048576 < zs.length
  · have hnb : xs.length ≤ 1048576 := by omega
    clear hbig
    go_enter Tryd.func5, Tryd.ntmps5
    go_wp2_with fail
    go_ret
    exact ⟨rfl, Below.refl _ _⟩
  · have hm2 : zs.length ≤ 1048576 := by omega
    have hm3 : zs.length ≤ 100000000 := by omega
    have hl2 : xs.length ≤ 1048576 := by omega
    have hl3 : xs.length ≤ 100000000 := by omega
    have hR := Lib.hid hx
    have hY := Lib.hid hy
    replace hi := Lib.hid (fun W u u2 S h1 h2 h3 h4 => hi W u u2 S h1 h2 h3 hl3 hm3 h4)
    replace hs := Lib.hid (fun W u u2 S h1 h2 h3 => hs W u u2 S h1 h2 h3 hl3 hm3)
    have hbb : (b != b) = false := by simp
    have hsamx := Lib.hid (same_self xs)
    have hsamz := Lib.hid (same_self zs)
    clear hx hy hbig hbig2
    go_enter Tryd.func5, Tryd.ntmps5
    go_wp2_with fail
    refine (to_ints _ xs _ _ hR.out (by omega) (Nat.le_refl _)).mono ?_
    rintro e w1 ⟨u, rfl, hu, hb1⟩
    obtain ⟨ua, uc, rfl, _⟩ := id hu
    have z1 := hb1.size
    have hR1 := Lib.hid (hR.out.below hb1 (Nat.le_refl _))
    have hY1 := Lib.hid (hY.out.below hb1 (Nat.le_refl _))
    have hu1 := Lib.hid hu.row
    replace hb1 := Lib.hid hb1
    clear hu
    go_wp2_with fail
    refine (to_ints _ zs _ _ hY1.out (by omega) (by omega)).mono ?_
    rintro e w1 ⟨u2, rfl, hu, hb1'⟩
    obtain ⟨ub, ud, rfl, _⟩ := id hu
    have z1' := hb1'.size
    have z0 := z1
    replace z1 := Nat.le_trans z1 z1'
    have c2 := Lib.hid (hs.out _ _ _ _ ((hu1.out.below hb1' (Nat.le_refl _)).mono z1') hu.row (Nat.le_refl _))
    replace hR1 := Lib.hid (hR1.out.below hb1' (by omega))
    replace hY1 := Lib.hid (hY1.out.below hb1' (by omega))
    replace hb1 := Lib.hid (hb1.out.trans (hb1'.mono (by omega)))
    clear hu hs hb1' hu1
    go_wp2_with fail
    refine c2.out.mono ?_
    rintro e w2 ⟨rfl, hb2⟩
    have z2 := hb2.size
    have hR2 := Lib.hid (hR1.out.below hb2 z1)
    have hY2 := Lib.hid (hY1.out.below hb2 z1)
    replace hb2 := Lib.hid (hb1.out.trans (hb2.mono z1))
    clear c2
    go_wp2_with fail
    refine (to_ints _ xs _ _ hR2.out (by omega) (by omega)).mono ?_
    rintro e w3 ⟨x1, rfl, hX3, hb3⟩
    obtain ⟨xa, xc, rfl, _⟩ := id hX3
    have z3 : w2.heap.size ≤ w3.heap.size := hb3.size
    have hR3 := Lib.hid (hR2.out.below hb3 (by omega))
    have hY3 := Lib.hid (hY2.out.below hb3 (by omega))
    replace hX3 := Lib.hid hX3.row
    replace hb3 := Lib.hid (hb2.out.trans (hb3.mono (by omega)))
    go_wp2_with fail
    refine (to_ints _ zs _ _ hY3.out (by omega) (by omega)).mono ?_
    rintro e w4 ⟨x2, rfl, hX4, hb4⟩
    obtain ⟨ya, yc, rfl, _⟩ := id hX4
    have z4 : w3.heap.size ≤ w4.heap.size := hb4.size
    have hR4 := Lib.hid (hR3.out.below hb4 (by omega))
    have hY4 := Lib.hid (hY3.out.below hb4 (by omega))
    replace hX3 := Lib.hid ((hX3.out.below hb4 (Nat.le_refl _)).mono z4)
    replace hX4 := Lib.hid hX4.row
    replace hb4 := Lib.hid (hb3.out.trans (hb4.mono (by omega)))
    have c5 := Lib.hid (hi.out _ _ _ _ hX3.out hX4.out (Nat.le_refl _) (hT.below hb4.out hT.lt))
    go_wp2_with fail
    refine c5.out.mono ?_
    rintro e w5 ⟨rfl, hb5⟩
    have z5 := hb5.size
    have hR5 := Lib.hid (hR4.out.below hb5 (by omega))
    have hY5 := Lib.hid (hY4.out.below hb5 (by omega))
    replace hX3 := Lib.hid (hX3.out.below hb5 (Nat.le_refl _))
    replace hX4 := Lib.hid (hX4.out.below hb5 (Nat.le_refl _))
    replace hb5 := Lib.hid (hb4.out.trans (hb5.mono (by omega)))
    clear c5 hi
    go_wp2_with fail
    refine (to_ints _ xs _ _ hR5.out (by omega) (by omega)).mono ?_
    rintro e w6 ⟨t, rfl, hT6, hb6⟩
    obtain ⟨ta, tc, rfl, _⟩ := id hT6
    have z6 : w5.heap.size ≤ w6.heap.size := hb6.size
    have hY6 := Lib.hid (hY5.out.below hb6 (by omega))
    have hX6 := Lib.hid (hX3.out.below hb6 (by omega))
    replace hX4 := Lib.hid (hX4.out.below hb6 (by omega))
    have hT6' := Lib.hid hT6.row
    replace hb6 := Lib.hid (hb5.out.trans (hb6.mono (by omega)))
    clear hT6
    go_wp2_with fail
    refine (eq_ints _ _ xs xs w6.heap.size _ (hX6.out.mono (by omega)) hT6'.out (by omega) (by omega)).mono ?_
    rintro e w' ⟨rfl, n7, rfl⟩
    rw [hsamx.out]
    go_wp2_with fail
    refine (to_ints _ zs _ _ (hY6.out.drewN n7) (by omega) (show w.heap.size ≤ w6.heap.size by omega)).mono ?_
    rintro e w8 ⟨t2, rfl, hT8, hb8⟩
    obtain ⟨tb, td, rfl, _⟩ := id hT8
    have z8 : w6.heap.size ≤ w8.heap.size := hb8.size
    have hX8 := Lib.hid ((hX4.out.drewN n7).below hb8 (show w4.heap.size ≤ w6.heap.size by omega))
    have hT8' := Lib.hid hT8.row
    replace hb8 := Lib.hid ((below_drewN hb6.out n7).trans (hb8.mono (show w.heap.size ≤ w6.heap.size by omega)))
    clear hT8
    go_wp2_with fail
    refine (eq_ints _ _ zs zs w8.heap.size _ (hX8.out.mono (by omega)) hT8'.out (by omega) (by omega)).mono ?_
    rintro e w' ⟨rfl, n9, rfl⟩
    rw [hsamz.out]
    go_wp2_with fail
    go_ret
    exact ⟨rfl, below_drewN hb8.out n9⟩
theorem Law_KernelOf (n s : Int) (v : Value) (xs : List Int) (w : World) (hx : Row w w.heap.size v xs) (hl : xs.length ≤ 9223372036854775807) (hT : Tab w) : Calls Tryd.prog 4 #[.int .i64 n, v, .int .i64 s] w fun e w' => e = .returned (.bool true) ∧ Below w.heap.size w w' :=
  law_KernelOf n s v xs w hx hl _ _ (fun W u S h1 h2 h3 h4 => im_KernelOf n s u xs S W h1 h2 h3 h4) (fun W u S h1 h2 h3 => sp_KernelOf n s u xs S W h1 h2 h3) hT
theorem Law_KernelSame (n : Int) (v v2 : Value) (xs zs : List Int) (w : World) (hx : Row w w.heap.size v xs) (hy : Row w w.heap.size v2 zs) (hl : xs.length ≤ 9223372036854775807) (hm : zs.length ≤ 9223372036854775807) (hT : Tab w) :
    Calls Tryd.prog 5 #[.int .i64 n, v, v2] w fun e w' => e = .returned (.bool true) ∧ Below w.heap.size w w' :=
  law_KernelSame n v v2 xs zs w hx hy hl hm _ (fun W u u2 S h1 h2 h3 h4 h5 h6 => im_KernelSame n u u2 xs zs S W h1 h2 h3 h4 h5 h6) (fun W u u2 S h1 h2 h3 h4 h5 => sp_KernelSame n u u2 xs zs S W h1 h2 h3 h4 h5) hT
end Go.Proofs.YtjhjmbiecihjhaaDoor
