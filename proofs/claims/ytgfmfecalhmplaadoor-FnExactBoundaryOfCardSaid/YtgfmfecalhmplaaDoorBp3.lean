/- BoundaryOf: the program's and the model's function, the law. -/
import Derived.Test.YtgfmfecalhmplaaDoorBp2
import Derived.Test.YtgfmfecalhmplaaDoorFLaws
namespace Go.Proofs.YtgfmfecalhmplaaDoor
open Go.ChangeShapes Go.WideShapes Go.ChangeAt Go.RowKit Go.Proofs Go.Shelf Go.Maps

set_option maxRecDepth 100000 in
set_option maxHeartbeats 1000000 in
theorem bd_map (n : Int) (Bn : Nat) (xs : List Int) (w : World) (hB : Bn < w.heap.size) (hc : w.cell? ⟨Bn, 0, none⟩ = some (.int .i64 n)) (hT : Tab w) (hf : famB n xs = true) :
    FamMapR w.heap.size 41 #[] #[.pointer (some ⟨Bn, 0, none⟩)] xs (bdL n xs) w := fun W lv hb hx => by
  have hBW : Bn < W.heap.size := by have := hb.size; omega
  have hcW : W.cell? ⟨Bn, 0, none⟩ = some (.int .i64 n) := (hb.cell (p := ⟨Bn, 0, none⟩) hB).trans hc
  have htl := hT.lt
  have hzW := hb.size
  obtain ⟨a, cap, rfl, _⟩ := id hx
  have hbw := ((Below.refl W.heap.size W).alloc (Nat.le_refl _) (.cells #[.slice a xs.length cap, (Value.func (.func 71) #[] #[])] 46)).alloc (by simp) (.cells #[.slice none 0 0, .nilFunc] 46)
  have hk := boundary_fam n xs (.slice a xs.length cap) ((W.alloc (.cells #[.slice a xs.length cap, (Value.func (.func 71) #[] #[])] 46)).alloc (.cells #[.slice none 0 0, .nilFunc] 46)) hf ((hx.below hbw (Nat.le_refl _)).mono (by simp; omega)) ((hT.below hb htl).below hbw (by omega))
  have hn1 := new_cell2 W #[.slice a xs.length cap, (Value.func (.func 71) #[] #[])] 46 (.cells #[.slice none 0 0, .nilFunc] 46)
  have hnew := new_cell1 W #[.slice none 0 0, .nilFunc] 46 (.cells #[.slice a xs.length cap, (Value.func (.func 71) #[] #[])] 46)
  obtain ⟨W3, hW3⟩ : ∃ W3, (W.alloc (.cells #[.slice a xs.length cap, (Value.func (.func 71) #[] #[])] 46)).alloc (.cells #[.slice none 0 0, .nilFunc] 46) = W3 := ⟨_, rfl⟩
  have hz3 : W3.heap.size = W.heap.size + 2 := by rw [← hW3]; simp
  rw [hW3] at hk hbw hn1 hnew
  obtain ⟨g0, g1⟩ := pair_cells hn1 (Below.refl (W.heap.size + 2) W3) (by omega)
  have hcW3 : W3.cell? ⟨Bn, 0, none⟩ = some (.int .i64 n) := (hbw.cell (p := ⟨Bn, 0, none⟩) hBW).trans hcW
  obtain ⟨ys, hys⟩ : ∃ ys, bdL n xs = ys := ⟨_, rfl⟩
  rw [hys] at hk ⊢
  have r0 := hcW3
  have r1 := g0
  have r2 := g1
  rw [← hW3] at r0 r1 r2
  replace hk := Lib.hid hk
  replace hys := Lib.hid hys
  replace hb := Lib.hid hb
  replace hf := Lib.hid hf
  replace hbw := Lib.hid hbw
  replace hW3 := Lib.hid hW3
  replace hz3 := Lib.hid hz3
  replace hnew := Lib.hid hnew
  clear hx hcW hn1
  show Calls Tryd.prog 41 #[.agg #[.slice a xs.length cap, (Value.func (.func 71) #[] #[])], .pointer (some ⟨Bn, 0, none⟩)] W _
  go_enter Tryd.func41, Tryd.ntmps41
  go_wp2_with fail
  rw [hW3.out]
  refine hk.out.mono ?_
  rintro e w2 ⟨v, rfl, hS2, hb2⟩
  have hz2 := hb2.size
  rw [hz3.out] at hS2 hb2 hz2
  obtain ⟨a', c', rfl⟩ := hS2.form
  obtain ⟨d0, d1, df0, df1⟩ := res_cells hnew.out (hb2.mono (by omega))
  have rr := two_cells (.slice a' ys.length c') (Value.func (.func 71) #[] #[]) d0 d1
  have hff := Lib.hid (fam_fin (w := W) (h := W.heap.size + 1) (hS2.mono (by omega)) (hbw.out.trans (hb2.mono (by omega))) (by omega))
  clear hS2 hb2 hk
  go_wp2_with fail
  exact bodyPost_ret (v := .agg #[.slice a' ys.length c', (Value.func (.func 71) #[] #[])]) (by simp [results, Tryd.results41, go_sem, rr.1, rr.2]) rfl ⟨_, rfl, hff.out.1.row, hff.out.2.mono hzW, hff.out.2.size⟩
set_option maxRecDepth 100000 in
set_option maxHeartbeats 1000000 in
theorem im_BoundaryOf (n : Int) (lv : Value) (xs : List Int) (S : Nat) (w : World) (hx : Row w S lv xs) (hS : S ≤ w.heap.size) (hl : xs.length ≤ 100000000) (hT : Tab w) :
    Calls Tryd.prog 18 #[.int .i64 n, lv] w (ListPost (ifL (famB n xs) (bdL n xs)) (famB n xs) w) := by
  have htl := hT.lt
  have hbw := (Below.refl w.heap.size w).alloc (Nat.le_refl _) (.cells #[.int .i64 n] 3)
  have hk := Lib.hid (made_any (w.heap.size + 1) 41 (enters_of Tryd.func41 (by kernel_rfl) rfl) #[] #[.pointer (some ⟨w.heap.size, 0, none⟩)] n lv xs (bdL n xs) S (w.alloc (.cells #[.int .i64 n] 3)) (by simp) (hx.below hbw hS) (by simp; omega) hl
    (fun hf => ⟨by
      have := bd_map n w.heap.size xs (w.alloc (.cells #[.int .i64 n] 3)) (by simp) (cell_new _ _ _) (hT.below hbw htl) hf
      rw [World.size_alloc] at this; exact this, bdL_lt hf, by
      have := asc_len256 (asc_sortL ((nbL n xs).filter (fun x => !memB x xs))) (bdL_lt hf)
      unfold bdL; omega⟩))
  have hmf := mkfunc
  replace hbw := Lib.hid hbw
  obtain ⟨la, lc, rfl, _⟩ := id hx
  clear hx
  go_enter Tryd.func18, Tryd.ntmps18
  go_wp2_with fail
  refine hk.out.mono ?_
  rintro e w2 ⟨v, rfl, hO, hb2⟩
  obtain ⟨ua, uc, rfl, _⟩ := id hO
  replace hO := Lib.hid (hO.mono (show w.heap.size ≤ w.heap.size + 1 by omega) (Nat.le_refl _))
  replace hb2 := Lib.hid (hbw.out.trans (hb2.mono (by omega)))
  go_wp2_with fail
  go_ret2
  exact ⟨_, rfl, hO.out, hb2.out⟩
set_option maxRecDepth 100000 in
set_option maxHeartbeats 1000000 in
theorem sp_BoundaryOf (n : Int) (lv : Value) (xs : List Int) (S : Nat) (w : World) (hx : Row w S lv xs) (hS : S ≤ w.heap.size) (hl : xs.length ≤ 100000000) :
    Calls Tryd.prog 16 #[.int .i64 n, lv] w (ListPost (ifL (famB n xs) (bdL n xs)) (famB n xs) w) := by
  have h1 := sp_FamilyIn n lv xs S w hx (by omega)
  obtain ⟨a, cap, rfl, ha⟩ := id hx
  rcases (by cases famB n xs <;> simp : famB n xs = true ∨ famB n xs = false) with hf | hf
  · have hed := fun q : Nat => sp_boundary n _ xs S (w.drewN q) (hx.drewN q) hS hf
    rw [hf] at h1 ⊢
    show Calls Tryd.prog 16 #[.int .i64 n, .slice a xs.length cap] w (ListPost (bdL n xs) true w)
    obtain ⟨ys, hys⟩ : ∃ ys, bdL n xs = ys := ⟨_, rfl⟩
    rw [hys] at hed ⊢
    replace hys := Lib.hid hys
    replace h1 := Lib.hid h1
    replace hf := Lib.hid hf
    replace hed := Lib.hid hed
    clear hx ha
    go_enter Tryd.func16, Tryd.ntmps16
    go_wp2_with fail
    refine h1.out.mono ?_
    rintro e w1 ⟨rfl, q0, rfl⟩
    go_wp2_with fail
    refine (hed.out q0).mono ?_
    rintro e w2 ⟨v, rfl, hO, hb⟩
    obtain ⟨a', c', rfl⟩ := hO.form
    replace hO := Lib.hid hO.own
    replace hb := Lib.hid ((below_drewN (Below.refl w.heap.size w) q0).trans hb)
    go_wp2_with fail
    go_ret2
    exact ⟨_, rfl, hO.out, hb.out⟩
  · rw [hf] at h1 ⊢
    replace h1 := Lib.hid h1
    replace hf := Lib.hid hf
    clear hx ha
    go_enter Tryd.func16, Tryd.ntmps16
    go_wp2_with fail
    refine h1.out.mono ?_
    rintro e w1 ⟨rfl, q0, rfl⟩
    go_wp2_with fail
    go_ret2
    exact ⟨_, rfl, own_empty0 _ _ _ _ _, ((below_drewN (Below.refl _ w) q0).alloc (Nat.le_refl _) _)⟩
set_option maxHeartbeats 4000000 in
theorem law_BoundaryOf (n : Int) (v : Value) (xs : List Int) (w : World) (hx : Row w w.heap.size v xs) (hl : xs.length ≤ 9223372036854775807) (L : List Int) (b : Bool) (hL : xs.length ≤ 1048576 → L.length ≤ 1000000)
    (hi : ∀ (W : World) (u : Value) (S : Nat), Row W S u xs → S ≤ W.heap.size → xs.length ≤ 100000000 → Tab W → Calls Tryd.prog 18 #[.int .i64 n, u] W (ListPost L b W))
    (hs : ∀ (W : World) (u : Value) (S : Nat), Row W S u xs → S ≤ W.heap.size → xs.length ≤ 100000000 → Calls Tryd.prog 16 #[.int .i64 n, u] W (ListPost L b W)) :
    Tab w → Calls Tryd.prog 4 #[.int .i64 n, v] w fun e w' => e = .returned (.bool true) ∧ Below w.heap.size w w' := by
  intro hT
  have hx' := hx
  obtain ⟨a, cap, rfl, _⟩ := hx'
  by_cases hbig : 1048576 < xs.length
  · go_enter Tryd.func4, Tryd.ntmps4
    go_wp2_with fail
    go_ret
    exact ⟨rfl, Below.refl _ _⟩
  · have hl2 : xs.length ≤ 1048576 := by omega
    have hLL := hL hl2
    have hl3 : xs.length ≤ 100000000 := by omega
    have hR := Lib.hid hx
    replace hi := Lib.hid (fun W u S h1 h2 h3 => hi W u S h1 h2 hl3 h3)
    replace hs := Lib.hid (fun W u S h1 h2 => hs W u S h1 h2 hl3)
    have hbb : (b != b) = false := by simp
    have hsame := Lib.hid (same_self L)
    have hsamx := Lib.hid (same_self xs)
    clear hx hbig hL
    go_enter Tryd.func4, Tryd.ntmps4
    go_wp2_with fail
    refine (to_ints _ xs _ _ hR.out (by omega) (Nat.le_refl _)).mono ?_
    rintro e w1 ⟨u, rfl, hu, hb1⟩
    obtain ⟨ua, uc, rfl, _⟩ := id hu
    have z1 := hb1.size
    have c2 := Lib.hid (hs.out _ _ _ hu.row (Nat.le_refl _))
    have hR1 := Lib.hid (hR.out.below hb1 (Nat.le_refl _))
    replace hb1 := Lib.hid hb1
    clear hu hs
    go_wp2_with fail
    refine c2.out.mono ?_
    rintro e w2 ⟨v0, rfl, hO0, hb2⟩
    obtain ⟨a0, c0, rfl, _⟩ := id hO0
    have z2 := hb2.size
    have hR2 := Lib.hid (hR1.out.below hb2 z1)
    replace hO0 := Lib.hid hO0
    replace hb2 := Lib.hid (hb1.out.trans (hb2.mono z1))
    clear c2
    go_wp2_with fail
    refine (to_ints _ xs _ _ hR2.out (by omega) (by omega)).mono ?_
    rintro e w3 ⟨x1, rfl, hX3, hb3⟩
    obtain ⟨xa, xc, rfl, _⟩ := id hX3
    have z3 := hb3.size
    have c4 := Lib.hid (hi.out _ _ _ hX3.row (Nat.le_refl _) (hT.below (hb2.out.trans (hb3.mono (by omega))) hT.lt))
    have hR3 := Lib.hid (hR2.out.below hb3 (by omega))
    have hO3 := Lib.hid (hO0.out.below hb3 (Nat.le_refl _))
    replace hX3 := Lib.hid hX3
    replace hb3 := Lib.hid (hb2.out.trans (hb3.mono (by omega)))
    clear hO0
    go_wp2_with fail
    refine c4.out.mono ?_
    rintro e w4 ⟨g0, rfl, hG4, hb4⟩
    obtain ⟨ga, gc, rfl, _⟩ := id hG4
    have z4 := hb4.size
    have hR4 := Lib.hid (hR3.out.below hb4 (by omega))
    have hO4 := Lib.hid (hO3.out.below hb4 (by omega))
    have hX4 := Lib.hid (hX3.out.below hb4 (Nat.le_refl _))
    replace hG4 := Lib.hid hG4
    replace hb4 := Lib.hid (hb3.out.trans (hb4.mono (by omega)))
    clear c4 hO3 hX3 hR1 hR2 hR3
    go_wp2_with fail
    refine (eq_ints _ _ L L w4.heap.size _ (hG4.out.row.mono (Nat.le_refl _)) (hO4.out.row.mono (by omega)) (by omega) (by omega)).mono ?_
    rintro e w' ⟨rfl, n5, rfl⟩
    rw [hsame.out]
    go_wp2_with fail
    refine (to_ints _ xs _ _ (hR4.out.drewN n5) (by omega) (show w.heap.size ≤ w4.heap.size by omega)).mono ?_
    rintro e w6 ⟨t, rfl, hT6, hb6⟩
    obtain ⟨ta, tc, rfl, _⟩ := id hT6
    have z6 : w4.heap.size ≤ w6.heap.size := hb6.size
    have hb6' : Below w4.heap.size w4 w6 := (below_drewN (Below.refl w4.heap.size w4) n5).trans hb6
    have hR6 := Lib.hid (hR4.out.below hb6' (by omega))
    have hO6 := Lib.hid (hO4.out.below hb6' (by omega))
    have hX6 := Lib.hid (hX4.out.below hb6' (by omega))
    have hG6 := Lib.hid (hG4.out.below hb6' (Nat.le_refl _))
    have hT6' := Lib.hid hT6.row
    replace hb6 := Lib.hid (hb4.out.trans (hb6'.mono (by omega)))
    clear hT6 hb6' hO4 hX4 hG4 hR4
    go_wp2_with fail
    refine (eq_ints _ _ xs xs w6.heap.size _ (hX6.out.row.mono (by omega)) hT6'.out (by omega) (by omega)).mono ?_
    rintro e w' ⟨rfl, n7, rfl⟩
    rw [hsamx.out]
    go_wp2_with fail
    refine (mark_up _ xs 1 w2.heap.size w3.heap.size _ (hX6.out.drewN n7) (by omega) (by omega) (by omega)).mono ?_
    rintro e w8 ⟨rfl, _, hb8, hk8⟩
    have z8 : w6.heap.size ≤ w8.heap.size := hb8.size
    have hR8 := Lib.hid ((hR6.out.drewN n7).below hb8 (by omega))
    have hO8 := Lib.hid ((hO6.out.drewN n7).below hb8 (Nat.le_refl _))
    have hG8 := Lib.hid ((hG6.out.drewN n7).up hk8 (Nat.le_refl _))
    replace hb8 := Lib.hid ((below_drewN hb6.out n7).trans (hb8.mono (by omega)))
    have hq1 : (0 : Int) ≤ 1 + (xs.length : Nat) := by omega
    clear hk8 hO6 hG6 hX6 hR6 hT6'
    go_wp2_with fail
    refine (eq_ints _ _ L L w8.heap.size _ (hG8.out.row.mono (by omega)) (hO8.out.row.mono (by omega)) (by omega) (by omega)).mono ?_
    rintro e w' ⟨rfl, n9, rfl⟩
    rw [hsame.out]
    go_wp2_with fail
    refine (mark_ints _ L 1 _ _ _ (hG8.out.drewN n9) (by omega) (by omega) (by omega)).mono ?_
    rintro e w10 ⟨rfl, hG10, hb10⟩
    have z10 : w8.heap.size ≤ w10.heap.size := hb10.size
    have hlen : (marks 1 L.length).length ≤ 1000000 := by rw [marks_len]; exact hLL
    have hR10 := Lib.hid ((hR8.out.drewN n9).below hb10 (by omega))
    have hO10 := Lib.hid ((hO8.out.drewN n9).below hb10 (by omega))
    replace hG10 := Lib.hid hG10
    replace hb10 := Lib.hid ((below_drewN hb8.out n9).trans (hb10.mono (by omega)))
    clear hG8 hO8 hR8
    go_wp2_with fail
    refine (held_ints _ (marks 1 L.length) 1 _ _ (by have := hG10.out.row; exact this) (by omega) (by omega) (by omega)).mono ?_
    rintro e w' ⟨rfl, rfl⟩
    rw [heldV_marks]
    have hq : (0 : Int) ≤ 1 + (L.length : Nat) := by omega
    have hqq : ((1 : Int) + (L.length : Nat) != 1 + (L.length : Nat)) = false := by simp
    go_wp2_with fail
    refine (to_ints _ xs _ _ hR10.out (by omega) (by omega)).mono ?_
    rintro e w11 ⟨x2, rfl, hX11, hb11⟩
    obtain ⟨ya, yc, rfl, _⟩ := id hX11
    have z11 := hb11.size
    have c12 := Lib.hid (hi.out _ _ _ hX11.row (Nat.le_refl _) (hT.below (hb10.out.trans (hb11.mono (by omega))) hT.lt))
    have hO11 := Lib.hid (hO10.out.below hb11 (by omega))
    have hG11 := Lib.hid (hG10.out.below hb11 (by omega))
    replace hb11 := Lib.hid (hb10.out.trans (hb11.mono (by omega)))
    clear hX11 hO10 hG10 hR10 hi
    go_wp2_with fail
    refine c12.out.mono ?_
    rintro e w12 ⟨h0, rfl, hH12, hb12⟩
    obtain ⟨ha, hc, rfl, _⟩ := id hH12
    have z12 := hb12.size
    have hO12 := Lib.hid (hO11.out.below hb12 (by omega))
    have hG12 := Lib.hid (hG11.out.below hb12 (by omega))
    replace hH12 := Lib.hid hH12
    replace hb12 := Lib.hid (hb11.out.trans (hb12.mono (by omega)))
    clear c12 hO11 hG11
    go_wp2_with fail
    refine (eq_ints _ _ L L w12.heap.size _ (hH12.out.row.mono (Nat.le_refl _)) (hO12.out.row.mono (by omega)) (by omega) (by omega)).mono ?_
    rintro e w' ⟨rfl, n13, rfl⟩
    rw [hsame.out]
    go_wp2_with fail
    refine (held_ints _ (marks 1 L.length) 1 _ _ ((hG12.out.drewN n13).row) (by omega) (by omega) (by omega)).mono ?_
    rintro e w' ⟨rfl, rfl⟩
    rw [heldV_marks]
    go_wp2_with fail
    go_ret
    exact ⟨rfl, below_drewN hb12.out n13⟩

theorem Law_BoundaryOf (n : Int) (v : Value) (xs : List Int) (w : World) (hx : Row w w.heap.size v xs) (hl : xs.length ≤ 9223372036854775807) (hT : Tab w) : Calls Tryd.prog 4 #[.int .i64 n, v] w fun e w' => e = .returned (.bool true) ∧ Below w.heap.size w w' :=
  law_BoundaryOf n v xs w hx hl _ _ (fun _ => by
    rcases (by cases famB n xs <;> simp : famB n xs = true ∨ famB n xs = false) with hf | hf
    · rw [hf]
      have := asc_len256 (asc_sortL ((nbL n xs).filter (fun x => !memB x xs))) (bdL_lt hf)
      show (bdL n xs).length ≤ 1000000
      unfold bdL; omega
    · rw [hf]; simp [ifL]) (fun W u S h1 h2 h3 h4 => im_BoundaryOf n u xs S W h1 h2 h3 h4) (fun W u S h1 h2 h3 => sp_BoundaryOf n u xs S W h1 h2 h3) hT
end Go.Proofs.YtgfmfecalhmplaaDoor
