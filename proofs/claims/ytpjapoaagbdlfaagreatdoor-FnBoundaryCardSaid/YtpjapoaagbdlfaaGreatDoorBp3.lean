/- BoundaryOf: the program's and the model's function, the law. -/
import Derived.Test.YtpjapoaagbdlfaaGreatDoorBp2
import Derived.Test.YtpjapoaagbdlfaaGreatDoorFLaws
namespace Go.Proofs.YtpjapoaagbdlfaaGreatDoor
open Go.ChangeShapes Go.WideShapes Go.ChangeAt Go.RowKit Go.Proofs Go.Shelf Go.Maps

set_option maxRecDepth 100000 in
set_option maxHeartbeats 1000000 in
theorem bd_map (n : Int) (Bn : Nat) (xs : List Int) (w : World) (hB : Bn < w.heap.size) (hc : w.cell? ⟨Bn, 0, none⟩ = some (.int .i64 n)) (hT : Tab w) (hf : famB n xs = true) :
    FamMapR w.heap.size 42 #[] #[.pointer (some ⟨Bn, 0, none⟩)] xs (bdL n xs) w := fun W lv hb hx => by
  have hBW : Bn < W.heap.size := by have := hb.size; omega
  have hcW : W.cell? ⟨Bn, 0, none⟩ = some (.int .i64 n) := (hb.cell (p := ⟨Bn, 0, none⟩) hB).trans hc
  have htl := hT.lt
  have hzW := hb.size
  obtain ⟨a, cap, rfl, _⟩ := id hx
  have hbw := ((Below.refl W.heap.size W).alloc (Nat.le_refl _) (.cells #[.slice a xs.length cap, (Value.func (.func 57) #[] #[])] 44)).alloc (by simp) (.cells #[.slice none 0 0, .nilFunc] 44)
  have hk := boundary_fam n xs (.slice a xs.length cap) ((W.alloc (.cells #[.slice a xs.length cap, (Value.func (.func 57) #[] #[])] 44)).alloc (.cells #[.slice none 0 0, .nilFunc] 44)) hf ((hx.below hbw (Nat.le_refl _)).mono (by simp; omega)) ((hT.below hb htl).below hbw (by omega))
  have hn1 := new_cell2 W #[.slice a xs.length cap, (Value.func (.func 57) #[] #[])] 44 (.cells #[.slice none 0 0, .nilFunc] 44)
  have hnew := new_cell1 W #[.slice none 0 0, .nilFunc] 44 (.cells #[.slice a xs.length cap, (Value.func (.func 57) #[] #[])] 44)
  obtain ⟨W3, hW3⟩ : ∃ W3, (W.alloc (.cells #[.slice a xs.length cap, (Value.func (.func 57) #[] #[])] 44)).alloc (.cells #[.slice none 0 0, .nilFunc] 44) = W3 := ⟨_, rfl⟩
  have hz3 : W3.heap.size = W.heap.size + 2 := by rw [← hW3]; simp
  rw [hW3] at hk hbw hn1 hnew
  obtain ⟨g0, g1⟩ := pair_cells hn1 (Below.refl (W.heap.size + 2) W3) (by omega)
  have hcW3 : W3.cell? ⟨Bn, 0, none⟩ = some (.int .i64 n) := (hbw.cell (p := ⟨Bn, 0, none⟩) hBW).trans hcW
  obtain ⟨ys, hys⟩ : ∃ ys, bdL n xs = ys := ⟨_, rfl⟩
  rw [hys] at hk ⊢
  have r0 := hcW3
  have r1 := g0
  have r2 := g1
  rw [← hW3] at r0 r1 r2
  replace hk := Lib.hid hk
  replace hys := Lib.hid hys
  replace hb := Lib.hid hb
  replace hf := Lib.hid hf
  replace hbw := Lib.hid hbw
  replace hW3 := Lib.hid hW3
  replace hz3 := Lib.hid hz3
  replace hnew := Lib.hid hnew
  clear hx hcW hn1
  show Calls Tryz.prog 42 #[.agg #[.slice a xs.length cap, (Value.func (.func 57) #[] #[])], .pointer (some ⟨Bn, 0, none⟩)] W _
  go_enter Tryz.func42, Tryz.ntmps42
  go_wp2_with fail
  rw [hW3.out]
  refine hk.out.mono ?_
  rintro e w2 ⟨v, rfl, hS2, hb2⟩
  have hz2 := hb2.size
  rw [hz3.out] at hS2 hb2 hz2
  obtain ⟨a', c', rfl⟩ := hS2.form
  obtain ⟨d0, d1, df0, df1⟩ := res_cells hnew.out (hb2.mono (by omega))
  have rr := two_cells (.slice a' ys.length c') (Value.func (.func 57) #[] #[]) d0 d1
  have hff := Lib.hid (fam_fin (w := W) (h := W.heap.size + 1) (hS2.mono (by omega)) (hbw.out.trans (hb2.mono (by omega))) (by omega))
  clear hS2 hb2 hk
  go_wp2_with fail
  exact bodyPost_ret (v := .agg #[.slice a' ys.length c', (Value.func (.func 57) #[] #[])]) (by simp [results, Tryz.results42, go_sem, rr.1, rr.2]) rfl ⟨_, rfl, hff.out.1.row, hff.out.2.mono hzW, hff.out.2.size⟩
set_option maxRecDepth 100000 in
set_option maxHeartbeats 1000000 in
theorem im_BoundaryOf (n : Int) (lv : Value) (xs : List Int) (S : Nat) (w : World) (hx : Row w S lv xs) (hS : S ≤ w.heap.size) (hl : xs.length ≤ 100000000) (hT : Tab w) :
    Calls Tryz.prog 17 #[.int .i64 n, lv] w (ListPost (ifL (famB n xs) (bdL n xs)) (famB n xs) w) := by
  have htl := hT.lt
  have hbw := (Below.refl w.heap.size w).alloc (Nat.le_refl _) (.cells #[.int .i64 n] 3)
  have hk := Lib.hid (made_any (w.heap.size + 1) 42 (enters_of Tryz.func42 (by kernel_rfl) rfl) #[] #[.pointer (some ⟨w.heap.size, 0, none⟩)] n lv xs (bdL n xs) S (w.alloc (.cells #[.int .i64 n] 3)) (by simp) (hx.below hbw hS) (by simp; omega) hl
    (fun hf => ⟨by
      have := bd_map n w.heap.size xs (w.alloc (.cells #[.int .i64 n] 3)) (by simp) (cell_new _ _ _) (hT.below hbw htl) hf
      rw [World.size_alloc] at this; exact this, bdL_lt hf, by
      have := asc_len256 (asc_sortL ((nbL n xs).filter (fun x => !memB x xs))) (bdL_lt hf)
      unfold bdL; omega⟩))
  have hmf := mkfunc
  replace hbw := Lib.hid hbw
  obtain ⟨la, lc, rfl, _⟩ := id hx
  clear hx
  go_enter Tryz.func17, Tryz.ntmps17
  go_wp2_with fail
  refine hk.out.mono ?_
  rintro e w2 ⟨v, rfl, hO, hb2⟩
  obtain ⟨ua, uc, rfl, _⟩ := id hO
  replace hO := Lib.hid (hO.mono (show w.heap.size ≤ w.heap.size + 1 by omega) (Nat.le_refl _))
  replace hb2 := Lib.hid (hbw.out.trans (hb2.mono (by omega)))
  go_wp2_with fail
  go_ret2
  exact ⟨_, rfl, hO.out, hb2.out⟩
set_option maxRecDepth 100000 in
set_option maxHeartbeats 1000000 in
theorem sp_BoundaryOf (n : Int) (lv : Value) (xs : List Int) (S : Nat) (w : World) (hx : Row w S lv xs) (hS : S ≤ w.heap.size) (hl : xs.length ≤ 100000000) :
    Calls Tryz.prog 18 #[.int .i64 n, lv] w (ListPost (ifL (famB n xs) (bdL n xs)) (famB n xs) w) := by
  have h1 := sp_FamilyIn n lv xs S w hx (by omega)
  obtain ⟨a, cap, rfl, ha⟩ := id hx
  rcases (by cases famB n xs <;> simp : famB n xs = true ∨ famB n xs = false) with hf | hf
  · have hed := fun q : Nat => sp_boundary n _ xs S (w.drewN q) (hx.drewN q) hS hf
    rw [hf] at h1 ⊢
    show Calls Tryz.prog 18 #[.int .i64 n, .slice a xs.length cap] w (ListPost (bdL n xs) true w)
    obtain ⟨ys, hys⟩ : ∃ ys, bdL n xs = ys := ⟨_, rfl⟩
    rw [hys] at hed ⊢
    replace hys := Lib.hid hys
    replace h1 := Lib.hid h1
    replace hf := Lib.hid hf
    replace hed := Lib.hid hed
    clear hx ha
    go_enter Tryz.func18, Tryz.ntmps18
    go_wp2_with fail
    refine h1.out.mono ?_
    rintro e w1 ⟨rfl, q0, rfl⟩
    go_wp2_with fail
    refine (hed.out q0).mono ?_
    rintro e w2 ⟨v, rfl, hO, hb⟩
    obtain ⟨a', c', rfl⟩ := hO.form
    replace hO := Lib.hid hO.own
    replace hb := Lib.hid ((below_drewN (Below.refl w.heap.size w) q0).trans hb)
    go_wp2_with fail
    go_ret2
    exact ⟨_, rfl, hO.out, hb.out⟩
  · rw [hf] at h1 ⊢
    replace h1 := Lib.hid h1
    replace hf := Lib.hid hf
    clear hx ha
    go_enter Tryz.func18, Tryz.ntmps18
    go_wp2_with fail
    refine h1.out.mono ?_
    rintro e w1 ⟨rfl, q0, rfl⟩
    go_wp2_with fail
    go_ret2
    exact ⟨_, rfl, own_empty0 _ _ _ _ _, ((below_drewN (Below.refl _ w) q0).alloc (Nat.le_refl _) _)⟩
end Go.Proofs.YtpjapoaagbdlfaaGreatDoor
