/- BoundaryOf: the program's and the model's function, the law. -/
import Derived.Test.YtpepcjffolbdcaaDoorBp2
import Derived.Test.YtpepcjffolbdcaaDoorFLaws
namespace Go.Proofs.YtpepcjffolbdcaaDoor
open Go.ChangeShapes Go.WideShapes Go.ChangeAt Go.RowKit Go.Proofs Go.Shelf Go.Maps

set_option maxRecDepth 100000 in
set_option maxHeartbeats 1000000 in
theorem bd_map (n : Int) (Bn : Nat) (xs : List Int) (w : World) (hB : Bn < w.heap.size) (hc : w.cell? ⟨Bn, 0, none⟩ = some (.int .i64 n)) (hT : Tab w) (hf : famB n xs = true) :
    FamMapR w.heap.size 66 #[] #[.pointer (some ⟨Bn, 0, none⟩)] xs (bdL n xs) w := fun W lv hb hx => by
  have hBW : Bn < W.heap.size := by have := hb.size; omega
  have hcW : W.cell? ⟨Bn, 0, none⟩ = some (.int .i64 n) := (hb.cell (p := ⟨Bn, 0, none⟩) hB).trans hc
  have htl := hT.lt
  have hzW := hb.size
  obtain ⟨a, cap, rfl, _⟩ := id hx
  have hbw := ((Below.refl W.heap.size W).alloc (Nat.le_refl _) (.cells #[.slice a xs.length cap, (Value.func (.func 115) #[] #[])] 46)).alloc (by simp) (.cells #[.slice none 0 0, .nilFunc] 46)
  have hk := boundary_fam n xs (.slice a xs.length cap) ((W.alloc (.cells #[.slice a xs.length cap, (Value.func (.func 115) #[] #[])] 46)).alloc (.cells #[.slice none 0 0, .nilFunc] 46)) hf ((hx.below hbw (Nat.le_refl _)).mono (by simp; omega)) ((hT.below hb htl).below hbw (by omega))
  have hn1 := new_cell2 W #[.slice a xs.length cap, (Value.func (.func 115) #[] #[])] 46 (.cells #[.slice none 0 0, .nilFunc] 46)
  have hnew := new_cell1 W #[.slice none 0 0, .nilFunc] 46 (.cells #[.slice a xs.length cap, (Value.func (.func 115) #[] #[])] 46)
  obtain ⟨W3, hW3⟩ : ∃ W3, (W.alloc (.cells #[.slice a xs.length cap, (Value.func (.func 115) #[] #[])] 46)).alloc (.cells #[.slice none 0 0, .nilFunc] 46) = W3 := ⟨_, rfl⟩
  have hz3 : W3.heap.size = W.heap.size + 2 := by rw [← hW3]; simp
  rw [hW3] at hk hbw hn1 hnew
  obtain ⟨g0, g1⟩ := pair_cells hn1 (Below.refl (W.heap.size + 2) W3) (by omega)
  have hcW3 : W3.cell? ⟨Bn, 0, none⟩ = some (.int .i64 n) := (hbw.cell (p := ⟨Bn, 0, none⟩) hBW).trans hcW
  obtain ⟨ys, hys⟩ : ∃ ys, bdL n xs = ys := ⟨_, rfl⟩
  rw [hys] at hk ⊢
  have r0 := hcW3
  have r1 := g0
  have r2 := g1
  rw [← hW3] at r0 r1 r2
  replace hk := Lib.hid hk
  replace hys := Lib.hid hys
  replace hb := Lib.hid hb
  replace hf := Lib.hid hf
  replace hbw := Lib.hid hbw
  replace hW3 := Lib.hid hW3
  replace hz3 := Lib.hid hz3
  replace hnew := Lib.hid hnew
  clear hx hcW hn1
  show Calls Tryd.prog 66 #[.agg #[.slice a xs.length cap, (Value.func (.func 115) #[] #[])], .pointer (some ⟨Bn, 0, none⟩)] W _
  go_enter Tryd.func66, Tryd.ntmps66
  go_wp2_with fail
  rw [hW3.out]
  refine hk.out.mono ?_
  rintro e w2 ⟨v, rfl, hS2, hb2⟩
  have hz2 := hb2.size
  rw [hz3.out] at hS2 hb2 hz2
  obtain ⟨a', c', rfl⟩ := hS2.form
  obtain ⟨d0, d1, df0, df1⟩ := res_cells hnew.out (hb2.mono (by omega))
  have rr := two_cells (.slice a' ys.length c') (Value.func (.func 115) #[] #[]) d0 d1
  have hff := Lib.hid (fam_fin (w := W) (h := W.heap.size + 1) (hS2.mono (by omega)) (hbw.out.trans (hb2.mono (by omega))) (by omega))
  clear hS2 hb2 hk
  go_wp2_with fail
  exact bodyPost_ret (v := .agg #[.slice a' ys.length c', (Value.func (.func 115) #[] #[])]) (by simp [results, Tryd.results66, go_sem, rr.1, rr.2]) rfl ⟨_, rfl, hff.out.1.row, hff.out.2.mono hzW, hff.out.2.size⟩
set_option maxRecDepth 100000 in
set_option maxHeartbeats 1000000 in
theorem im_BoundaryOf (n : Int) (lv : Value) (xs : List Int) (S : Nat) (w : World) (hx : Row w S lv xs) (hS : S ≤ w.heap.size) (hl : xs.length ≤ 100000000) (hT : Tab w) :
    Calls Tryd.prog 26 #[.int .i64 n, lv] w (ListPost (ifL (famB n xs) (bdL n xs)) (famB n xs) w) := by
  have htl := hT.lt
  have hbw := (Below.refl w.heap.size w).alloc (Nat.le_refl _) (.cells #[.int .i64 n] 3)
  have hk := Lib.hid (made_any (w.heap.size + 1) 66 (enters_of Tryd.func66 (by kernel_rfl) rfl) #[] #[.pointer (some ⟨w.heap.size, 0, none⟩)] n lv xs (bdL n xs) S (w.alloc (.cells #[.int .i64 n] 3)) (by simp) (hx.below hbw hS) (by simp; omega) hl
    (fun hf => ⟨by
      have := bd_map n w.heap.size xs (w.alloc (.cells #[.int .i64 n] 3)) (by simp) (cell_new _ _ _) (hT.below hbw htl) hf
      rw [World.size_alloc] at this; exact this, bdL_lt hf, by
      have := asc_len256 (asc_sortL ((nbL n xs).filter (fun x => !memB x xs))) (bdL_lt hf)
      unfold bdL; omega⟩))
  have hmf := mkfunc
  replace hbw := Lib.hid hbw
  obtain ⟨la, lc, rfl, _⟩ := id hx
  clear hx
  go_enter Tryd.func26, Tryd.ntmps26
  go_wp2_with fail
  refine hk.out.mono ?_
  rintro e w2 ⟨v, rfl, hO, hb2⟩
  obtain ⟨ua, uc, rfl, _⟩ := id hO
  replace hO := Lib.hid (hO.mono (show w.heap.size ≤ w.heap.size + 1 by omega) (Nat.le_refl _))
  replace hb2 := Lib.hid (hbw.out.trans (hb2.mono (by omega)))
  go_wp2_with fail
  go_ret2
  exact ⟨_, rfl, hO.out, hb2.out⟩
end Go.Proofs.YtpepcjffolbdcaaDoor
