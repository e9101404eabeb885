/- All sets in ball order, in binary order: the program. -/
import Derived.Test.YtgfmfecalhmplaaDoorBo6
namespace Go.Proofs.YtgfmfecalhmplaaDoor
open Go.ChangeShapes Go.WideShapes Go.ChangeAt Go.RowKit Go.Proofs

set_option maxRecDepth 100000 in
set_option maxHeartbeats 1000000 in
theorem in_ball (n : Int) (n1 : 1 ≤ n) (n2 : n ≤ 8) (w : World) (hT : Tab w) : Calls Tryd.prog 34 #[balO n] w (FamPostK w (kL (sortL (upI (2 ^ n.toNat))))) := by
  have htl := hT.lt
  have hall := all_sets n n1 n2
  have husz := upI_lt n1 n2
  obtain ⟨us, hus⟩ : ∃ us, sortL (upI (2 ^ n.toNat)) = us := ⟨_, rfl⟩
  have hul : us.length ≤ 256 := asc_len256 (hus ▸ asc_sortL _) (fun z hz => setB_lt (husz z (hus ▸ hz)))
  rw [hus] at hall husz ⊢
  have hpt := Lib.hid (fun W => pts_bal n W)
  have hcm := Lib.hid (fun W => cmp_bal n W)
  have hmt := mth_bal n
  have hfl := fld0b
  have hbb := Lib.hid ((Below.refl w.heap.size w).alloc (Nat.le_refl _) (.cells #[.slice none 0 0, .nilFunc] 46))
  replace hall := Lib.hid hall
  replace husz := Lib.hid husz
  replace hus := Lib.hid hus
  replace hT := Lib.hid hT
  go_enter Tryd.func34, Tryd.ntmps34
  go_wp2_with (go_at_call 142; refine (hpt.out _).mono ?_; rintro e w' ⟨rfl, rfl⟩)
  refine (hall.out _).mono ?_
  rintro e w2 ⟨v2, rfl, hS2, hb2⟩
  obtain ⟨a2, c2, rfl⟩ := hS2.form
  rw [World.size_alloc] at hS2 hb2
  have hz2 := hb2.size
  rw [World.size_alloc] at hz2
  have hbw := hbb.out.trans (hb2.mono (by omega))
  have hsb := Lib.hid (sorted_ball _ us _ w2 hS2.row (Nat.le_refl _) (by omega) (fun x hx => setB_lt (husz.out x hx)) (hT.out.below hbw htl))
  replace hb2 := Lib.hid hb2
  replace hbw := Lib.hid hbw
  clear hS2 hall
  go_wp2_with (go_at_call 52; refine (hcm.out _).mono ?_; rintro e w' ⟨rfl, rfl⟩)
  refine hsb.out.mono ?_
  rintro e w3 ⟨v3, rfl, hS3, hb3⟩
  obtain ⟨a3, c3, rfl⟩ := hS3.form
  have hb4 : Below (w.heap.size + 1) (w.alloc (.cells #[.slice none 0 0, .nilFunc] 46)) w3 := hb2.out.trans (hb3.mono (by omega))
  obtain ⟨d0, d1, df0, df1⟩ := res_cells (new_cell w _ _) hb4
  have rr := two_cells (.slice a3 (unL (kL us)).length c3) (Value.func (.func 70) #[] #[]) d0 d1
  have hff := Lib.hid (fam_fin_k (w := w) (h := w.heap.size) (hS3.mono (by omega)) (hbb.out.trans (hb4.mono (by omega))) (Nat.le_refl _))
  clear hS3 hb3 hb4 hsb
  go_wp2_with fail
  exact bodyPost_ret (v := .agg #[.slice a3 (unL (kL us)).length c3, (Value.func (.func 70) #[] #[])]) (by simp [results, Tryd.results34, go_sem, rr.1, rr.2]) rfl ⟨_, rfl, hff.out⟩
set_option maxRecDepth 100000 in
set_option maxHeartbeats 1000000 in
theorem in_bin (n : Int) (n1 : 1 ≤ n) (n2 : n ≤ 8) (w : World) : Calls Tryd.prog 34 #[binO n] w (FamPost w (upI (2 ^ n.toNat))) := by
  have hall := all_sets n n1 n2
  have husz := upI_lt n1 n2
  rw [up_sort] at hall husz
  obtain ⟨us, hus⟩ : ∃ us, upI (2 ^ n.toNat) = us := ⟨_, rfl⟩
  have hasc : Asc us := hus ▸ asc_upI _
  have hul : us.length ≤ 256 := asc_len256 hasc (fun z hz => setB_lt (husz z (hus ▸ hz)))
  rw [hus] at hall husz ⊢
  have hpt := Lib.hid (fun W => pts_bin n W)
  have hcm := Lib.hid (fun W => cmp_bin n W)
  have hmt := mth_bin n
  have hfl := fld0b
  have hbb := Lib.hid ((Below.refl w.heap.size w).alloc (Nat.le_refl _) (.cells #[.slice none 0 0, .nilFunc] 46))
  replace hall := Lib.hid hall
  replace husz := Lib.hid husz
  replace hus := Lib.hid hus
  go_enter Tryd.func34, Tryd.ntmps34
  go_wp2_with (go_at_call 143; refine (hpt.out _).mono ?_; rintro e w' ⟨rfl, rfl⟩)
  refine (hall.out _).mono ?_
  rintro e w2 ⟨v2, rfl, hS2, hb2⟩
  obtain ⟨a2, c2, rfl⟩ := hS2.form
  rw [World.size_alloc] at hS2 hb2
  have hz2 := hb2.size
  rw [World.size_alloc] at hz2
  have hsb := sorted_of _ us _ w2 hS2.row (Nat.le_refl _) (fun k _ => by
    have := asc_len256 (asc_sortL (us.take k)) (fun z hz => setB_lt (husz.out z (List.mem_of_mem_take (mem_sortL.1 hz))))
    omega) (by omega)
  rw [sortL_asc hasc] at hsb
  replace hsb := Lib.hid hsb
  replace hb2 := Lib.hid hb2
  replace hasc := Lib.hid hasc
  clear hS2 hall
  go_wp2_with (go_at_call 52; refine (hcm.out _).mono ?_; rintro e w' ⟨rfl, rfl⟩)
  refine hsb.out.mono ?_
  rintro e w3 ⟨v3, rfl, hS3, hb3⟩
  obtain ⟨a3, c3, rfl⟩ := hS3.form
  have hb4 : Below (w.heap.size + 1) (w.alloc (.cells #[.slice none 0 0, .nilFunc] 46)) w3 := hb2.out.trans (hb3.mono (by omega))
  obtain ⟨d0, d1, df0, df1⟩ := res_cells (new_cell w _ _) hb4
  have rr := two_cells (.slice a3 us.length c3) (Value.func (.func 71) #[] #[]) d0 d1
  have hff := Lib.hid (fam_fin (w := w) (h := w.heap.size) (hS3.mono (by omega)) (hbb.out.trans (hb4.mono (by omega))) (Nat.le_refl _))
  clear hS3 hb3 hb4 hsb
  go_wp2_with fail
  exact bodyPost_ret (v := .agg #[.slice a3 us.length c3, (Value.func (.func 71) #[] #[])]) (by simp [results, Tryd.results34, go_sem, rr.1, rr.2]) rfl ⟨_, rfl, hff.out⟩
set_option maxRecDepth 100000 in
set_option maxHeartbeats 1000000 in
/-- what BoundaryOrder gives. -/
def orL (n : Int) : List Int := unL (kL (sortL (upI (2 ^ n.toNat))))
theorem kL_up_len {n : Int} (n1 : 1 ≤ n) (n2 : n ≤ 8) : (orL n).length ≤ 256 ∧ ∀ z ∈ orL n, 0 ≤ z ∧ z < 256 := by
  have husz := upI_lt n1 n2
  obtain ⟨us, hus⟩ : ∃ us, sortL (upI (2 ^ n.toNat)) = us := ⟨_, rfl⟩
  have hul : us.length ≤ 256 := asc_len256 (hus ▸ asc_sortL _) (fun z hz => setB_lt (husz z (hus ▸ hz)))
  unfold orL
  rw [hus] at husz ⊢
  rw [unL_len]
  have h := kL_len us us.length (Nat.le_refl _)
  rw [List.take_length] at h
  refine ⟨by omega, fun z hz => ?_⟩
  obtain ⟨k, hk, rfl⟩ := List.mem_map.1 hz
  have := kL_isK (fun x hx => setB_lt (husz x hx)) k hk
  exact ⟨this.1, this.2.1⟩
set_option maxRecDepth 100000 in
set_option maxHeartbeats 1000000 in
theorem im_BoundaryOrder (n : Int) (w : World) (hT : Tab w) : Calls Tryd.prog 11 #[.int .i64 n] w (ListPost (ifL (ptsB n) (orL n)) (ptsB n) w) := by
  have hpp := fun W => pts_in n W
  rcases (by cases ptsB n <;> simp : ptsB n = true ∨ ptsB n = false) with hp | hp
  · obtain ⟨n1, n2⟩ := ptsB_yes hp
    have hin := Lib.hid (in_ball n n1 n2 w hT)
    obtain ⟨hl, hz⟩ := kL_up_len n1 n2
    rw [hp] at hpp ⊢
    show Calls Tryd.prog 11 #[.int .i64 n] w (ListPost (orL n) true w)
    change Hid (Calls Tryd.prog 34 #[balO n] w fun e w' => ∃ v, e = .returned (.agg #[v, (Value.func (.func 70) #[] #[])]) ∧ SetL w' w.heap.size v (orL n) ∧ Below w.heap.size w w') at hin
    obtain ⟨ys, hys⟩ : ∃ ys, orL n = ys := ⟨_, rfl⟩
    rw [hys] at hin hl hz ⊢
    replace hys := Lib.hid hys
    replace hpp := Lib.hid hpp
    replace hp := Lib.hid hp
    replace hz := Lib.hid hz
    go_enter Tryd.func11, Tryd.ntmps11
    go_wp2_with (go_at_call 32; refine (hpp.out _).mono ?_; rintro e w' ⟨rfl, rfl⟩)
    refine hin.out.mono ?_
    rintro e w1 ⟨v, rfl, hS1, hb1⟩
    obtain ⟨a1, c1, rfl⟩ := hS1.form
    have hz1 := hb1.size
    have hnum := Lib.hid (numbers_ball _ ys _ w1 hS1.row (Nat.le_refl _) (by omega) hz.out)
    replace hb1 := Lib.hid hb1
    clear hS1
    go_wp2_with fail
    refine hnum.out.mono ?_
    rintro e w2 ⟨t, rfl, hO, hb2⟩
    obtain ⟨ua, uc, rfl, _⟩ := id hO
    replace hb2 := Lib.hid (hb1.out.trans (hb2.mono (by omega)))
    replace hO := Lib.hid (hO.mono (show w.heap.size ≤ w1.heap.size by omega) (Nat.le_refl _))
    go_wp2_with fail
    go_ret2
    exact ⟨_, rfl, hO.out, hb2.out⟩
  · rw [hp] at hpp ⊢
    replace hpp := Lib.hid hpp
    replace hp := Lib.hid hp
    go_enter Tryd.func11, Tryd.ntmps11
    go_wp2_with (go_at_call 32; refine (hpp.out _).mono ?_; rintro e w' ⟨rfl, rfl⟩)
    go_ret2
    exact ⟨_, rfl, own_empty0 _ _ _ _ _, (Below.refl _ _).alloc (Nat.le_refl _) _⟩
end Go.Proofs.YtgfmfecalhmplaaDoor
