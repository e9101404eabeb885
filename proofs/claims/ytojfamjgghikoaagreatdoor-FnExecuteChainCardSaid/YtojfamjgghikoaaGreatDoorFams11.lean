/- Families: unions, the rest, levels. -/
import Derived.Test.YtojfamjgghikoaaGreatDoorFams10
namespace Go.Proofs.YtojfamjgghikoaaGreatDoor
open Go.ChangeShapes Go.WideShapes Go.ChangeAt Go.RowKit Go.Proofs

set_option maxHeartbeats 4000000 in
set_option maxRecDepth 100000 in
theorem union_fam (xs zs : List Int) (w : World) (hT : TwoFam xs zs) : FamMap2 201 #[] xs zs (sortL (xs ++ zs)) w := fun W lv lu _ hx hy => by
  obtain ⟨hl1, hl2⟩ := hT.len
  obtain ⟨a, cap, rfl, _⟩ := id hx
  obtain ⟨b, cbp, rfl, _⟩ := id hy
  obtain ⟨W3, hW3⟩ : ∃ W3, ((W.alloc (.cells #[.slice a xs.length cap, (Value.func (.func 188) #[] #[])] 64)).alloc (.cells #[.slice b zs.length cbp, (Value.func (.func 188) #[] #[])] 64)).alloc (.cells #[.slice none 0 0, .nilFunc] 64) = W3 := ⟨_, rfl⟩
  have hbw := (((Below.refl W.heap.size W).alloc (Nat.le_refl _) (.cells #[.slice a xs.length cap, (Value.func (.func 188) #[] #[])] 64)).alloc (by simp) (.cells #[.slice b zs.length cbp, (Value.func (.func 188) #[] #[])] 64)).alloc (by simp; omega) (.cells #[.slice none 0 0, .nilFunc] 64)
  have hc3 := new_cell3c W #[.slice none 0 0, .nilFunc] 64 (.cells #[.slice a xs.length cap, (Value.func (.func 188) #[] #[])] 64) (.cells #[.slice b zs.length cbp, (Value.func (.func 188) #[] #[])] 64)
  have hc1 := new_cell3a W #[.slice a xs.length cap, (Value.func (.func 188) #[] #[])] 64 (.cells #[.slice b zs.length cbp, (Value.func (.func 188) #[] #[])] 64) (.cells #[.slice none 0 0, .nilFunc] 64)
  have hc2 := new_cell3b W #[.slice b zs.length cbp, (Value.func (.func 188) #[] #[])] 64 (.cells #[.slice a xs.length cap, (Value.func (.func 188) #[] #[])] 64) (.cells #[.slice none 0 0, .nilFunc] 64)
  have hs3 : W3.heap.size = W.heap.size + 3 := by rw [← hW3]; simp
  rw [hW3] at hbw hc1 hc2 hc3
  obtain ⟨l0, l1⟩ := pair_cells hc1 (Below.refl (W.heap.size + 3) W3) (by omega)
  obtain ⟨m0, m1⟩ := pair_cells hc2 (Below.refl (W.heap.size + 3) W3) (by omega)
  have hbn : Below (W.heap.size + 3) W3 (W3.alloc (.cells #[.slice a xs.length cap, .slice b zs.length cbp] 61)).drew := ((Below.refl (W.heap.size + 3) W3).alloc (by omega) _).drew
  have hnb : (W3.alloc (.cells #[.slice a xs.length cap, .slice b zs.length cbp] 61)).drew.heap[W3.heap.size]? = some (.cells #[.slice a xs.length cap, .slice b zs.length cbp] 61 (0, 0)) := heap_alloc_new W3 _
  have hcat := Lib.hid (concat_two W3.heap.size _ _ xs zs W.heap.size (W3.alloc (.cells #[.slice a xs.length cap, .slice b zs.length cbp] 61)).drew ((hx.below hbw (Nat.le_refl _)).below hbn (by omega)) ((hy.below hbw (Nat.le_refl _)).below hbn (by omega)) (by show W.heap.size ≤ (W3.alloc _).heap.size; rw [World.size_alloc]; omega) (by omega) (by omega)
    (by rw [cell_of_row _ W3.heap.size 0 _ 61 (0, 0) hnb]; rfl) (by rw [cell_of_row _ W3.heap.size 1 _ 61 (0, 0) hnb]; rfl) (by show W3.heap.size < (W3.alloc _).heap.size; rw [World.size_alloc]; omega))
  have hzc : ((W3.alloc (.cells #[.slice a xs.length cap, .slice b zs.length cbp] 61)).drew).heap.size = W.heap.size + 4 := by show (W3.alloc _).heap.size = _; rw [World.size_alloc, hs3]
  have hcell1 := Lib.hid ((pair_cells hc1 hbn (by omega)).2)
  have hTL := Lib.hid (show ∀ k, k ≤ (xs ++ zs).length → (sortL ((xs ++ zs).take k)).length ≤ 1000 from fun k _ => by
    have := len_small (xs := (xs ++ zs).take k) (fun z hz => by
      rcases List.mem_append.1 (List.mem_of_mem_take hz) with h | h
      · exact hT.lx z h
      · exact hT.lz z h)
    omega)
  have hlt0 : W.heap.size < W3.heap.size := by omega
  obtain ⟨ys, hys⟩ : ∃ ys, xs ++ zs = ys := ⟨_, rfl⟩
  rw [hys] at hcat hTL ⊢
  have hq34 : W.heap.size + 3 ≤ W.heap.size + 4 := by omega
  have hltc : W.heap.size < W.heap.size + 4 := by omega
  have hlen : ys.length ≤ 100000000 := by rw [← hys]; simp; omega
  replace hys := Lib.hid hys
  replace hnb := Lib.hid hnb
  replace hlen := Lib.hid hlen
  replace hzc := Lib.hid hzc
  replace hbn := Lib.hid hbn
  replace hs3 := Lib.hid hs3
  replace hW3 := Lib.hid hW3
  replace hbw := Lib.hid hbw
  replace hc1 := Lib.hid hc1
  replace hc2 := Lib.hid hc2
  replace hc3 := Lib.hid hc3
  clear hx hy
  show Calls Tryz.prog 201 #[.agg #[.slice a xs.length cap, (Value.func (.func 188) #[] #[])], .agg #[.slice b zs.length cbp, (Value.func (.func 188) #[] #[])]] W _
  go_enter Tryz.func201, Tryz.ntmps201
  go_wp2_with fail
  rw [hW3.out]
  go_region_with (first
    | (go_at_call 253; ((with_reducible refine hcat.out.mono ?_)); rintro e w2 ⟨v2, rfl, hS2, hb2⟩; obtain ⟨a2, c2, rfl⟩ := hS2.form; rw [hzc.out] at hS2 hb2; have hz2 := hb2.size; rw [hzc.out] at hz2; have hl1 := (hb2.cell (p := ⟨W.heap.size, 1, none⟩) hltc).trans hcell1.out; replace hS2 := Lib.hid hS2; replace hb2 := Lib.hid hb2)
    | (go_at_call 131; ((with_reducible refine (sorted_of _ ys _ _ hS2.out.row (Nat.le_refl _) hTL.out hlen.out).mono ?_)); rintro e w4 ⟨v4, rfl, hS4, hb4⟩; obtain ⟨a4, c4, rfl⟩ := hS4.form; have hb5 := hbn.out.trans ((hb2.out.mono hq34).trans (hb4.mono (Nat.le_trans hq34 hz2))); obtain ⟨d0, d1, df0, df1⟩ := res_cells hc3.out hb5; replace hb5 := Lib.hid hb5; replace hS4 := Lib.hid hS4; replace hb4 := Lib.hid hb4))
  all_goals
    have rr := two_cells (.slice a4 (sortL ys).length c4) (Value.func (.func 188) #[] #[]) d0 d1
    have hff := Lib.hid (fam_fin (w := W) (hS4.out.mono (show W.heap.size + 2 + 1 ≤ w2.heap.size by omega)) (hbw.out.trans (hb5.out.mono (by omega))) (by omega))
    clear hcat
    go_wp2_with fail
    exact bodyPost_ret (v := .agg #[.slice a4 (sortL ys).length c4, (Value.func (.func 188) #[] #[])]) (by simp [results, Tryz.results201, go_sem, rr.1, rr.2]) rfl ⟨_, rfl, hff.out⟩
end Go.Proofs.YtojfamjgghikoaaGreatDoor
