/- Families: kept, changed, combined with functions that are handed in. -/
import Derived.Test.YtojfamjgghikoaaGreatDoorFams4
import Derived.Shelf.Abstract
namespace Go.Proofs.YtojfamjgghikoaaGreatDoor
open Go.ChangeShapes Go.WideShapes Go.ChangeAt Go.RowKit Go.Proofs

/-- a call of g enters it. -/
def EntersG (g : Nat) : Prop := ∀ args w, (callFunc g args).run Tryz.prog w = .ok (.enter g args) w
/-- the function value g, bound to rs ahead and cs behind, says p at each set of the list, whatever is laid on top of w. -/
def PredV (g : Nat) (rs cs : Array Value) (p : Int → Bool) (xs : List Int) (w : World) : Prop :=
  ∀ (W : World) (x : Int), x ∈ xs → Below w.heap.size w W → Calls Tryz.prog g (rs.push (.int .u64 x) ++ cs) W fun e w' => e = .returned (.bool (p x)) ∧ Below W.heap.size W w'
theorem pair_cells {W0 W1 : World} {h B : Nat} {u v : Value} (hh : W0.heap[h]? = some (.cells #[u, v] 64 (0, 0))) (hb : Below B W0 W1) (hB : h < B) : W1.cell? ⟨h, 0, none⟩ = some u ∧ W1.cell? ⟨h, 1, none⟩ = some v := by
  have hr : W1.heap[h]? = some (.cells #[u, v] 64 (0, 0)) := by rw [hb.block h hB]; exact hh
  exact ⟨by rw [cell_of_row W1 _ 0 _ 64 (0, 0) hr]; rfl, by rw [cell_of_row W1 _ 1 _ 64 (0, 0) hr]; rfl⟩
theorem new_cell2 (w : World) (cs : Array Value) (t : TypeId) (o : Obj) : ((w.alloc (.cells cs t)).alloc o).heap[w.heap.size]? = some (.cells cs t (0, 0)) := by rw [Below.heap_alloc _ _ _ (by simp)]; exact heap_alloc_new w _
theorem new_cell1 (w : World) (cs : Array Value) (t : TypeId) (o : Obj) : ((w.alloc o).alloc (.cells cs t)).heap[w.heap.size + 1]? = some (.cells cs t (0, 0)) := by
  have := new_cell (w.alloc o) cs t
  rw [World.size_alloc] at this
  exact this
theorem filter_take {xs : List Int} {k : Nat} {x : Int} (hk : k < xs.length) (hx : xs.getD k 0 = x) (p : Int → Bool) : (xs.take (k + 1)).filter p = (xs.take k).filter p ++ (if p x then [x] else []) := by rw [take_snoc hk, hx, filter_snoc]
theorem len_small {xs : List Int} (h : ∀ z ∈ xs, 0 ≤ z ∧ z < 256) : (sortL xs).length ≤ 256 := asc_len256 (asc_sortL xs) (fun z hz => h z (mem_sortL.1 hz))
set_option maxHeartbeats 2000000 in
theorem kept_any (g : Nat) (eg : EntersG g) (rs cs : Array Value) (p : Int → Bool) (lv : Value) (xs : List Int) (S : Nat) (w : World) (hx : SRow w S lv xs) (hS : S ≤ w.heap.size) (hl : xs.length ≤ 100000) (hz : ∀ z ∈ xs, 0 ≤ z ∧ z < 256)
    (hp : PredV g rs cs p xs w) :
    Calls Tryz.prog 65 #[.agg #[lv, (Value.func (.func 188) #[] #[])], .func (.func g) rs cs] w (FamPost w (sortL (xs.filter p))) := by
  have eg1 : ∀ args w, (callFunc g args).run Tryz.prog w = .ok (.enter g args) w := eg
  obtain ⟨a, cap, rfl, ha⟩ := hx
  replace ha := Lib.hid ha
  replace hz := Lib.hid hz
  replace hp := Lib.hid hp
  have hsn := Lib.hid (sorted_of (.slice none 0 0) [] 0 ((w.alloc (.cells #[.slice a xs.length cap, (Value.func (.func 188) #[] #[])] 64)).alloc (.cells #[.slice none 0 0, .nilFunc] 64)) (SRow.nil _ 0) (Nat.zero_le _) (fun k _ => by simp [sortL]) (by simp))
  go_enter Tryz.func65, Tryz.ntmps65
  go_wp2_with fail
  refine hsn.out.mono ?_
  rintro e w1 ⟨v1, rfl, hS1, hb1⟩
  obtain ⟨a', c', rfl⟩ := hS1.form
  rw [World.size_alloc, World.size_alloc] at hS1 hb1
  have hz1 := hb1.size
  simp at hz1
  have hF1 := Lib.hid (fbox_new hS1 hz1)
  replace hS1 := Lib.hid hS1
  replace hb1 := Lib.hid hb1
  obtain ⟨l0, l1⟩ := pair_cells (new_cell2 w _ _ _) hb1.out (by omega)
  have hlt0 : w.heap.size < w1.heap.size := by omega
  have hlt1 : w.heap.size + 1 < w1.heap.size := by omega
  have hbw := Lib.hid (((Below.refl w.heap.size w).alloc (Nat.le_refl _) (.cells #[.slice a xs.length cap, (Value.func (.func 188) #[] #[])] 64)).alloc (by simp) (.cells #[.slice none 0 0, .nilFunc] 64))
  clear hsn
  go_wp2_with fail
  go_loopw [14] (fun q wr => ∃ k : Nat, k ≤ xs.length ∧ q = .int .i64 k ∧ Hid (FBox wr (w.heap.size + 2) w1.heap.size (sortL ((xs.take k).filter p))) ∧ Hid (Below (w.heap.size + 2) ((w.alloc (.cells #[.slice a xs.length cap, (Value.func (.func 188) #[] #[])] 64)).alloc (.cells #[.slice none 0 0, .nilFunc] 64)) wr)) (fun q _ => xs.length - (intOf q).toNat)
  case atStart => exact ⟨0, by omega, rfl, hF1, Lib.hid (hb1.out.alloc hz1 _)⟩
  case round =>
    obtain ⟨k, hk, rfl, hF, hb⟩ := hrel
    have hzz := hb.out.size
    simp at hzz
    have hFlt := hF.out.lt
    have hbb := Lib.hid (hbw.out.trans (hb.out.mono (by omega)))
    by_cases hlt : k < xs.length
    · obtain ⟨b1, o1, rfl, s1, c1⟩ := ha.out (by omega)
      have k1 : (0 : Int) ≤ (k : Int) := by omega
      have k2 : (k : Int) < (xs.length : Nat) := by omega
      have e1 : wr.cell? ⟨b1, o1 + k, none⟩ = some (.int .u64 (xs.getD k 0)) := by
        rw [hbb.out.cell (p := ⟨b1, o1 + k, none⟩) (show b1 < w.heap.size by omega)]
        exact c1 k hlt
      obtain ⟨x, hx⟩ : ∃ x, xs.getD k 0 = x := ⟨_, rfl⟩
      have hmem : x ∈ xs := by rw [← hx]; exact getD_mem hlt
      have hft := filter_take hlt hx p
      rw [hx] at e1
      have hcall := hp.out wr x hmem hbb.out
      rcases (by cases p x <;> simp : p x = true ∨ p x = false) with hpx | hpx
      · rw [hpx] at hcall hft
        replace hcall := Lib.hid hcall
        replace hft := Lib.hid (show sortL ((xs.take (k + 1)).filter p) = insI x (sortL ((xs.take k).filter p)) by rw [hft, if_pos rfl, sortL_snoc])
        have hlen := Lib.hid (len_small (xs := (xs.take k).filter p) (fun z hz' => hz.out z (List.mem_of_mem_take (List.mem_filter.1 hz').1)))
        replace hpx := Lib.hid hpx
        replace hx := Lib.hid hx
        replace hmem := Lib.hid hmem
        clear c1
        go_wp2_with fail
        refine hcall.out.mono ?_
        rintro e w2 ⟨rfl, hb2⟩
        have hFc := hF.out.below hb2 (Nat.le_refl _)
        have hz2 := hb2.size
        have hp3 := Lib.hid (put_at (w.heap.size + 2) w1.heap.size _ x w2 hFc (asc_sortL _) (by have := hlen.out; omega) (by omega))
        replace hb2 := Lib.hid (hb.out.trans (hb2.mono (by omega)))
        clear hFc hF
        go_wp2_with fail
        refine hp3.out.mono ?_
        rintro e w3 ⟨⟨v, rfl⟩, hF', hb', hz'⟩
        rw [← hft.out] at hF'
        replace hb' := Lib.hid (hb2.out.trans hb')
        replace hF' := Lib.hid hF'
        go_wp2_with fail
        go_roundw
        case rel => exact ⟨k + 1, by omega, by go_num, hF', hb'⟩
        case measure => simp [intOf]; omega
      · rw [hpx] at hcall hft
        replace hcall := Lib.hid hcall
        replace hft := Lib.hid (show sortL ((xs.take (k + 1)).filter p) = sortL ((xs.take k).filter p) by rw [hft, if_neg (by simp), List.append_nil])
        replace hpx := Lib.hid hpx
        replace hx := Lib.hid hx
        replace hmem := Lib.hid hmem
        clear c1
        go_wp2_with fail
        refine hcall.out.mono ?_
        rintro e w2 ⟨rfl, hb2⟩
        have hFc := hF.out.below hb2 (Nat.le_refl _)
        rw [← hft.out] at hFc
        replace hFc := Lib.hid hFc
        replace hb2 := Lib.hid (hb.out.trans (hb2.mono (by omega)))
        clear hF
        go_wp2_with fail
        go_roundw
        case rel => exact ⟨k + 1, by omega, by go_num, hFc, hb2⟩
        case measure => simp [intOf]; omega
    · obtain rfl : k = xs.length := by omega
      have hF2 := hF.out
      rw [List.take_length] at hF2
      obtain ⟨a2, c2, b0, b1, hS2⟩ := box_cells hF2
      obtain ⟨d0, d1, df0, df1⟩ := res_cells (new_cell1 w _ _ _) hb.out
      have rr := two_cells (.slice a2 (sortL (xs.filter p)).length c2) (Value.func (.func 188) #[] #[]) d0 d1
      have hff := Lib.hid (fam_fin hS2 hbb.out (by omega))
      clear hF hF2 hS2
      go_wp2_with fail
      exact bodyPost_ret (v := .agg #[.slice a2 (sortL (xs.filter p)).length c2, (Value.func (.func 188) #[] #[])]) (by simp [results, Tryz.results65, go_sem, rr.1, rr.2]) rfl ⟨_, rfl, hff.out⟩
end Go.Proofs.YtojfamjgghikoaaGreatDoor
