/- Families: changed and combined with functions that are handed in. -/
import Derived.Test.YtojfamjgghikoaaGreatDoorFams5
namespace Go.Proofs.YtojfamjgghikoaaGreatDoor
open Go.ChangeShapes Go.WideShapes Go.ChangeAt Go.RowKit Go.Proofs

/-- the function value g, bound to rs ahead and cs behind, gives f at each set of the list. -/
def MapV (g : Nat) (rs cs : Array Value) (f : Int → Int) (xs : List Int) (w : World) : Prop :=
  ∀ (W : World) (x : Int), x ∈ xs → Below w.heap.size w W → Calls Tryz.prog g (rs.push (.int .u64 x) ++ cs) W fun e w' => e = .returned (.int .u64 (f x)) ∧ Below W.heap.size W w'
theorem map_take {xs : List Int} {k : Nat} {x : Int} (hk : k < xs.length) (hx : xs.getD k 0 = x) (f : Int → Int) : (xs.take (k + 1)).map f = (xs.take k).map f ++ [f x] := by rw [take_snoc hk, hx, List.map_append]; rfl
set_option maxHeartbeats 2000000 in
theorem changed_any (g : Nat) (eg : EntersG g) (rs cs : Array Value) (f : Int → Int) (lv : Value) (xs : List Int) (S : Nat) (w : World) (hx : SRow w S lv xs) (hS : S ≤ w.heap.size) (hl : xs.length ≤ 100000) (hz : ∀ z ∈ xs, 0 ≤ f z ∧ f z < 256)
    (hp : MapV g rs cs f xs w) :
    Calls Tryz.prog 222 #[.agg #[lv, (Value.func (.func 188) #[] #[])], .func (.func g) rs cs] w (FamPost w (sortL (xs.map f))) := by
  have eg1 : ∀ args w, (callFunc g args).run Tryz.prog w = .ok (.enter g args) w := eg
  obtain ⟨a, cap, rfl, ha⟩ := hx
  replace ha := Lib.hid ha
  replace hz := Lib.hid hz
  replace hp := Lib.hid hp
  have hsn := Lib.hid (sorted_of (.slice none 0 0) [] 0 ((w.alloc (.cells #[.slice a xs.length cap, (Value.func (.func 188) #[] #[])] 64)).alloc (.cells #[.slice none 0 0, .nilFunc] 64)) (SRow.nil _ 0) (Nat.zero_le _) (fun k _ => by simp [sortL]) (by simp))
  go_enter Tryz.func222, Tryz.ntmps222
  go_wp2_with fail
  refine hsn.out.mono ?_
  rintro e w1 ⟨v1, rfl, hS1, hb1⟩
  obtain ⟨a', c', rfl⟩ := hS1.form
  rw [World.size_alloc, World.size_alloc] at hS1 hb1
  have hz1 := hb1.size
  simp at hz1
  have hF1 := Lib.hid (fbox_new hS1 hz1)
  replace hS1 := Lib.hid hS1
  replace hb1 := Lib.hid hb1
  obtain ⟨l0, l1⟩ := pair_cells (new_cell2 w _ _ _) hb1.out (by omega)
  have hlt0 : w.heap.size < w1.heap.size := by omega
  have hlt1 : w.heap.size + 1 < w1.heap.size := by omega
  have hbw := Lib.hid (((Below.refl w.heap.size w).alloc (Nat.le_refl _) (.cells #[.slice a xs.length cap, (Value.func (.func 188) #[] #[])] 64)).alloc (by simp) (.cells #[.slice none 0 0, .nilFunc] 64))
  clear hsn
  go_wp2_with fail
  go_loopw [14] (fun q wr => ∃ k : Nat, k ≤ xs.length ∧ q = .int .i64 k ∧ Hid (FBox wr (w.heap.size + 2) w1.heap.size (sortL ((xs.take k).map f))) ∧ Hid (Below (w.heap.size + 2) ((w.alloc (.cells #[.slice a xs.length cap, (Value.func (.func 188) #[] #[])] 64)).alloc (.cells #[.slice none 0 0, .nilFunc] 64)) wr)) (fun q _ => xs.length - (intOf q).toNat)
  case atStart => exact ⟨0, by omega, rfl, hF1, Lib.hid (hb1.out.alloc hz1 _)⟩
  case round =>
    obtain ⟨k, hk, rfl, hF, hb⟩ := hrel
    have hzz := hb.out.size
    simp at hzz
    have hFlt := hF.out.lt
    have hbb := Lib.hid (hbw.out.trans (hb.out.mono (by omega)))
    by_cases hlt : k < xs.length
    · obtain ⟨b1, o1, rfl, s1, c1⟩ := ha.out (by omega)
      have k1 : (0 : Int) ≤ (k : Int) := by omega
      have k2 : (k : Int) < (xs.length : Nat) := by omega
      have e1 : wr.cell? ⟨b1, o1 + k, none⟩ = some (.int .u64 (xs.getD k 0)) := by
        rw [hbb.out.cell (p := ⟨b1, o1 + k, none⟩) (show b1 < w.heap.size by omega)]
        exact c1 k hlt
      obtain ⟨x, hx⟩ : ∃ x, xs.getD k 0 = x := ⟨_, rfl⟩
      have hmem : x ∈ xs := by rw [← hx]; exact getD_mem hlt
      have hft := Lib.hid (show sortL ((xs.take (k + 1)).map f) = insI (f x) (sortL ((xs.take k).map f)) by rw [map_take hlt hx f, sortL_snoc])
      rw [hx] at e1
      have hcall := Lib.hid (hp.out wr x hmem hbb.out)
      have hlen := Lib.hid (len_small (xs := (xs.take k).map f) (fun z hz' => by
        obtain ⟨y, hy, rfl⟩ := List.mem_map.1 hz'
        exact hz.out y (List.mem_of_mem_take hy)))
      replace hx := Lib.hid hx
      replace hmem := Lib.hid hmem
      obtain ⟨y, hy⟩ : ∃ y, f x = y := ⟨_, rfl⟩
      rw [hy] at hcall hft
      replace hy := Lib.hid hy
      clear c1
      go_wp2_with fail
      refine hcall.out.mono ?_
      rintro e w2 ⟨rfl, hb2⟩
      have hFc := hF.out.below hb2 (Nat.le_refl _)
      have hz2 := hb2.size
      have hp3 := Lib.hid (put_at (w.heap.size + 2) w1.heap.size _ y w2 hFc (asc_sortL _) (by have := hlen.out; omega) (by omega))
      replace hb2 := Lib.hid (hb.out.trans (hb2.mono (by omega)))
      clear hFc hF
      go_wp2_with fail
      refine hp3.out.mono ?_
      rintro e w3 ⟨⟨v, rfl⟩, hF', hb', hz'⟩
      rw [← hft.out] at hF'
      replace hb' := Lib.hid (hb2.out.trans hb')
      replace hF' := Lib.hid hF'
      go_wp2_with fail
      go_roundw
      case rel => exact ⟨k + 1, by omega, by go_num, hF', hb'⟩
      case measure => simp [intOf]; omega
    · obtain rfl : k = xs.length := by omega
      have hF2 := hF.out
      rw [List.take_length] at hF2
      obtain ⟨a2, c2, b0, b1, hS2⟩ := box_cells hF2
      obtain ⟨d0, d1, df0, df1⟩ := res_cells (new_cell1 w _ _ _) hb.out
      have rr := two_cells (.slice a2 (sortL (xs.map f)).length c2) (Value.func (.func 188) #[] #[]) d0 d1
      have hff := Lib.hid (fam_fin hS2 hbb.out (by omega))
      clear hF hF2 hS2
      go_wp2_with fail
      exact bodyPost_ret (v := .agg #[.slice a2 (sortL (xs.map f)).length c2, (Value.func (.func 188) #[] #[])]) (by simp [results, Tryz.results222, go_sem, rr.1, rr.2]) rfl ⟨_, rfl, hff.out⟩

/-- the function value g gives F at each pair of sets of two lists. -/
def PairV (g : Nat) (rs cs : Array Value) (F : Int → Int → Int) (xs ys : List Int) (w : World) : Prop :=
  ∀ (W : World) (x y : Int), x ∈ xs → y ∈ ys → Below w.heap.size w W → Calls Tryz.prog g (rs ++ (#[.int .u64 x, .int .u64 y] ++ cs)) W fun e w' => e = .returned (.int .u64 (F x y)) ∧ Below W.heap.size W w'
/-- what is made of the first k of one list with all of the other. -/
def pairsTo (F : Int → Int → Int) (xs ys : List Int) (k : Nat) : List Int := (xs.take k).flatMap fun a => ys.map (F a)
theorem pairs_step {xs ys : List Int} {k : Nat} {x : Int} (hk : k < xs.length) (hx : xs.getD k 0 = x) (F : Int → Int → Int) : pairsTo F xs ys (k + 1) = pairsTo F xs ys k ++ ys.map (F x) := by
  unfold pairsTo; rw [take_snoc hk, hx, List.flatMap_append]; simp
theorem pairs_mem {xs ys : List Int} {k : Nat} {F : Int → Int → Int} {z : Int} (h : z ∈ pairsTo F xs ys k) : ∃ a ∈ xs, ∃ b ∈ ys, z = F a b := by
  unfold pairsTo at h
  obtain ⟨a, ha, hz⟩ := List.mem_flatMap.1 h
  obtain ⟨b, hb, rfl⟩ := List.mem_map.1 hz
  exact ⟨a, List.mem_of_mem_take ha, b, hb, rfl⟩
theorem new_cell3a (w : World) (cs : Array Value) (t : TypeId) (o o2 : Obj) : (((w.alloc (.cells cs t)).alloc o).alloc o2).heap[w.heap.size]? = some (.cells cs t (0, 0)) := by rw [Below.heap_alloc _ _ _ (by simp; omega), Below.heap_alloc _ _ _ (by simp)]; exact heap_alloc_new w _
theorem new_cell3b (w : World) (cs : Array Value) (t : TypeId) (o o2 : Obj) : (((w.alloc o).alloc (.cells cs t)).alloc o2).heap[w.heap.size + 1]? = some (.cells cs t (0, 0)) := by rw [Below.heap_alloc _ _ _ (by simp)]; exact new_cell1 w cs t o
theorem new_cell3c (w : World) (cs : Array Value) (t : TypeId) (o o2 : Obj) : (((w.alloc o).alloc o2).alloc (.cells cs t)).heap[w.heap.size + 2]? = some (.cells cs t (0, 0)) := by
  have := new_cell1 (w.alloc o) cs t o2
  rw [World.size_alloc] at this
  exact this
end Go.Proofs.YtojfamjgghikoaaGreatDoor
