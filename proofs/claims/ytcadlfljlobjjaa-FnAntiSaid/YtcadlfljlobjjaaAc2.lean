/- The program's topSets, bottomSets, AntichainTop, AntichainBottom, ClosedDown, ClosedUp. -/
import Derived.Test.YtcadlfljlobjjaaAc1
import Derived.Test.YtcadlfljlobjjaaFams13
namespace Go.Proofs.Ytcadlfljlobjjaa
open Go.ChangeShapes Go.WideShapes Go.ChangeAt Go.RowKit Go.Proofs

theorem part_other_v (s : Int) (xs : List Int) (w : World) (h1 : 0 ≤ s) (h2 : s < 256) (hz : ∀ z ∈ xs, 0 ≤ z ∧ z < 256) : PredV 39 #[.int .u64 s] #[] (partO s) xs w := fun W x hm _ => by
  obtain ⟨x1, x2⟩ := hz x hm
  show Calls Try.prog 39 #[.int .u64 s, .int .u64 x] W _
  exact (set_part_other s x h1 h2 x1 x2 W).mono (fun _ _ h => ⟨h.1, by rw [h.2]; exact Below.refl _ _⟩)
theorem part_v (s : Int) (xs : List Int) (w : World) (h1 : 0 ≤ s) (h2 : s < 256) (hz : ∀ z ∈ xs, 0 ≤ z ∧ z < 256) : PredV 57 #[.int .u64 s] #[] (partB s) xs w := fun W x hm _ => by
  obtain ⟨x1, x2⟩ := hz x hm
  show Calls Try.prog 57 #[.int .u64 s, .int .u64 x] W _
  exact (set_part s x h1 h2 x1 x2 W).mono (fun _ _ h => ⟨h.1, by rw [h.2]; exact Below.refl _ _⟩)

set_option maxHeartbeats 1000000 in
theorem top_clo (lv : Value) (xs us : List Int) (S Bf : Nat) (w : World) (hB : Bf < w.heap.size) (hF : w.heap[Bf]? = some (.cells #[lv, (Value.func (.func 68) #[] #[])] 36 (0, 0))) (hx : SRow w S lv xs) (hS : S ≤ w.heap.size) (hl : xs.length ≤ 100000)
    (hz : ∀ z ∈ xs, 0 ≤ z ∧ z < 256) (hu : ∀ z ∈ us, 0 ≤ z ∧ z < 256) :
    PredV 38 #[] #[.pointer (some ⟨Bf, 0, none⟩)] (fun s => !xs.any (partO s)) us w := fun W s hm hb => by
  obtain ⟨s1, s2⟩ := hu s hm
  have hmf := mkfunc
  obtain ⟨a, cap, rfl, _⟩ := id hx
  obtain ⟨l0, l1⟩ := pair_cells hF hb hB
  have hSW : S ≤ W.heap.size := by have := hb.size; omega
  have hBW : Bf < W.heap.size := by have := hb.size; omega
  have hxW := hx.below hb hS
  have hcon := contains_any 39 (enters_of Try.func39 (by kernel_rfl) rfl) #[.int .u64 s] #[] (partO s) _ xs _ W hxW hSW hl (part_other_v s xs W s1 s2 hz)
  obtain ⟨B, hBB⟩ : ∃ B, xs.any (partO s) = B := ⟨_, rfl⟩
  rw [hBB] at hcon
  replace hcon := Lib.hid hcon
  show Calls Try.prog 38 #[.int .u64 s, .pointer (some ⟨Bf, 0, none⟩)] W fun e w' => e = .returned (.bool (!xs.any (partO s))) ∧ Below W.heap.size W w'
  rw [hBB]
  replace hBB := Lib.hid hBB
  replace hm := Lib.hid hm
  clear hx hxW hb hz hu hF
  go_enter Try.func38, Try.ntmps38
  go_wp2_with fail
  refine hcon.out.mono ?_
  rintro e w2 ⟨rfl, hb2⟩
  replace hb2 := Lib.hid hb2
  go_wp2_with fail
  go_ret
  exact ⟨rfl, hb2.out⟩

set_option maxHeartbeats 2000000 in
theorem top_fam (xs : List Int) (w : World) (hl : xs.length ≤ 100000) (hz : ∀ z ∈ xs, 0 ≤ z ∧ z < 256) :
    FamMap 18 #[] xs (sortL (xs.filter (fun s => !xs.any (partO s)))) w := fun W lv hb hx => by
  have hmf := mkfunc
  obtain ⟨a, cap, rfl, _⟩ := id hx
  have hbw := ((Below.refl W.heap.size W).alloc (Nat.le_refl _) (.cells #[.slice a xs.length cap, (Value.func (.func 68) #[] #[])] 36)).alloc (by simp) (.cells #[.slice none 0 0, .nilFunc] 36)
  have hx2 := hx.below hbw (Nat.le_refl _)
  have hk := Lib.hid (kept_any 38 (enters_of Try.func38 (by kernel_rfl) rfl) #[] #[.pointer (some ⟨W.heap.size, 0, none⟩)] (fun s => !xs.any (partO s)) _ xs _ _ hx2 (by simp; omega) hl hz
    (top_clo _ xs xs _ W.heap.size _ (by simp; omega) (new_cell2 W _ _ _) hx2 (by simp; omega) hl hz hz))
  obtain ⟨ys, hys⟩ : ∃ ys, sortL (xs.filter (fun s => !xs.any (partO s))) = ys := ⟨_, rfl⟩
  rw [hys] at hk ⊢
  replace hys := Lib.hid hys
  replace hbw := Lib.hid hbw
  clear hx hx2 hb
  show Calls Try.prog 18 #[.agg #[.slice a xs.length cap, (Value.func (.func 68) #[] #[])]] W _
  go_enter Try.func18, Try.ntmps18
  go_wp2_with fail
  refine hk.out.mono ?_
  rintro e w2 ⟨v, rfl, hS2, hb2⟩
  obtain ⟨a', c', rfl⟩ := hS2.form
  rw [World.size_alloc, World.size_alloc] at hS2 hb2
  obtain ⟨d0, d1, df0, df1⟩ := res_cells (new_cell1 W _ _ _) hb2
  have rr := two_cells (.slice a' ys.length c') (Value.func (.func 68) #[] #[]) d0 d1
  have hff := Lib.hid (fam_fin hS2 (hbw.out.trans (hb2.mono (by omega))) (by omega))
  clear hS2 hb2 hk
  go_wp2_with fail
  exact bodyPost_ret (v := .agg #[.slice a' ys.length c', (Value.func (.func 68) #[] #[])]) (by simp [results, Try.results18, go_sem, rr.1, rr.2]) rfl ⟨_, rfl, hff.out⟩

end Go.Proofs.Ytcadlfljlobjjaa
