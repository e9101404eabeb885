/- The program's topSets, bottomSets, AntichainTop, AntichainBottom, ClosedDown, ClosedUp. -/
import Derived.Test.YtoglcinfnhhkhaaAc1
import Derived.Test.YtoglcinfnhhkhaaFams13
namespace Go.Proofs.Ytoglcinfnhhkhaa
open Go.ChangeShapes Go.WideShapes Go.ChangeAt Go.RowKit Go.Proofs

theorem part_v (s : Int) (xs : List Int) (w : World) (h1 : 0 ≤ s) (h2 : s < 256) (hz : ∀ z ∈ xs, 0 ≤ z ∧ z < 256) : PredV 17 #[.int .u64 s] #[] (partB s) xs w := fun W x hm _ => by
  obtain ⟨x1, x2⟩ := hz x hm
  show Calls Try.prog 17 #[.int .u64 s, .int .u64 x] W _
  exact (set_part s x h1 h2 x1 x2 W).mono (fun _ _ h => ⟨h.1, by rw [h.2]; exact Below.refl _ _⟩)

set_option maxHeartbeats 1000000 in
theorem down_clo (lv : Value) (xs us : List Int) (S Bf : Nat) (w : World) (hB : Bf < w.heap.size) (hF : w.heap[Bf]? = some (.cells #[lv, (Value.func (.func 47) #[] #[])] 35 (0, 0))) (hx : SRow w S lv xs) (hS : S ≤ w.heap.size) (hl : xs.length ≤ 100000)
    (hz : ∀ z ∈ xs, 0 ≤ z ∧ z < 256) (hu : ∀ z ∈ us, 0 ≤ z ∧ z < 256) :
    PredV 15 #[] #[.pointer (some ⟨Bf, 0, none⟩)] (fun s => xs.any (partB s)) us w := fun W s hm hb => by
  obtain ⟨s1, s2⟩ := hu s hm
  have hmf := mkfunc
  obtain ⟨a, cap, rfl, _⟩ := id hx
  obtain ⟨l0, l1⟩ := pair_cells hF hb hB
  have hSW : S ≤ W.heap.size := by have := hb.size; omega
  have hBW : Bf < W.heap.size := by have := hb.size; omega
  have hxW := hx.below hb hS
  have hcon := contains_any 17 (enters_of Try.func17 (by kernel_rfl) rfl) #[.int .u64 s] #[] (partB s) _ xs _ W hxW hSW hl (part_v s xs W s1 s2 hz)
  obtain ⟨B, hBB⟩ : ∃ B, xs.any (partB s) = B := ⟨_, rfl⟩
  rw [hBB] at hcon
  replace hcon := Lib.hid hcon
  show Calls Try.prog 15 #[.int .u64 s, .pointer (some ⟨Bf, 0, none⟩)] W fun e w' => e = .returned (.bool (xs.any (partB s))) ∧ Below W.heap.size W w'
  rw [hBB]
  replace hBB := Lib.hid hBB
  replace hm := Lib.hid hm
  clear hx hxW hb hz hu hF
  go_enter Try.func15, Try.ntmps15
  go_wp2_with fail
  refine hcon.out.mono ?_
  rintro e w2 ⟨rfl, hb2⟩
  replace hb2 := Lib.hid hb2
  go_wp2_with fail
  go_ret
  exact ⟨rfl, hb2.out⟩

set_option maxHeartbeats 2000000 in
theorem down_fam (n : Int) (Bn : Nat) (xs : List Int) (w : World) (hB : Bn < w.heap.size) (hc : w.cell? ⟨Bn, 0, none⟩ = some (.int .i64 n)) (n1 : 1 ≤ n) (n2 : n ≤ 8) (hl : xs.length ≤ 256) (hz : ∀ z ∈ xs, 0 ≤ z ∧ z < 256) :
    FamMap 12 #[.pointer (some ⟨Bn, 0, none⟩)] xs (sortL ((sortL (upI (2 ^ n.toNat))).filter (fun s => xs.any (partB s)))) w := fun W lv hb hx => by
  have hmf := mkfunc
  have hBW : Bn < W.heap.size := by have := hb.size; omega
  have hcW : W.cell? ⟨Bn, 0, none⟩ = some (.int .i64 n) := (hb.cell (p := ⟨Bn, 0, none⟩) hB).trans hc
  have hall := all_sets n n1 n2
  have husz := upI_lt n1 n2
  have husA := asc_sortL (upI (2 ^ n.toNat))
  obtain ⟨us, hus⟩ : ∃ us, sortL (upI (2 ^ n.toNat)) = us := ⟨_, rfl⟩
  rw [hus] at hall husz husA ⊢
  have hus2 : ∀ z ∈ us, 0 ≤ z ∧ z < 256 := fun z hz => setB_lt (husz z hz)
  have hul : us.length ≤ 100000 := by have := asc_len256 husA hus2; omega
  obtain ⟨a, cap, rfl, _⟩ := id hx
  obtain ⟨W3, hW3⟩ : ∃ W3, (W.alloc (.cells #[.slice a xs.length cap, (Value.func (.func 47) #[] #[])] 35)).alloc (.cells #[.slice none 0 0, .nilFunc] 35) = W3 := ⟨_, rfl⟩
  have hbw := ((Below.refl W.heap.size W).alloc (Nat.le_refl _) (.cells #[.slice a xs.length cap, (Value.func (.func 47) #[] #[])] 35)).alloc (by simp) (.cells #[.slice none 0 0, .nilFunc] 35)
  have hs3 : W3.heap.size = W.heap.size + 2 := by rw [← hW3]; simp
  have hc1 := new_cell2 W #[.slice a xs.length cap, (Value.func (.func 47) #[] #[])] 35 (.cells #[.slice none 0 0, .nilFunc] 35)
  have hc2 := new_cell1 W #[.slice none 0 0, .nilFunc] 35 (.cells #[.slice a xs.length cap, (Value.func (.func 47) #[] #[])] 35)
  have hcn0 := (hbw.cell (p := ⟨Bn, 0, none⟩) hBW).trans hcW
  rw [hW3] at hbw hc1 hc2
  have hx3 := hx.below hbw (Nat.le_refl _)
  have hK := Lib.hid (fun (v2 : Value) (w2 : World) (hS2 : SetL w2 W3.heap.size v2 us) (hb2 : Below W3.heap.size W3 w2) => kept_any 15 (enters_of Try.func15 (by kernel_rfl) rfl) #[] #[.pointer (some ⟨W.heap.size, 0, none⟩)] (fun s => xs.any (partB s)) v2 us _ w2 hS2.row (Nat.le_refl _) hul hus2
    (down_clo _ xs us _ W.heap.size w2 (by have := hb2.size; omega) (by rw [hb2.block _ (by omega)]; exact hc1) (hx3.below hb2 (by omega)) (by have := hb2.size; omega) (by omega) hz hus2))
  obtain ⟨ys, hys⟩ : ∃ ys, sortL (us.filter (fun s => xs.any (partB s))) = ys := ⟨_, rfl⟩
  rw [hys] at hK ⊢
  replace hys := Lib.hid hys
  replace hus := Lib.hid hus
  replace hall := Lib.hid hall
  replace hbw := Lib.hid hbw
  replace hc1 := Lib.hid hc1
  replace hc2 := Lib.hid hc2
  replace hs3 := Lib.hid hs3
  replace hW3 := Lib.hid hW3
  clear hx hx3 hb hcW hc husz husA hus2 hul
  show Calls Try.prog 12 #[.agg #[.slice a xs.length cap, (Value.func (.func 47) #[] #[])], .pointer (some ⟨Bn, 0, none⟩)] W _
  go_enter Try.func12, Try.ntmps12
  go_wp2_with fail
  rw [hW3.out]
  refine (hall.out _).mono ?_
  rintro e w2 ⟨v2, rfl, hS2, hb2⟩
  have hk := Lib.hid (hK.out v2 w2 hS2 hb2)
  obtain ⟨a2, c2, rfl⟩ := hS2.form
  have hb2' := Lib.hid hb2
  clear hS2 hb2
  go_wp2_with fail
  refine hk.out.mono ?_
  rintro e w4 ⟨v, rfl, hS4, hb4⟩
  obtain ⟨a', c', rfl⟩ := hS4.form
  have hz2 := hb2'.out.size
  have hb5 := hb2'.out.trans (hb4.mono hz2)
  rw [hs3.out] at hb5 hz2
  obtain ⟨d0, d1, df0, df1⟩ := res_cells hc2.out hb5
  have rr := two_cells (.slice a' ys.length c') (Value.func (.func 47) #[] #[]) d0 d1
  have hff := Lib.hid (fam_fin (w := W) (hS4.mono (show W.heap.size + 1 + 1 ≤ w2.heap.size by omega)) (hbw.out.trans (hb5.mono (by omega))) (by omega))
  clear hS4 hb4 hk hb5
  go_wp2_with fail
  exact bodyPost_ret (v := .agg #[.slice a' ys.length c', (Value.func (.func 47) #[] #[])]) (by simp [results, Try.results12, go_sem, rr.1, rr.2]) rfl ⟨_, rfl, hff.out⟩

set_option maxHeartbeats 1000000 in
theorem im_ClosedDown (n : Int) (lv : Value) (xs : List Int) (S : Nat) (w : World) (hx : Row w S lv xs) (hS : S ≤ w.heap.size) (hl : xs.length ≤ 100000000) :
    Calls Try.prog 5 #[.int .i64 n, lv] w (ListPost (ifL (famB n xs) (sortL ((sortL (upI (2 ^ n.toNat))).filter (fun s => xs.any (partB s))))) (famB n xs) w) := by
  have hmf := mkfunc
  have hx' := hx.below ((Below.refl w.heap.size w).alloc (Nat.le_refl _) (.cells #[.int .i64 n] 3)) hS
  have hm := Lib.hid (made_one 12 (enters_of Try.func12 (by kernel_rfl) rfl) #[.pointer (some ⟨w.heap.size, 0, none⟩)] n lv xs (sortL ((sortL (upI (2 ^ n.toNat))).filter (fun s => xs.any (partB s)))) S _ hx' (by simp; omega) hl (fun hf => ⟨down_fam n w.heap.size xs _ (by simp) (new_cell_int w n) (famB_all hf).1 (famB_all hf).2.1 (asc_len256 (famB_asc hf) (famB_lt hf)) (famB_lt hf), sort_ok (fun z hz => by have h := famB_all hf; exact setB_lt (upI_lt h.1 h.2.1 z (List.mem_filter.1 hz).1))⟩))
  obtain ⟨la, lc, rfl, _⟩ := id hx
  clear hx hx'
  go_enter Try.func5, Try.ntmps5
  go_wp2_with fail
  refine hm.out.mono ?_
  rintro e w2 ⟨v, rfl, hO, hb⟩
  obtain ⟨ua, uc, rfl, _⟩ := id hO
  replace hO := Lib.hid hO
  replace hb := Lib.hid hb
  clear hm
  go_wp2_with fail
  go_ret2
  exact ListPost.lift ⟨_, rfl, hO.out, hb.out⟩

end Go.Proofs.Ytoglcinfnhhkhaa
