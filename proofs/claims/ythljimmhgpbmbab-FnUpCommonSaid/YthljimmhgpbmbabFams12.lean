/- Families: the rest, levels. -/
import Derived.Test.YthljimmhgpbmbabFams10
namespace Go.Proofs.Ythljimmhgpbmbab
open Go.ChangeShapes Go.WideShapes Go.ChangeAt Go.RowKit Go.Proofs

theorem upI_lt {n : Int} (n1 : 1 ≤ n) (n2 : n ≤ 8) : ∀ z ∈ sortL (upI (2 ^ n.toNat)), setB n z = true := fun z hz => by
  have h := mem_upI.1 (mem_sortL.1 hz)
  have : ((2 ^ n.toNat : Nat) : Int) = 2 ^ n.toNat := by simp
  exact setB_mk ⟨n1, n2, h.1, by omega⟩
set_option maxHeartbeats 4000000 in
set_option maxRecDepth 100000 in
theorem rest_fam (n : Int) (Bn : Nat) (xs : List Int) (w : World) (hB : Bn < w.heap.size) (hc : w.cell? ⟨Bn, 0, none⟩ = some (.int .i64 n)) (hf : famB n xs = true) :
    FamMap 86 #[.pointer (some ⟨Bn, 0, none⟩)] xs (sortL ((sortL (upI (2 ^ n.toNat))).filter (fun x => !memB x xs))) w := fun W lv hb hx => by
  obtain ⟨n1, n2, hsx⟩ := famB_all hf
  have hBW : Bn < W.heap.size := by have := hb.size; omega
  have hcW : W.cell? ⟨Bn, 0, none⟩ = some (.int .i64 n) := (hb.cell (p := ⟨Bn, 0, none⟩) hB).trans hc
  have hall := all_sets n n1 n2
  have husz := upI_lt n1 n2
  have husA := asc_sortL (upI (2 ^ n.toNat))
  obtain ⟨us, hus⟩ : ∃ us, sortL (upI (2 ^ n.toNat)) = us := ⟨_, rfl⟩
  rw [hus] at hall husz husA ⊢
  have hT : TwoFam us xs := ⟨husA, famB_asc hf, fun z hz => setB_lt (husz z hz), famB_lt hf⟩
  have hless : ∀ (W' : World) (lv lu : Value), SRow W' W'.heap.size lv us → SRow W' W'.heap.size lu xs → Calls Try.prog 87 #[.agg #[lv, (Value.func (.func 134) #[] #[])], .agg #[lu, (Value.func (.func 134) #[] #[])]] W' (FamPost W' (sortL (us.filter (fun x => !memB x xs)))) := fun W' lv lu h1 h2 => less_fam us xs W' hT W' lv lu (Below.refl _ _) h1 h2
  obtain ⟨ys, hys⟩ : ∃ ys, sortL (us.filter (fun x => !memB x xs)) = ys := ⟨_, rfl⟩
  rw [hys] at hless ⊢
  obtain ⟨a, cap, rfl, _⟩ := id hx
  obtain ⟨W3, hW3⟩ : ∃ W3, (W.alloc (.cells #[.slice a xs.length cap, (Value.func (.func 134) #[] #[])] 40)).alloc (.cells #[.slice none 0 0, .nilFunc] 40) = W3 := ⟨_, rfl⟩
  have hbw := ((Below.refl W.heap.size W).alloc (Nat.le_refl _) (.cells #[.slice a xs.length cap, (Value.func (.func 134) #[] #[])] 40)).alloc (by simp) (.cells #[.slice none 0 0, .nilFunc] 40)
  have hc2 := new_cell1 W #[.slice none 0 0, .nilFunc] 40 (.cells #[.slice a xs.length cap, (Value.func (.func 134) #[] #[])] 40)
  have hc1 := new_cell2 W #[.slice a xs.length cap, (Value.func (.func 134) #[] #[])] 40 (.cells #[.slice none 0 0, .nilFunc] 40)
  have hs3 : W3.heap.size = W.heap.size + 2 := by rw [← hW3]; simp
  rw [hW3] at hbw hc1 hc2
  obtain ⟨l0, l1⟩ := pair_cells hc1 (Below.refl (W.heap.size + 2) W3) (by omega)
  have hcn := (hbw.cell (p := ⟨Bn, 0, none⟩) hBW).trans hcW
  have hx3 := Lib.hid (hx.below hbw (Nat.le_refl _))
  have hsd : W3.drew.heap.size = W.heap.size + 2 := hs3
  have hlt0 : W.heap.size < W.heap.size + 2 := by omega
  have hle0 : W.heap.size ≤ W.heap.size + 2 := by omega
  have hle2 : W.heap.size + 2 ≤ W.heap.size + 2 := by omega
  have hbd : Below (W.heap.size + 2) W3 W3.drew := (Below.refl _ W3).drew
  replace hbd := Lib.hid hbd
  replace hsd := Lib.hid hsd
  replace hs3 := Lib.hid hs3
  replace hW3 := Lib.hid hW3
  replace hbw := Lib.hid hbw
  replace hc1 := Lib.hid hc1
  replace hc2 := Lib.hid hc2
  replace hall := Lib.hid hall
  replace hless := Lib.hid hless
  replace hus := Lib.hid hus
  replace hys := Lib.hid hys
  replace hf := Lib.hid hf
  clear hx hc hb hcW husz husA hT hsx
  show Calls Try.prog 86 #[.agg #[.slice a xs.length cap, (Value.func (.func 134) #[] #[])], .pointer (some ⟨Bn, 0, none⟩)] W _
  go_enter Try.func86, Try.ntmps86
  go_wp2_with fail
  rw [hW3.out]
  go_region_with (first
    | (go_at_call 80; ((with_reducible refine (hall.out _).mono ?_)); rintro e w2 ⟨v2, rfl, hS2, hb2⟩; obtain ⟨a2, c2, rfl⟩ := hS2.form; rw [hsd.out] at hS2 hb2; have hz2 := hb2.size; rw [hsd.out] at hz2; obtain ⟨q0, q1⟩ := pair_cells hc1.out (hbd.out.trans hb2) hlt0; have hx2 := Lib.hid (hx3.out.below (hbd.out.trans hb2) hle0); replace hS2 := Lib.hid hS2; replace hb2 := Lib.hid hb2)
    | (go_at_call 87; ((with_reducible refine (hless.out _ _ _ hS2.out.row (hx2.out.mono (Nat.le_trans hle0 hz2))).mono ?_)); rintro e w4 ⟨v4, rfl, hS4, hb4⟩; obtain ⟨a4, c4, rfl⟩ := hS4.form; have hb5 := hbd.out.trans (hb2.out.trans (hb4.mono hz2)); obtain ⟨d0, d1, df0, df1⟩ := res_cells hc2.out hb5; replace hb5 := Lib.hid hb5; replace hS4 := Lib.hid hS4; replace hb4 := Lib.hid hb4))
  all_goals
    have rr := two_cells (.slice a4 ys.length c4) (Value.func (.func 134) #[] #[]) d0 d1
    have hff := Lib.hid (fam_fin (w := W) (hS4.out.mono (show W.heap.size + 1 + 1 ≤ w2.heap.size by omega)) (hbw.out.trans (hb5.out.mono (by omega))) (by omega))
    go_wp2_with fail
    exact bodyPost_ret (v := .agg #[.slice a4 ys.length c4, (Value.func (.func 134) #[] #[])]) (by simp [results, Try.results86, go_sem, rr.1, rr.2]) rfl ⟨_, rfl, hff.out⟩
end Go.Proofs.Ythljimmhgpbmbab
