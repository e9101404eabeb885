/- The program's DifferenceOf. -/
import Derived.Test.YthljimmhgpbmbabAllC9
import Derived.Test.YthljimmhgpbmbabFams13
namespace Go.Proofs.Ythljimmhgpbmbab
open Go.ChangeShapes Go.WideShapes Go.ChangeAt Go.RowKit Go.Proofs

theorem dfL_set {n : Int} {xs : List Int} (hf : famB n xs = true) : ∀ z ∈ dfL xs, setB n z = true := fun z hz => by
  obtain ⟨a, ha, b, hb, rfl⟩ := mem_dfL.1 hz
  exact difI_set ((famB_all hf).2.2 a ha) ((famB_all hf).2.2 b hb)
theorem asc_dfL (xs : List Int) : Asc (dfL xs) := asc_sortL _
theorem dfL_len {n : Int} {xs : List Int} (hf : famB n xs = true) : (dfL xs).length ≤ 256 := asc_len256 (asc_dfL xs) (fun z hz => setB_lt (dfL_set hf z hz))
theorem less_v (n : Int) (xs : List Int) (w : World) (hx : ∀ z ∈ xs, setB n z = true) : PairV 54 #[] #[] difI xs xs w := fun W x y h1 h2 _ => by
  obtain ⟨x1, x2⟩ := setB_lt (hx x h1)
  obtain ⟨y1, y2⟩ := setB_lt (hx y h2)
  have ho := u64_difI x1 x2 y1 y2
  show Calls Try.prog 54 #[.int .u64 x, .int .u64 y] W _
  obtain ⟨r, hr⟩ : ∃ r, difI x y = r := ⟨_, rfl⟩
  rw [hr] at ho ⊢
  replace hr := Lib.hid hr
  clear h1 h2 hx
  go_enter Try.func54, Try.ntmps54
  go_wp2
  go_ret
  exact ⟨rfl, Below.refl _ _⟩
set_option maxHeartbeats 2000000 in
theorem diff_fam {n : Int} {xs : List Int} {w : World} (hf : famB n xs = true) : FamMap 52 #[] xs (dfL xs) w := fun W lv hb hx => by
  obtain ⟨a, cap, rfl, _⟩ := id hx
  have hbw := ((Below.refl W.heap.size W).alloc (Nat.le_refl _) (.cells #[.slice a xs.length cap, (Value.func (.func 134) #[] #[])] 40)).alloc (by simp) (.cells #[.slice none 0 0, .nilFunc] 40)
  have hset := (famB_all hf).2.2
  have hx2 := hx.below hbw (Nat.le_refl _)
  have hk : Hid (Calls Try.prog 53 #[.agg #[.slice a xs.length cap, (Value.func (.func 134) #[] #[])], .agg #[.slice a xs.length cap, (Value.func (.func 134) #[] #[])], .func (.func 54) #[] #[]] _ (FamPost _ (dfL xs))) := Lib.hid (combined_any 54 (enters_of Try.func54 (by kernel_rfl) rfl) #[] #[] difI _ _ xs xs _ _ hx2 hx2 (by simp; omega) (fam_len hf) (fam_len hf) (fun x h1 y h2 => setB_lt (difI_set (hset x h1) (hset y h2))) (less_v n xs _ hset))
  obtain ⟨ys, hys⟩ : ∃ ys, dfL xs = ys := ⟨_, rfl⟩
  rw [hys] at hk ⊢
  replace hys := Lib.hid hys
  replace hbw := Lib.hid hbw
  clear hx hb hf hx2 hset
  show Calls Try.prog 52 #[.agg #[.slice a xs.length cap, (Value.func (.func 134) #[] #[])]] W _
  go_enter Try.func52, Try.ntmps52
  go_wp2_with fail
  refine hk.out.mono ?_
  rintro e w2 ⟨v, rfl, hS2, hb2⟩
  obtain ⟨a', c', rfl⟩ := hS2.form
  rw [World.size_alloc, World.size_alloc] at hS2 hb2
  obtain ⟨d0, d1, df0, df1⟩ := res_cells (new_cell1 W _ _ _) hb2
  have rr := two_cells (.slice a' ys.length c') (Value.func (.func 134) #[] #[]) d0 d1
  have hff := Lib.hid (fam_fin hS2 (hbw.out.trans (hb2.mono (by omega))) (by omega))
  clear hS2 hb2 hk
  go_wp2_with fail
  exact bodyPost_ret (v := .agg #[.slice a' ys.length c', (Value.func (.func 134) #[] #[])]) (by simp [results, Try.results52, go_sem, rr.1, rr.2]) rfl ⟨_, rfl, hff.out⟩
set_option maxHeartbeats 1000000 in
theorem im_DifferenceOf (n : Int) (lv : Value) (xs : List Int) (S : Nat) (w : World) (hx : Row w S lv xs) (hS : S ≤ w.heap.size) (hl : xs.length ≤ 100000000) :
    Calls Try.prog 14 #[.int .i64 n, lv] w (ListPost (ifL (famB n xs) (dfL xs)) (famB n xs) w) := by
  have hm := Lib.hid (made_one 52 (enters_of Try.func52 (by kernel_rfl) rfl) #[] n lv xs (dfL xs) S w hx hS hl (fun hf => ⟨diff_fam hf, fun z hz => setB_lt (dfL_set hf z hz), by have := dfL_len hf; omega⟩))
  obtain ⟨la, lc, rfl, _⟩ := id hx
  clear hx
  go_enter Try.func14, Try.ntmps14
  go_wp2_with fail
  refine hm.out.mono ?_
  rintro e w2 ⟨v, rfl, hO, hb⟩
  obtain ⟨ua, uc, rfl, _⟩ := id hO
  replace hO := Lib.hid hO
  replace hb := Lib.hid hb
  clear hm
  go_wp2_with fail
  go_ret2
  exact ⟨_, rfl, hO.out, hb.out⟩
end Go.Proofs.Ythljimmhgpbmbab
