/- The program's UnionOf, MeetOf, UnionIn, MeetIn. -/
import Derived.Test.YthljimmhgpbmbaaCo2
import Derived.Test.YthljimmhgpbmbaaUnc
namespace Go.Proofs.Ythljimmhgpbmbaa
open Go.ChangeShapes Go.WideShapes Go.ChangeAt Go.RowKit Go.Proofs

/-- the family of a closed family. -/
theorem fld_fam (x y z : Value) (w : World) : (Instr.field 46 (.agg #[x, y, z]) 0).run Try.prog w = .ok (.agg #[x, y]) w := by kernel_rfl

theorem unionC_op {n : Int} {C : List Int} {s : Int} (hC : ∀ z ∈ C, setB n z = true) (hs : setB n s = true) : OpV 49 orI C [s] := fun W x y hx hy => by
  rw [List.mem_singleton] at hy
  subst hy
  obtain ⟨x1, x2⟩ := setB_lt (hC x hx)
  obtain ⟨y1, y2⟩ := setB_lt hs
  have ho := u64_orI x1 x2 y1 y2
  obtain ⟨r, hr⟩ : ∃ r, orI x y = r := ⟨_, rfl⟩
  rw [hr] at ho ⊢
  replace hr := Lib.hid hr
  clear hx hC hs
  go_enter Try.func49, Try.ntmps49
  go_wp2
  go_ret
  exact ⟨rfl, Below.refl _ _⟩
set_option maxHeartbeats 2000000 in
theorem unionC_fam {n : Int} {xs : List Int} {w : World} (hf : famB n xs = true) : FamMap 47 #[] xs (ucL orI xs) w := fun W lv hb hx => by
  obtain ⟨a, cap, rfl, _⟩ := id hx
  have hbw := ((Below.refl W.heap.size W).alloc (Nat.le_refl _) (.cells #[.slice a xs.length cap, (Value.func (.func 99) #[] #[])] 43)).alloc (by simp) (.cells #[.slice none 0 0, .nilFunc] 43)
  have hk := Lib.hid (closed_by 49 (enters_of Try.func49 (by kernel_rfl) rfl) orI semi_or n _ xs _ _ (hx.below hbw (Nat.le_refl _)) (by simp; omega) (fam_len hf) (famB_all hf).2.2 (fun C s h1 h2 => unionC_op h1 h2))
  obtain ⟨ys, hys⟩ : ∃ ys, ucL orI xs = ys := ⟨_, rfl⟩
  rw [hys] at hk ⊢
  replace hys := Lib.hid hys
  replace hbw := Lib.hid hbw
  clear hx hb hf
  show Calls Try.prog 47 #[.agg #[.slice a xs.length cap, (Value.func (.func 99) #[] #[])]] W _
  go_enter Try.func47, Try.ntmps47
  go_wp2_with fail
  refine hk.out.mono ?_
  rintro e w2 ⟨v, rfl, hS2, hb2⟩
  obtain ⟨a', c', rfl⟩ := hS2.form
  rw [World.size_alloc, World.size_alloc] at hS2 hb2
  obtain ⟨d0, d1, df0, df1⟩ := res_cells (new_cell1 W _ _ _) hb2
  have rr := two_cells (.slice a' ys.length c') (Value.func (.func 99) #[] #[]) d0 d1
  have hff := Lib.hid (fam_fin hS2 (hbw.out.trans (hb2.mono (by omega))) (by omega))
  clear hS2 hb2 hk
  have hfl := fld_fam
  go_wp2_with fail
  exact bodyPost_ret (v := .agg #[.slice a' ys.length c', (Value.func (.func 99) #[] #[])]) (by simp [results, Try.results47, go_sem, rr.1, rr.2]) rfl ⟨_, rfl, hff.out⟩
set_option maxHeartbeats 1000000 in
theorem im_UnionOf (n : Int) (lv : Value) (xs : List Int) (S : Nat) (w : World) (hx : Row w S lv xs) (hS : S ≤ w.heap.size) (hl : xs.length ≤ 100000000) :
    Calls Try.prog 19 #[.int .i64 n, lv] w (ListPost (ifL (famB n xs) (ucL orI xs)) (famB n xs) w) := by
  have hm := Lib.hid (made_one 47 (enters_of Try.func47 (by kernel_rfl) rfl) #[] n lv xs (ucL orI xs) S w hx hS hl (fun hf => ⟨unionC_fam hf, fun z hz => setB_lt (ucL_set semi_or (famB_all hf).2.2 z hz), by have := ucL_len semi_or (famB_all hf).2.2; omega⟩))
  obtain ⟨la, lc, rfl, _⟩ := id hx
  clear hx
  go_enter Try.func19, Try.ntmps19
  go_wp2_with fail
  refine hm.out.mono ?_
  rintro e w2 ⟨v, rfl, hO, hb⟩
  obtain ⟨ua, uc, rfl, _⟩ := id hO
  replace hO := Lib.hid hO
  replace hb := Lib.hid hb
  clear hm
  go_wp2_with fail
  go_ret2
  exact ⟨_, rfl, hO.out, hb.out⟩
set_option maxHeartbeats 1000000 in
theorem im_UnionIn (n : Int) (lv : Value) (xs : List Int) (S : Nat) (w : World) (hx : Row w S lv xs) (hS : S ≤ w.heap.size) (hl : xs.length ≤ 100000000) :
    Calls Try.prog 22 #[.int .i64 n, lv] w fun e w' => e = .returned (.bool (famB n xs && sameB (ucL orI xs) xs)) ∧ Below w.heap.size w w' := by
  have hm := unchanged_at 19 (enters_of Try.func19 (by kernel_rfl) rfl) n lv xs (ifL (famB n xs) (ucL orI xs)) (famB n xs) S w hx hS hl (ifL_small (fun hf => by have h := ucL_len semi_or (famB_all hf).2.2; omega)) (fun W u S' h1 h2 => im_UnionOf n u xs S' W h1 h2 hl)
  rw [ifL_same] at hm
  replace hm := Lib.hid hm
  obtain ⟨la, lc, rfl, _⟩ := id hx
  clear hx
  go_enter Try.func22, Try.ntmps22
  go_wp2_with fail
  refine hm.out.mono ?_
  rintro e w2 ⟨rfl, hb⟩
  replace hb := Lib.hid hb
  clear hm
  go_wp2_with fail
  go_ret
  exact ⟨rfl, hb.out⟩

theorem commonC_op {n : Int} {C : List Int} {s : Int} (hC : ∀ z ∈ C, setB n z = true) (hs : setB n s = true) : OpV 55 andI C [s] := fun W x y hx hy => by
  rw [List.mem_singleton] at hy
  subst hy
  obtain ⟨x1, x2⟩ := setB_lt (hC x hx)
  obtain ⟨y1, y2⟩ := setB_lt hs
  have ho := u64_andI x1 x2 y1 y2
  obtain ⟨r, hr⟩ : ∃ r, andI x y = r := ⟨_, rfl⟩
  rw [hr] at ho ⊢
  replace hr := Lib.hid hr
  clear hx hC hs
  go_enter Try.func55, Try.ntmps55
  go_wp2
  go_ret
  exact ⟨rfl, Below.refl _ _⟩
set_option maxHeartbeats 2000000 in
theorem commonC_fam {n : Int} {xs : List Int} {w : World} (hf : famB n xs = true) : FamMap 54 #[] xs (ucL andI xs) w := fun W lv hb hx => by
  obtain ⟨a, cap, rfl, _⟩ := id hx
  have hbw := ((Below.refl W.heap.size W).alloc (Nat.le_refl _) (.cells #[.slice a xs.length cap, (Value.func (.func 99) #[] #[])] 43)).alloc (by simp) (.cells #[.slice none 0 0, .nilFunc] 43)
  have hk := Lib.hid (closed_by 55 (enters_of Try.func55 (by kernel_rfl) rfl) andI semi_and n _ xs _ _ (hx.below hbw (Nat.le_refl _)) (by simp; omega) (fam_len hf) (famB_all hf).2.2 (fun C s h1 h2 => commonC_op h1 h2))
  obtain ⟨ys, hys⟩ : ∃ ys, ucL andI xs = ys := ⟨_, rfl⟩
  rw [hys] at hk ⊢
  replace hys := Lib.hid hys
  replace hbw := Lib.hid hbw
  clear hx hb hf
  show Calls Try.prog 54 #[.agg #[.slice a xs.length cap, (Value.func (.func 99) #[] #[])]] W _
  go_enter Try.func54, Try.ntmps54
  go_wp2_with fail
  refine hk.out.mono ?_
  rintro e w2 ⟨v, rfl, hS2, hb2⟩
  obtain ⟨a', c', rfl⟩ := hS2.form
  rw [World.size_alloc, World.size_alloc] at hS2 hb2
  obtain ⟨d0, d1, df0, df1⟩ := res_cells (new_cell1 W _ _ _) hb2
  have rr := two_cells (.slice a' ys.length c') (Value.func (.func 99) #[] #[]) d0 d1
  have hff := Lib.hid (fam_fin hS2 (hbw.out.trans (hb2.mono (by omega))) (by omega))
  clear hS2 hb2 hk
  have hfl := fld_fam
  go_wp2_with fail
  exact bodyPost_ret (v := .agg #[.slice a' ys.length c', (Value.func (.func 99) #[] #[])]) (by simp [results, Try.results54, go_sem, rr.1, rr.2]) rfl ⟨_, rfl, hff.out⟩
set_option maxHeartbeats 1000000 in
theorem im_MeetOf (n : Int) (lv : Value) (xs : List Int) (S : Nat) (w : World) (hx : Row w S lv xs) (hS : S ≤ w.heap.size) (hl : xs.length ≤ 100000000) :
    Calls Try.prog 30 #[.int .i64 n, lv] w (ListPost (ifL (famB n xs) (ucL andI xs)) (famB n xs) w) := by
  have hm := Lib.hid (made_one 54 (enters_of Try.func54 (by kernel_rfl) rfl) #[] n lv xs (ucL andI xs) S w hx hS hl (fun hf => ⟨commonC_fam hf, fun z hz => setB_lt (ucL_set semi_and (famB_all hf).2.2 z hz), by have := ucL_len semi_and (famB_all hf).2.2; omega⟩))
  obtain ⟨la, lc, rfl, _⟩ := id hx
  clear hx
  go_enter Try.func30, Try.ntmps30
  go_wp2_with fail
  refine hm.out.mono ?_
  rintro e w2 ⟨v, rfl, hO, hb⟩
  obtain ⟨ua, uc, rfl, _⟩ := id hO
  replace hO := Lib.hid hO
  replace hb := Lib.hid hb
  clear hm
  go_wp2_with fail
  go_ret2
  exact ⟨_, rfl, hO.out, hb.out⟩
set_option maxHeartbeats 1000000 in
theorem im_MeetIn (n : Int) (lv : Value) (xs : List Int) (S : Nat) (w : World) (hx : Row w S lv xs) (hS : S ≤ w.heap.size) (hl : xs.length ≤ 100000000) :
    Calls Try.prog 25 #[.int .i64 n, lv] w fun e w' => e = .returned (.bool (famB n xs && sameB (ucL andI xs) xs)) ∧ Below w.heap.size w w' := by
  have hm := unchanged_at 30 (enters_of Try.func30 (by kernel_rfl) rfl) n lv xs (ifL (famB n xs) (ucL andI xs)) (famB n xs) S w hx hS hl (ifL_small (fun hf => by have h := ucL_len semi_and (famB_all hf).2.2; omega)) (fun W u S' h1 h2 => im_MeetOf n u xs S' W h1 h2 hl)
  rw [ifL_same] at hm
  replace hm := Lib.hid hm
  obtain ⟨la, lc, rfl, _⟩ := id hx
  clear hx
  go_enter Try.func25, Try.ntmps25
  go_wp2_with fail
  refine hm.out.mono ?_
  rintro e w2 ⟨rfl, hb⟩
  replace hb := Lib.hid hb
  clear hm
  go_wp2_with fail
  go_ret
  exact ⟨rfl, hb.out⟩
end Go.Proofs.Ythljimmhgpbmbaa
