/- What the program's functions on families return. -/
import Derived.Test.YthljimmhgpbmbabFams11
import Derived.Test.YthljimmhgpbmbabFams12
namespace Go.Proofs.Ythljimmhgpbmbab
open Go.ChangeShapes Go.WideShapes Go.ChangeAt Go.RowKit Go.Proofs

theorem ListPost.lift {L : List Int} {b : Bool} {w : World} {o : Obj} {e : Ending} {w' : World} (h : ListPost L b (w.alloc o) e w') : ListPost L b w e w' := by
  obtain ⟨v, he, hO, hb⟩ := h
  rw [World.size_alloc] at hO hb
  exact ⟨v, he, hO.mono (by omega) (Nat.le_refl _), ((Below.refl _ w).alloc (Nat.le_refl _) o).trans (hb.mono (by omega))⟩
theorem sort_ok {ys : List Int} (h : ∀ z ∈ ys, 0 ≤ z ∧ z < 256) : (∀ z ∈ sortL ys, 0 ≤ z ∧ z < 256) ∧ (sortL ys).length ≤ 1000 :=
  ⟨fun z hz => h z (mem_sortL.1 hz), by have := len_small h; omega⟩
theorem two_of {n : Int} {xs zs : List Int} (h1 : famB n xs = true) (h2 : famB n zs = true) : TwoFam xs zs := ⟨famB_asc h1, famB_asc h2, famB_lt h1, famB_lt h2⟩
theorem new_cell_int (w : World) (k : Int) : (w.alloc (.cells #[.int .i64 k] 3)).cell? ⟨w.heap.size, 0, none⟩ = some (.int .i64 k) := by rw [World.cell?_alloc_at _ _ _ _ rfl]; rfl

theorem im_FamilyOther (n : Int) (lv : Value) (xs : List Int) (S : Nat) (w : World) (hx : Row w S lv xs) (hS : S ≤ w.heap.size) (hl : xs.length ≤ 100000000) :
    Calls Try.prog 17 #[.int .i64 n, lv] w (ListPost (ifL (famB n xs) (sortL (xs.map (otherI n)))) (famB n xs) w) := by
  have hmf := mkfunc
  have hx' := hx.below ((Below.refl w.heap.size w).alloc (Nat.le_refl _) (.cells #[.int .i64 n] 3)) hS
  have hm := Lib.hid (made_one 57 (enters_of Try.func57 (by kernel_rfl) rfl) #[.pointer (some ⟨w.heap.size, 0, none⟩)] n lv xs (sortL (xs.map (otherI n))) S _ hx' (by simp; omega) hl (fun hf => ⟨other_fam n w.heap.size xs _ (by simp) (new_cell_int w n) hf, sort_ok (fun z hz => by obtain ⟨y, hy, rfl⟩ := List.mem_map.1 hz; exact setB_lt (other_set ((famB_all hf).2.2 y hy)))⟩))
  obtain ⟨la, lc, rfl, _⟩ := id hx
  clear hx hx'
  go_enter Try.func17, Try.ntmps17
  go_wp2_with fail
  refine hm.out.mono ?_
  rintro e w2 ⟨v, rfl, hO, hb⟩
  obtain ⟨ua, uc, rfl, _⟩ := id hO
  replace hO := Lib.hid hO
  replace hb := Lib.hid hb
  clear hm
  go_wp2_with fail
  go_ret2
  exact ListPost.lift ⟨_, rfl, hO.out, hb.out⟩

theorem im_FamilyRest (n : Int) (lv : Value) (xs : List Int) (S : Nat) (w : World) (hx : Row w S lv xs) (hS : S ≤ w.heap.size) (hl : xs.length ≤ 100000000) :
    Calls Try.prog 41 #[.int .i64 n, lv] w (ListPost (ifL (famB n xs) (sortL ((sortL (upI (2 ^ n.toNat))).filter (fun x => !memB x xs)))) (famB n xs) w) := by
  have hmf := mkfunc
  have hx' := hx.below ((Below.refl w.heap.size w).alloc (Nat.le_refl _) (.cells #[.int .i64 n] 3)) hS
  have hm := Lib.hid (made_one 86 (enters_of Try.func86 (by kernel_rfl) rfl) #[.pointer (some ⟨w.heap.size, 0, none⟩)] n lv xs (sortL ((sortL (upI (2 ^ n.toNat))).filter (fun x => !memB x xs))) S _ hx' (by simp; omega) hl (fun hf => ⟨rest_fam n w.heap.size xs _ (by simp) (new_cell_int w n) hf, sort_ok (fun z hz => by have h := famB_all hf; exact setB_lt (upI_lt h.1 h.2.1 z (List.mem_filter.1 hz).1))⟩))
  obtain ⟨la, lc, rfl, _⟩ := id hx
  clear hx hx'
  go_enter Try.func41, Try.ntmps41
  go_wp2_with fail
  refine hm.out.mono ?_
  rintro e w2 ⟨v, rfl, hO, hb⟩
  obtain ⟨ua, uc, rfl, _⟩ := id hO
  replace hO := Lib.hid hO
  replace hb := Lib.hid hb
  clear hm
  go_wp2_with fail
  go_ret2
  exact ListPost.lift ⟨_, rfl, hO.out, hb.out⟩

theorem im_FamilyCommon (n : Int) (lv lu : Value) (xs zs : List Int) (S : Nat) (w : World) (hx : Row w S lv xs) (hy : Row w S lu zs) (hS : S ≤ w.heap.size) (hl : xs.length ≤ 100000000) (hl2 : zs.length ≤ 100000000) :
    Calls Try.prog 34 #[.int .i64 n, lv, lu] w (ListPost (ifL (famB n xs && famB n zs) (sortL (xs.filter (fun x => memB x zs)))) (famB n xs && famB n zs) w) := by
  have hm := Lib.hid (made_two 76 (enters_of Try.func76 (by kernel_rfl) rfl) #[] n lv lu xs zs (sortL (xs.filter (fun x => memB x zs))) S w hx hy hS hl hl2 (fun hf hg => ⟨common_fam xs zs w (two_of hf hg), sort_ok (fun z hz => famB_lt hf z (List.mem_filter.1 hz).1)⟩))
  obtain ⟨la, lc, rfl, _⟩ := id hx
  obtain ⟨lb, ld, rfl, _⟩ := id hy
  clear hx hy
  go_enter Try.func34, Try.ntmps34
  go_wp2_with fail
  refine hm.out.mono ?_
  rintro e w2 ⟨v, rfl, hO, hb⟩
  obtain ⟨ua, uc, rfl, _⟩ := id hO
  replace hO := Lib.hid hO
  replace hb := Lib.hid hb
  clear hm
  go_wp2_with fail
  go_ret2
  exact ⟨_, rfl, hO.out, hb.out⟩

theorem im_FamilyMeets (n : Int) (lv lu : Value) (xs zs : List Int) (S : Nat) (w : World) (hx : Row w S lv xs) (hy : Row w S lu zs) (hS : S ≤ w.heap.size) (hl : xs.length ≤ 100000000) (hl2 : zs.length ≤ 100000000) :
    Calls Try.prog 19 #[.int .i64 n, lv, lu] w (ListPost (ifL (famB n xs && famB n zs) (sortL (pairsTo andI xs zs xs.length))) (famB n xs && famB n zs) w) := by
  have hm := Lib.hid (made_two 63 (enters_of Try.func63 (by kernel_rfl) rfl) #[] n lv lu xs zs (sortL (pairsTo andI xs zs xs.length)) S w hx hy hS hl hl2 (fun hf hg => ⟨meets_fam n xs zs w (two_of hf hg) (famB_all hf).2.2 (famB_all hg).2.2, sort_ok (fun z hz => by obtain ⟨x, hx, y, hy, rfl⟩ := pairs_mem hz; exact setB_lt (andI_set ((famB_all hf).2.2 x hx) ((famB_all hg).2.2 y hy)))⟩))
  obtain ⟨la, lc, rfl, _⟩ := id hx
  obtain ⟨lb, ld, rfl, _⟩ := id hy
  clear hx hy
  go_enter Try.func19, Try.ntmps19
  go_wp2_with fail
  refine hm.out.mono ?_
  rintro e w2 ⟨v, rfl, hO, hb⟩
  obtain ⟨ua, uc, rfl, _⟩ := id hO
  replace hO := Lib.hid hO
  replace hb := Lib.hid hb
  clear hm
  go_wp2_with fail
  go_ret2
  exact ⟨_, rfl, hO.out, hb.out⟩

theorem im_FamilyJoins (n : Int) (lv lu : Value) (xs zs : List Int) (S : Nat) (w : World) (hx : Row w S lv xs) (hy : Row w S lu zs) (hS : S ≤ w.heap.size) (hl : xs.length ≤ 100000000) (hl2 : zs.length ≤ 100000000) :
    Calls Try.prog 21 #[.int .i64 n, lv, lu] w (ListPost (ifL (famB n xs && famB n zs) (sortL (pairsTo orI xs zs xs.length))) (famB n xs && famB n zs) w) := by
  have hm := Lib.hid (made_two 66 (enters_of Try.func66 (by kernel_rfl) rfl) #[] n lv lu xs zs (sortL (pairsTo orI xs zs xs.length)) S w hx hy hS hl hl2 (fun hf hg => ⟨joins_fam n xs zs w (two_of hf hg) (famB_all hf).2.2 (famB_all hg).2.2, sort_ok (fun z hz => by obtain ⟨x, hx, y, hy, rfl⟩ := pairs_mem hz; exact setB_lt (orI_set ((famB_all hf).2.2 x hx) ((famB_all hg).2.2 y hy)))⟩))
  obtain ⟨la, lc, rfl, _⟩ := id hx
  obtain ⟨lb, ld, rfl, _⟩ := id hy
  clear hx hy
  go_enter Try.func21, Try.ntmps21
  go_wp2_with fail
  refine hm.out.mono ?_
  rintro e w2 ⟨v, rfl, hO, hb⟩
  obtain ⟨ua, uc, rfl, _⟩ := id hO
  replace hO := Lib.hid hO
  replace hb := Lib.hid hb
  clear hm
  go_wp2_with fail
  go_ret2
  exact ⟨_, rfl, hO.out, hb.out⟩

/-- k is a size. -/
def szB (n k : Int) : Bool := ptsB n && decide (0 ≤ k ∧ k ≤ n)
end Go.Proofs.Ythljimmhgpbmbab
