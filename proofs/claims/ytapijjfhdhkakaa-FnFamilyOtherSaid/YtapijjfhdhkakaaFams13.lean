/- What the program's functions on families return. -/
import Derived.Test.YtapijjfhdhkakaaFams11
import Derived.Test.YtapijjfhdhkakaaFams12
namespace Go.Proofs.Ytapijjfhdhkakaa
open Go.ChangeShapes Go.WideShapes Go.ChangeAt Go.RowKit Go.Proofs

theorem ListPost.lift {L : List Int} {b : Bool} {w : World} {o : Obj} {e : Ending} {w' : World} (h : ListPost L b (w.alloc o) e w') : ListPost L b w e w' := by
  obtain ⟨v, he, hO, hb⟩ := h
  rw [World.size_alloc] at hO hb
  exact ⟨v, he, hO.mono (by omega) (Nat.le_refl _), ((Below.refl _ w).alloc (Nat.le_refl _) o).trans (hb.mono (by omega))⟩
theorem sort_ok {ys : List Int} (h : ∀ z ∈ ys, 0 ≤ z ∧ z < 256) : (∀ z ∈ sortL ys, 0 ≤ z ∧ z < 256) ∧ (sortL ys).length ≤ 1000 :=
  ⟨fun z hz => h z (mem_sortL.1 hz), by have := len_small h; omega⟩
theorem two_of {n : Int} {xs zs : List Int} (h1 : famB n xs = true) (h2 : famB n zs = true) : TwoFam xs zs := ⟨famB_asc h1, famB_asc h2, famB_lt h1, famB_lt h2⟩
theorem new_cell_int (w : World) (k : Int) : (w.alloc (.cells #[.int .i64 k] 3)).cell? ⟨w.heap.size, 0, none⟩ = some (.int .i64 k) := by rw [World.cell?_alloc_at _ _ _ _ rfl]; rfl

theorem im_FamilyOther (n : Int) (lv : Value) (xs : List Int) (S : Nat) (w : World) (hx : Row w S lv xs) (hS : S ≤ w.heap.size) (hl : xs.length ≤ 100000000) :
    Calls Try.prog 38 #[.int .i64 n, lv] w (ListPost (ifL (famB n xs) (sortL (xs.map (otherI n)))) (famB n xs) w) := by
  have hmf := mkfunc
  have hx' := hx.below ((Below.refl w.heap.size w).alloc (Nat.le_refl _) (.cells #[.int .i64 n] 3)) hS
  have hm := Lib.hid (made_one 84 (enters_of Try.func84 (by kernel_rfl) rfl) #[.pointer (some ⟨w.heap.size, 0, none⟩)] n lv xs (sortL (xs.map (otherI n))) S _ hx' (by simp; omega) hl (fun hf => ⟨other_fam n w.heap.size xs _ (by simp) (new_cell_int w n) hf, sort_ok (fun z hz => by obtain ⟨y, hy, rfl⟩ := List.mem_map.1 hz; exact setB_lt (other_set ((famB_all hf).2.2 y hy)))⟩))
  obtain ⟨la, lc, rfl, _⟩ := id hx
  clear hx hx'
  go_enter Try.func38, Try.ntmps38
  go_wp2_with fail
  refine hm.out.mono ?_
  rintro e w2 ⟨v, rfl, hO, hb⟩
  obtain ⟨ua, uc, rfl, _⟩ := id hO
  replace hO := Lib.hid hO
  replace hb := Lib.hid hb
  clear hm
  go_wp2_with fail
  go_ret2
  exact ListPost.lift ⟨_, rfl, hO.out, hb.out⟩

theorem im_FamilyRest (n : Int) (lv : Value) (xs : List Int) (S : Nat) (w : World) (hx : Row w S lv xs) (hS : S ≤ w.heap.size) (hl : xs.length ≤ 100000000) :
    Calls Try.prog 42 #[.int .i64 n, lv] w (ListPost (ifL (famB n xs) (sortL ((sortL (upI (2 ^ n.toNat))).filter (fun x => !memB x xs)))) (famB n xs) w) := by
  have hmf := mkfunc
  have hx' := hx.below ((Below.refl w.heap.size w).alloc (Nat.le_refl _) (.cells #[.int .i64 n] 3)) hS
  have hm := Lib.hid (made_one 90 (enters_of Try.func90 (by kernel_rfl) rfl) #[.pointer (some ⟨w.heap.size, 0, none⟩)] n lv xs (sortL ((sortL (upI (2 ^ n.toNat))).filter (fun x => !memB x xs))) S _ hx' (by simp; omega) hl (fun hf => ⟨rest_fam n w.heap.size xs _ (by simp) (new_cell_int w n) hf, sort_ok (fun z hz => by have h := famB_all hf; exact setB_lt (upI_lt h.1 h.2.1 z (List.mem_filter.1 hz).1))⟩))
  obtain ⟨la, lc, rfl, _⟩ := id hx
  clear hx hx'
  go_enter Try.func42, Try.ntmps42
  go_wp2_with fail
  refine hm.out.mono ?_
  rintro e w2 ⟨v, rfl, hO, hb⟩
  obtain ⟨ua, uc, rfl, _⟩ := id hO
  replace hO := Lib.hid hO
  replace hb := Lib.hid hb
  clear hm
  go_wp2_with fail
  go_ret2
  exact ListPost.lift ⟨_, rfl, hO.out, hb.out⟩

set_option maxHeartbeats 1000000 in
theorem im_FamilyTrace (n s : Int) (lv : Value) (xs : List Int) (S : Nat) (w : World) (hx : Row w S lv xs) (hS : S ≤ w.heap.size) (hl : xs.length ≤ 100000000) :
    Calls Try.prog 50 #[.int .i64 n, lv, .int .i64 s] w (ListPost (ifL (setB n s && famB n xs) (sortL (xs.map (fun x => andI x s)))) (setB n s && famB n xs) w) := by
  have hmf := mkfunc
  rcases (by cases setB n s <;> simp : setB n s = true ∨ setB n s = false) with hp | hp
  · have hx' := hx.below ((Below.refl w.heap.size w).alloc (Nat.le_refl _) (.cells #[.int .i64 s] 3)) hS
    have hm := Lib.hid (made_one 105 (enters_of Try.func105 (by kernel_rfl) rfl) #[.pointer (some ⟨w.heap.size, 0, none⟩)] n lv xs (sortL (xs.map (fun x => andI x s))) S _ hx' (by simp; omega) hl (fun hf => by
      skip
      exact ⟨trace_fam n s w.heap.size xs _ (by simp) (new_cell_int w s) hp hf, sort_ok (fun z hz => by obtain ⟨y, hy, rfl⟩ := List.mem_map.1 hz; exact setB_lt (andI_set ((famB_all hf).2.2 y hy) hp))⟩))
    have hc := Lib.hid (set_in_yes n s hp)
    rw [hp, Bool.true_and]
    obtain ⟨la, lc, rfl, _⟩ := id hx
    replace hp := Lib.hid hp
    clear hx hx'
    go_enter Try.func50, Try.ntmps50
    go_wp2_with (go_at_call 104; refine (hc.out _).mono ?_; rintro e w' ⟨rfl, rfl⟩)
    refine hm.out.mono ?_
    rintro e w2 ⟨v, rfl, hO, hb⟩
    obtain ⟨ua, uc, rfl, _⟩ := id hO
    replace hO := Lib.hid hO
    replace hb := Lib.hid hb
    clear hm
    go_wp2_with fail
    go_ret2
    exact ListPost.lift ⟨_, rfl, hO.out, hb.out⟩
  · have hc := Lib.hid (set_in_no n s hp)
    rw [hp, Bool.false_and]
    obtain ⟨la, lc, rfl, _⟩ := id hx
    replace hp := Lib.hid hp
    clear hx
    go_enter Try.func50, Try.ntmps50
    go_wp2_with (go_at_call 104; refine (hc.out _).mono ?_; rintro e w' ⟨rfl, rfl⟩)
    go_ret2
    exact ⟨_, rfl, own_empty _ _ _ _ _, ((Below.refl _ _).alloc (Nat.le_refl _) _).alloc (by simp) _⟩

set_option maxHeartbeats 1000000 in
theorem im_FamilyWithout (n p : Int) (lv : Value) (xs : List Int) (S : Nat) (w : World) (hx : Row w S lv xs) (hS : S ≤ w.heap.size) (hl : xs.length ≤ 100000000) :
    Calls Try.prog 49 #[.int .i64 n, lv, .int .i64 p] w (ListPost (ifL (ptB n p && famB n xs) (sortL (xs.filter (fun x => !hasB x p)))) (ptB n p && famB n xs) w) := by
  have hmf := mkfunc
  rcases (by cases ptB n p <;> simp : ptB n p = true ∨ ptB n p = false) with hp | hp
  · have hx' := hx.below ((Below.refl w.heap.size w).alloc (Nat.le_refl _) (.cells #[.int .i64 p] 3)) hS
    have hm := Lib.hid (made_one 102 (enters_of Try.func102 (by kernel_rfl) rfl) #[.pointer (some ⟨w.heap.size, 0, none⟩)] n lv xs (sortL (xs.filter (fun x => !hasB x p))) S _ hx' (by simp; omega) hl (fun hf => by
      have h := famB_all hf; obtain ⟨p1, p2⟩ := ptB_yes hp; have p3 : p ≤ 7 := by omega
      exact ⟨without_fam n p w.heap.size xs _ (by simp) (new_cell_int w p) p1 p3 hf, sort_ok (fun z hz => famB_lt hf z (List.mem_filter.1 hz).1)⟩))
    have hc := pt_in n p
    rw [hp] at hc
    replace hc := Lib.hid hc
    rw [hp, Bool.true_and]
    obtain ⟨la, lc, rfl, _⟩ := id hx
    replace hp := Lib.hid hp
    clear hx hx'
    go_enter Try.func49, Try.ntmps49
    go_wp2_with (go_at_call 94; refine (hc.out _).mono ?_; rintro e w' ⟨rfl, rfl⟩)
    refine hm.out.mono ?_
    rintro e w2 ⟨v, rfl, hO, hb⟩
    obtain ⟨ua, uc, rfl, _⟩ := id hO
    replace hO := Lib.hid hO
    replace hb := Lib.hid hb
    clear hm
    go_wp2_with fail
    go_ret2
    exact ListPost.lift ⟨_, rfl, hO.out, hb.out⟩
  · have hc := pt_in n p
    rw [hp] at hc
    replace hc := Lib.hid hc
    rw [hp, Bool.false_and]
    obtain ⟨la, lc, rfl, _⟩ := id hx
    replace hp := Lib.hid hp
    clear hx
    go_enter Try.func49, Try.ntmps49
    go_wp2_with (go_at_call 94; refine (hc.out _).mono ?_; rintro e w' ⟨rfl, rfl⟩)
    go_ret2
    exact ⟨_, rfl, own_empty _ _ _ _ _, ((Below.refl _ _).alloc (Nat.le_refl _) _).alloc (by simp) _⟩

set_option maxHeartbeats 1000000 in
theorem im_FamilyLink (n p : Int) (lv : Value) (xs : List Int) (S : Nat) (w : World) (hx : Row w S lv xs) (hS : S ≤ w.heap.size) (hl : xs.length ≤ 100000000) :
    Calls Try.prog 47 #[.int .i64 n, lv, .int .i64 p] w (ListPost (ifL (ptB n p && famB n xs) (sortL ((sortL (xs.filter (fun x => hasB x p))).map (fun x => lessI x p)))) (ptB n p && famB n xs) w) := by
  have hmf := mkfunc
  rcases (by cases ptB n p <;> simp : ptB n p = true ∨ ptB n p = false) with hp | hp
  · have hx' := hx.below ((Below.refl w.heap.size w).alloc (Nat.le_refl _) (.cells #[.int .i64 p] 3)) hS
    have hm := Lib.hid (made_one 95 (enters_of Try.func95 (by kernel_rfl) rfl) #[.pointer (some ⟨w.heap.size, 0, none⟩)] n lv xs (sortL ((sortL (xs.filter (fun x => hasB x p))).map (fun x => lessI x p))) S _ hx' (by simp; omega) hl (fun hf => by
      have h := famB_all hf; obtain ⟨p1, p2⟩ := ptB_yes hp; have p3 : p ≤ 7 := by omega
      exact ⟨link_fam n p w.heap.size xs _ (by simp) (new_cell_int w p) p1 p3 hf, sort_ok (fun z hz => by obtain ⟨y, hy, rfl⟩ := List.mem_map.1 hz; exact setB_lt (less_set (h.2.2 y (List.mem_filter.1 (mem_sortL.1 hy)).1) p1 p3))⟩))
    have hc := pt_in n p
    rw [hp] at hc
    replace hc := Lib.hid hc
    rw [hp, Bool.true_and]
    obtain ⟨la, lc, rfl, _⟩ := id hx
    replace hp := Lib.hid hp
    clear hx hx'
    go_enter Try.func47, Try.ntmps47
    go_wp2_with (go_at_call 94; refine (hc.out _).mono ?_; rintro e w' ⟨rfl, rfl⟩)
    refine hm.out.mono ?_
    rintro e w2 ⟨v, rfl, hO, hb⟩
    obtain ⟨ua, uc, rfl, _⟩ := id hO
    replace hO := Lib.hid hO
    replace hb := Lib.hid hb
    clear hm
    go_wp2_with fail
    go_ret2
    exact ListPost.lift ⟨_, rfl, hO.out, hb.out⟩
  · have hc := pt_in n p
    rw [hp] at hc
    replace hc := Lib.hid hc
    rw [hp, Bool.false_and]
    obtain ⟨la, lc, rfl, _⟩ := id hx
    replace hp := Lib.hid hp
    clear hx
    go_enter Try.func47, Try.ntmps47
    go_wp2_with (go_at_call 94; refine (hc.out _).mono ?_; rintro e w' ⟨rfl, rfl⟩)
    go_ret2
    exact ⟨_, rfl, own_empty _ _ _ _ _, ((Below.refl _ _).alloc (Nat.le_refl _) _).alloc (by simp) _⟩

theorem im_FamilyUnion (n : Int) (lv lu : Value) (xs zs : List Int) (S : Nat) (w : World) (hx : Row w S lv xs) (hy : Row w S lu zs) (hS : S ≤ w.heap.size) (hl : xs.length ≤ 100000000) (hl2 : zs.length ≤ 100000000) :
    Calls Try.prog 29 #[.int .i64 n, lv, lu] w (ListPost (ifL (famB n xs && famB n zs) (sortL (xs ++ zs))) (famB n xs && famB n zs) w) := by
  have hm := Lib.hid (made_two 77 (enters_of Try.func77 (by kernel_rfl) rfl) #[] n lv lu xs zs (sortL (xs ++ zs)) S w hx hy hS hl hl2 (fun hf hg => ⟨union_fam xs zs w (two_of hf hg), sort_ok (fun z hz => by rcases List.mem_append.1 hz with h | h; exact famB_lt hf z h; exact famB_lt hg z h)⟩))
  obtain ⟨la, lc, rfl, _⟩ := id hx
  obtain ⟨lb, ld, rfl, _⟩ := id hy
  clear hx hy
  go_enter Try.func29, Try.ntmps29
  go_wp2_with fail
  refine hm.out.mono ?_
  rintro e w2 ⟨v, rfl, hO, hb⟩
  obtain ⟨ua, uc, rfl, _⟩ := id hO
  replace hO := Lib.hid hO
  replace hb := Lib.hid hb
  clear hm
  go_wp2_with fail
  go_ret2
  exact ⟨_, rfl, hO.out, hb.out⟩

theorem im_FamilyCommon (n : Int) (lv lu : Value) (xs zs : List Int) (S : Nat) (w : World) (hx : Row w S lv xs) (hy : Row w S lu zs) (hS : S ≤ w.heap.size) (hl : xs.length ≤ 100000000) (hl2 : zs.length ≤ 100000000) :
    Calls Try.prog 31 #[.int .i64 n, lv, lu] w (ListPost (ifL (famB n xs && famB n zs) (sortL (xs.filter (fun x => memB x zs)))) (famB n xs && famB n zs) w) := by
  have hm := Lib.hid (made_two 79 (enters_of Try.func79 (by kernel_rfl) rfl) #[] n lv lu xs zs (sortL (xs.filter (fun x => memB x zs))) S w hx hy hS hl hl2 (fun hf hg => ⟨common_fam xs zs w (two_of hf hg), sort_ok (fun z hz => famB_lt hf z (List.mem_filter.1 hz).1)⟩))
  obtain ⟨la, lc, rfl, _⟩ := id hx
  obtain ⟨lb, ld, rfl, _⟩ := id hy
  clear hx hy
  go_enter Try.func31, Try.ntmps31
  go_wp2_with fail
  refine hm.out.mono ?_
  rintro e w2 ⟨v, rfl, hO, hb⟩
  obtain ⟨ua, uc, rfl, _⟩ := id hO
  replace hO := Lib.hid hO
  replace hb := Lib.hid hb
  clear hm
  go_wp2_with fail
  go_ret2
  exact ⟨_, rfl, hO.out, hb.out⟩

theorem im_FamilyLess (n : Int) (lv lu : Value) (xs zs : List Int) (S : Nat) (w : World) (hx : Row w S lv xs) (hy : Row w S lu zs) (hS : S ≤ w.heap.size) (hl : xs.length ≤ 100000000) (hl2 : zs.length ≤ 100000000) :
    Calls Try.prog 34 #[.int .i64 n, lv, lu] w (ListPost (ifL (famB n xs && famB n zs) (sortL (xs.filter (fun x => !memB x zs)))) (famB n xs && famB n zs) w) := by
  have hm := Lib.hid (made_two 82 (enters_of Try.func82 (by kernel_rfl) rfl) #[] n lv lu xs zs (sortL (xs.filter (fun x => !memB x zs))) S w hx hy hS hl hl2 (fun hf hg => ⟨less_fam xs zs w (two_of hf hg), sort_ok (fun z hz => famB_lt hf z (List.mem_filter.1 hz).1)⟩))
  obtain ⟨la, lc, rfl, _⟩ := id hx
  obtain ⟨lb, ld, rfl, _⟩ := id hy
  clear hx hy
  go_enter Try.func34, Try.ntmps34
  go_wp2_with fail
  refine hm.out.mono ?_
  rintro e w2 ⟨v, rfl, hO, hb⟩
  obtain ⟨ua, uc, rfl, _⟩ := id hO
  replace hO := Lib.hid hO
  replace hb := Lib.hid hb
  clear hm
  go_wp2_with fail
  go_ret2
  exact ⟨_, rfl, hO.out, hb.out⟩

theorem im_FamilyMeets (n : Int) (lv lu : Value) (xs zs : List Int) (S : Nat) (w : World) (hx : Row w S lv xs) (hy : Row w S lu zs) (hS : S ≤ w.heap.size) (hl : xs.length ≤ 100000000) (hl2 : zs.length ≤ 100000000) :
    Calls Try.prog 54 #[.int .i64 n, lv, lu] w (ListPost (ifL (famB n xs && famB n zs) (sortL (pairsTo andI xs zs xs.length))) (famB n xs && famB n zs) w) := by
  have hm := Lib.hid (made_two 107 (enters_of Try.func107 (by kernel_rfl) rfl) #[] n lv lu xs zs (sortL (pairsTo andI xs zs xs.length)) S w hx hy hS hl hl2 (fun hf hg => ⟨meets_fam n xs zs w (two_of hf hg) (famB_all hf).2.2 (famB_all hg).2.2, sort_ok (fun z hz => by obtain ⟨x, hx, y, hy, rfl⟩ := pairs_mem hz; exact setB_lt (andI_set ((famB_all hf).2.2 x hx) ((famB_all hg).2.2 y hy)))⟩))
  obtain ⟨la, lc, rfl, _⟩ := id hx
  obtain ⟨lb, ld, rfl, _⟩ := id hy
  clear hx hy
  go_enter Try.func54, Try.ntmps54
  go_wp2_with fail
  refine hm.out.mono ?_
  rintro e w2 ⟨v, rfl, hO, hb⟩
  obtain ⟨ua, uc, rfl, _⟩ := id hO
  replace hO := Lib.hid hO
  replace hb := Lib.hid hb
  clear hm
  go_wp2_with fail
  go_ret2
  exact ⟨_, rfl, hO.out, hb.out⟩

theorem im_FamilyJoins (n : Int) (lv lu : Value) (xs zs : List Int) (S : Nat) (w : World) (hx : Row w S lv xs) (hy : Row w S lu zs) (hS : S ≤ w.heap.size) (hl : xs.length ≤ 100000000) (hl2 : zs.length ≤ 100000000) :
    Calls Try.prog 56 #[.int .i64 n, lv, lu] w (ListPost (ifL (famB n xs && famB n zs) (sortL (pairsTo orI xs zs xs.length))) (famB n xs && famB n zs) w) := by
  have hm := Lib.hid (made_two 111 (enters_of Try.func111 (by kernel_rfl) rfl) #[] n lv lu xs zs (sortL (pairsTo orI xs zs xs.length)) S w hx hy hS hl hl2 (fun hf hg => ⟨joins_fam n xs zs w (two_of hf hg) (famB_all hf).2.2 (famB_all hg).2.2, sort_ok (fun z hz => by obtain ⟨x, hx, y, hy, rfl⟩ := pairs_mem hz; exact setB_lt (orI_set ((famB_all hf).2.2 x hx) ((famB_all hg).2.2 y hy)))⟩))
  obtain ⟨la, lc, rfl, _⟩ := id hx
  obtain ⟨lb, ld, rfl, _⟩ := id hy
  clear hx hy
  go_enter Try.func56, Try.ntmps56
  go_wp2_with fail
  refine hm.out.mono ?_
  rintro e w2 ⟨v, rfl, hO, hb⟩
  obtain ⟨ua, uc, rfl, _⟩ := id hO
  replace hO := Lib.hid hO
  replace hb := Lib.hid hb
  clear hm
  go_wp2_with fail
  go_ret2
  exact ⟨_, rfl, hO.out, hb.out⟩

/-- k is a size. -/
def szB (n k : Int) : Bool := ptsB n && decide (0 ≤ k ∧ k ≤ n)
end Go.Proofs.Ytapijjfhdhkakaa
