/- What the program's functions on families return. -/
import Derived.Test.YtpkomjnbbipnfaaFams11
import Derived.Test.YtpkomjnbbipnfaaFams12
namespace Go.Proofs.Ytpkomjnbbipnfaa
open Go.ChangeShapes Go.WideShapes Go.ChangeAt Go.RowKit Go.Proofs

theorem ListPost.lift {L : List Int} {b : Bool} {w : World} {o : Obj} {e : Ending} {w' : World} (h : ListPost L b (w.alloc o) e w') : ListPost L b w e w' := by
  obtain ⟨v, he, hO, hb⟩ := h
  rw [World.size_alloc] at hO hb
  exact ⟨v, he, hO.mono (by omega) (Nat.le_refl _), ((Below.refl _ w).alloc (Nat.le_refl _) o).trans (hb.mono (by omega))⟩
theorem sort_ok {ys : List Int} (h : ∀ z ∈ ys, 0 ≤ z ∧ z < 256) : (∀ z ∈ sortL ys, 0 ≤ z ∧ z < 256) ∧ (sortL ys).length ≤ 1000 :=
  ⟨fun z hz => h z (mem_sortL.1 hz), by have := len_small h; omega⟩
theorem two_of {n : Int} {xs zs : List Int} (h1 : famB n xs = true) (h2 : famB n zs = true) : TwoFam xs zs := ⟨famB_asc h1, famB_asc h2, famB_lt h1, famB_lt h2⟩
theorem new_cell_int (w : World) (k : Int) : (w.alloc (.cells #[.int .i64 k] 3)).cell? ⟨w.heap.size, 0, none⟩ = some (.int .i64 k) := by rw [World.cell?_alloc_at _ _ _ _ rfl]; rfl

theorem im_FamilyOther (n : Int) (lv : Value) (xs : List Int) (S : Nat) (w : World) (hx : Row w S lv xs) (hS : S ≤ w.heap.size) (hl : xs.length ≤ 100000000) :
    Calls Try.prog 40 #[.int .i64 n, lv] w (ListPost (ifL (famB n xs) (sortL (xs.map (otherI n)))) (famB n xs) w) := by
  have hmf := mkfunc
  have hx' := hx.below ((Below.refl w.heap.size w).alloc (Nat.le_refl _) (.cells #[.int .i64 n] 3)) hS
  have hm := Lib.hid (made_one 81 (enters_of Try.func81 (by kernel_rfl) rfl) #[.pointer (some ⟨w.heap.size, 0, none⟩)] n lv xs (sortL (xs.map (otherI n))) S _ hx' (by simp; omega) hl (fun hf => ⟨other_fam n w.heap.size xs _ (by simp) (new_cell_int w n) hf, sort_ok (fun z hz => by obtain ⟨y, hy, rfl⟩ := List.mem_map.1 hz; exact setB_lt (other_set ((famB_all hf).2.2 y hy)))⟩))
  obtain ⟨la, lc, rfl, _⟩ := id hx
  clear hx hx'
  go_enter Try.func40, Try.ntmps40
  go_wp2_with fail
  refine hm.out.mono ?_
  rintro e w2 ⟨v, rfl, hO, hb⟩
  obtain ⟨ua, uc, rfl, _⟩ := id hO
  replace hO := Lib.hid hO
  replace hb := Lib.hid hb
  clear hm
  go_wp2_with fail
  go_ret2
  exact ListPost.lift ⟨_, rfl, hO.out, hb.out⟩

theorem im_FamilyRest (n : Int) (lv : Value) (xs : List Int) (S : Nat) (w : World) (hx : Row w S lv xs) (hS : S ≤ w.heap.size) (hl : xs.length ≤ 100000000) :
    Calls Try.prog 42 #[.int .i64 n, lv] w (ListPost (ifL (famB n xs) (sortL ((sortL (upI (2 ^ n.toNat))).filter (fun x => !memB x xs)))) (famB n xs) w) := by
  have hmf := mkfunc
  have hx' := hx.below ((Below.refl w.heap.size w).alloc (Nat.le_refl _) (.cells #[.int .i64 n] 3)) hS
  have hm := Lib.hid (made_one 84 (enters_of Try.func84 (by kernel_rfl) rfl) #[.pointer (some ⟨w.heap.size, 0, none⟩)] n lv xs (sortL ((sortL (upI (2 ^ n.toNat))).filter (fun x => !memB x xs))) S _ hx' (by simp; omega) hl (fun hf => ⟨rest_fam n w.heap.size xs _ (by simp) (new_cell_int w n) hf, sort_ok (fun z hz => by have h := famB_all hf; exact setB_lt (upI_lt h.1 h.2.1 z (List.mem_filter.1 hz).1))⟩))
  obtain ⟨la, lc, rfl, _⟩ := id hx
  clear hx hx'
  go_enter Try.func42, Try.ntmps42
  go_wp2_with fail
  refine hm.out.mono ?_
  rintro e w2 ⟨v, rfl, hO, hb⟩
  obtain ⟨ua, uc, rfl, _⟩ := id hO
  replace hO := Lib.hid hO
  replace hb := Lib.hid hb
  clear hm
  go_wp2_with fail
  go_ret2
  exact ListPost.lift ⟨_, rfl, hO.out, hb.out⟩

set_option maxHeartbeats 1000000 in
theorem im_FamilyTrace (n s : Int) (lv : Value) (xs : List Int) (S : Nat) (w : World) (hx : Row w S lv xs) (hS : S ≤ w.heap.size) (hl : xs.length ≤ 100000000) :
    Calls Try.prog 19 #[.int .i64 n, lv, .int .i64 s] w (ListPost (ifL (setB n s && famB n xs) (sortL (xs.map (fun x => andI x s)))) (setB n s && famB n xs) w) := by
  have hmf := mkfunc
  rcases (by cases setB n s <;> simp : setB n s = true ∨ setB n s = false) with hp | hp
  · have hx' := hx.below ((Below.refl w.heap.size w).alloc (Nat.le_refl _) (.cells #[.int .i64 s] 3)) hS
    have hm := Lib.hid (made_one 56 (enters_of Try.func56 (by kernel_rfl) rfl) #[.pointer (some ⟨w.heap.size, 0, none⟩)] n lv xs (sortL (xs.map (fun x => andI x s))) S _ hx' (by simp; omega) hl (fun hf => by
      skip
      exact ⟨trace_fam n s w.heap.size xs _ (by simp) (new_cell_int w s) hp hf, sort_ok (fun z hz => by obtain ⟨y, hy, rfl⟩ := List.mem_map.1 hz; exact setB_lt (andI_set ((famB_all hf).2.2 y hy) hp))⟩))
    have hc := Lib.hid (set_in_yes n s hp)
    rw [hp, Bool.true_and]
    obtain ⟨la, lc, rfl, _⟩ := id hx
    replace hp := Lib.hid hp
    clear hx hx'
    go_enter Try.func19, Try.ntmps19
    go_wp2_with (go_at_call 54; refine (hc.out _).mono ?_; rintro e w' ⟨rfl, rfl⟩)
    refine hm.out.mono ?_
    rintro e w2 ⟨v, rfl, hO, hb⟩
    obtain ⟨ua, uc, rfl, _⟩ := id hO
    replace hO := Lib.hid hO
    replace hb := Lib.hid hb
    clear hm
    go_wp2_with fail
    go_ret2
    exact ListPost.lift ⟨_, rfl, hO.out, hb.out⟩
  · have hc := Lib.hid (set_in_no n s hp)
    rw [hp, Bool.false_and]
    obtain ⟨la, lc, rfl, _⟩ := id hx
    replace hp := Lib.hid hp
    clear hx
    go_enter Try.func19, Try.ntmps19
    go_wp2_with (go_at_call 54; refine (hc.out _).mono ?_; rintro e w' ⟨rfl, rfl⟩)
    go_ret2
    exact ⟨_, rfl, own_empty _ _ _ _ _, ((Below.refl _ _).alloc (Nat.le_refl _) _).alloc (by simp) _⟩

set_option maxHeartbeats 1000000 in
theorem im_FamilyWithout (n p : Int) (lv : Value) (xs : List Int) (S : Nat) (w : World) (hx : Row w S lv xs) (hS : S ≤ w.heap.size) (hl : xs.length ≤ 100000000) :
    Calls Try.prog 48 #[.int .i64 n, lv, .int .i64 p] w (ListPost (ifL (ptB n p && famB n xs) (sortL (xs.filter (fun x => !hasB x p)))) (ptB n p && famB n xs) w) := by
  have hmf := mkfunc
  rcases (by cases ptB n p <;> simp : ptB n p = true ∨ ptB n p = false) with hp | hp
  · have hx' := hx.below ((Below.refl w.heap.size w).alloc (Nat.le_refl _) (.cells #[.int .i64 p] 3)) hS
    have hm := Lib.hid (made_one 93 (enters_of Try.func93 (by kernel_rfl) rfl) #[.pointer (some ⟨w.heap.size, 0, none⟩)] n lv xs (sortL (xs.filter (fun x => !hasB x p))) S _ hx' (by simp; omega) hl (fun hf => by
      have h := famB_all hf; obtain ⟨p1, p2⟩ := ptB_yes hp; have p3 : p ≤ 7 := by omega
      exact ⟨without_fam n p w.heap.size xs _ (by simp) (new_cell_int w p) p1 p3 hf, sort_ok (fun z hz => famB_lt hf z (List.mem_filter.1 hz).1)⟩))
    have hc := pt_in n p
    rw [hp] at hc
    replace hc := Lib.hid hc
    rw [hp, Bool.true_and]
    obtain ⟨la, lc, rfl, _⟩ := id hx
    replace hp := Lib.hid hp
    clear hx hx'
    go_enter Try.func48, Try.ntmps48
    go_wp2_with (go_at_call 87; refine (hc.out _).mono ?_; rintro e w' ⟨rfl, rfl⟩)
    refine hm.out.mono ?_
    rintro e w2 ⟨v, rfl, hO, hb⟩
    obtain ⟨ua, uc, rfl, _⟩ := id hO
    replace hO := Lib.hid hO
    replace hb := Lib.hid hb
    clear hm
    go_wp2_with fail
    go_ret2
    exact ListPost.lift ⟨_, rfl, hO.out, hb.out⟩
  · have hc := pt_in n p
    rw [hp] at hc
    replace hc := Lib.hid hc
    rw [hp, Bool.false_and]
    obtain ⟨la, lc, rfl, _⟩ := id hx
    replace hp := Lib.hid hp
    clear hx
    go_enter Try.func48, Try.ntmps48
    go_wp2_with (go_at_call 87; refine (hc.out _).mono ?_; rintro e w' ⟨rfl, rfl⟩)
    go_ret2
    exact ⟨_, rfl, own_empty _ _ _ _ _, ((Below.refl _ _).alloc (Nat.le_refl _) _).alloc (by simp) _⟩

set_option maxHeartbeats 1000000 in
theorem im_FamilyLink (n p : Int) (lv : Value) (xs : List Int) (S : Nat) (w : World) (hx : Row w S lv xs) (hS : S ≤ w.heap.size) (hl : xs.length ≤ 100000000) :
    Calls Try.prog 46 #[.int .i64 n, lv, .int .i64 p] w (ListPost (ifL (ptB n p && famB n xs) (sortL ((sortL (xs.filter (fun x => hasB x p))).map (fun x => lessI x p)))) (ptB n p && famB n xs) w) := by
  have hmf := mkfunc
  rcases (by cases ptB n p <;> simp : ptB n p = true ∨ ptB n p = false) with hp | hp
  · have hx' := hx.below ((Below.refl w.heap.size w).alloc (Nat.le_refl _) (.cells #[.int .i64 p] 3)) hS
    have hm := Lib.hid (made_one 88 (enters_of Try.func88 (by kernel_rfl) rfl) #[.pointer (some ⟨w.heap.size, 0, none⟩)] n lv xs (sortL ((sortL (xs.filter (fun x => hasB x p))).map (fun x => lessI x p))) S _ hx' (by simp; omega) hl (fun hf => by
      have h := famB_all hf; obtain ⟨p1, p2⟩ := ptB_yes hp; have p3 : p ≤ 7 := by omega
      exact ⟨link_fam n p w.heap.size xs _ (by simp) (new_cell_int w p) p1 p3 hf, sort_ok (fun z hz => by obtain ⟨y, hy, rfl⟩ := List.mem_map.1 hz; exact setB_lt (less_set (h.2.2 y (List.mem_filter.1 (mem_sortL.1 hy)).1) p1 p3))⟩))
    have hc := pt_in n p
    rw [hp] at hc
    replace hc := Lib.hid hc
    rw [hp, Bool.true_and]
    obtain ⟨la, lc, rfl, _⟩ := id hx
    replace hp := Lib.hid hp
    clear hx hx'
    go_enter Try.func46, Try.ntmps46
    go_wp2_with (go_at_call 87; refine (hc.out _).mono ?_; rintro e w' ⟨rfl, rfl⟩)
    refine hm.out.mono ?_
    rintro e w2 ⟨v, rfl, hO, hb⟩
    obtain ⟨ua, uc, rfl, _⟩ := id hO
    replace hO := Lib.hid hO
    replace hb := Lib.hid hb
    clear hm
    go_wp2_with fail
    go_ret2
    exact ListPost.lift ⟨_, rfl, hO.out, hb.out⟩
  · have hc := pt_in n p
    rw [hp] at hc
    replace hc := Lib.hid hc
    rw [hp, Bool.false_and]
    obtain ⟨la, lc, rfl, _⟩ := id hx
    replace hp := Lib.hid hp
    clear hx
    go_enter Try.func46, Try.ntmps46
    go_wp2_with (go_at_call 87; refine (hc.out _).mono ?_; rintro e w' ⟨rfl, rfl⟩)
    go_ret2
    exact ⟨_, rfl, own_empty _ _ _ _ _, ((Below.refl _ _).alloc (Nat.le_refl _) _).alloc (by simp) _⟩

theorem im_FamilyUnion (n : Int) (lv lu : Value) (xs zs : List Int) (S : Nat) (w : World) (hx : Row w S lv xs) (hy : Row w S lu zs) (hS : S ≤ w.heap.size) (hl : xs.length ≤ 100000000) (hl2 : zs.length ≤ 100000000) :
    Calls Try.prog 34 #[.int .i64 n, lv, lu] w (ListPost (ifL (famB n xs && famB n zs) (sortL (xs ++ zs))) (famB n xs && famB n zs) w) := by
  have hm := Lib.hid (made_two 75 (enters_of Try.func75 (by kernel_rfl) rfl) #[] n lv lu xs zs (sortL (xs ++ zs)) S w hx hy hS hl hl2 (fun hf hg => ⟨union_fam xs zs w (two_of hf hg), sort_ok (fun z hz => by rcases List.mem_append.1 hz with h | h; exact famB_lt hf z h; exact famB_lt hg z h)⟩))
  obtain ⟨la, lc, rfl, _⟩ := id hx
  obtain ⟨lb, ld, rfl, _⟩ := id hy
  clear hx hy
  go_enter Try.func34, Try.ntmps34
  go_wp2_with fail
  refine hm.out.mono ?_
  rintro e w2 ⟨v, rfl, hO, hb⟩
  obtain ⟨ua, uc, rfl, _⟩ := id hO
  replace hO := Lib.hid hO
  replace hb := Lib.hid hb
  clear hm
  go_wp2_with fail
  go_ret2
  exact ⟨_, rfl, hO.out, hb.out⟩

theorem im_FamilyCommon (n : Int) (lv lu : Value) (xs zs : List Int) (S : Nat) (w : World) (hx : Row w S lv xs) (hy : Row w S lu zs) (hS : S ≤ w.heap.size) (hl : xs.length ≤ 100000000) (hl2 : zs.length ≤ 100000000) :
    Calls Try.prog 36 #[.int .i64 n, lv, lu] w (ListPost (ifL (famB n xs && famB n zs) (sortL (xs.filter (fun x => memB x zs)))) (famB n xs && famB n zs) w) := by
  have hm := Lib.hid (made_two 78 (enters_of Try.func78 (by kernel_rfl) rfl) #[] n lv lu xs zs (sortL (xs.filter (fun x => memB x zs))) S w hx hy hS hl hl2 (fun hf hg => ⟨common_fam xs zs w (two_of hf hg), sort_ok (fun z hz => famB_lt hf z (List.mem_filter.1 hz).1)⟩))
  obtain ⟨la, lc, rfl, _⟩ := id hx
  obtain ⟨lb, ld, rfl, _⟩ := id hy
  clear hx hy
  go_enter Try.func36, Try.ntmps36
  go_wp2_with fail
  refine hm.out.mono ?_
  rintro e w2 ⟨v, rfl, hO, hb⟩
  obtain ⟨ua, uc, rfl, _⟩ := id hO
  replace hO := Lib.hid hO
  replace hb := Lib.hid hb
  clear hm
  go_wp2_with fail
  go_ret2
  exact ⟨_, rfl, hO.out, hb.out⟩

theorem im_FamilyLess (n : Int) (lv lu : Value) (xs zs : List Int) (S : Nat) (w : World) (hx : Row w S lv xs) (hy : Row w S lu zs) (hS : S ≤ w.heap.size) (hl : xs.length ≤ 100000000) (hl2 : zs.length ≤ 100000000) :
    Calls Try.prog 38 #[.int .i64 n, lv, lu] w (ListPost (ifL (famB n xs && famB n zs) (sortL (xs.filter (fun x => !memB x zs)))) (famB n xs && famB n zs) w) := by
  have hm := Lib.hid (made_two 79 (enters_of Try.func79 (by kernel_rfl) rfl) #[] n lv lu xs zs (sortL (xs.filter (fun x => !memB x zs))) S w hx hy hS hl hl2 (fun hf hg => ⟨less_fam xs zs w (two_of hf hg), sort_ok (fun z hz => famB_lt hf z (List.mem_filter.1 hz).1)⟩))
  obtain ⟨la, lc, rfl, _⟩ := id hx
  obtain ⟨lb, ld, rfl, _⟩ := id hy
  clear hx hy
  go_enter Try.func38, Try.ntmps38
  go_wp2_with fail
  refine hm.out.mono ?_
  rintro e w2 ⟨v, rfl, hO, hb⟩
  obtain ⟨ua, uc, rfl, _⟩ := id hO
  replace hO := Lib.hid hO
  replace hb := Lib.hid hb
  clear hm
  go_wp2_with fail
  go_ret2
  exact ⟨_, rfl, hO.out, hb.out⟩

theorem im_FamilyMeets (n : Int) (lv lu : Value) (xs zs : List Int) (S : Nat) (w : World) (hx : Row w S lv xs) (hy : Row w S lu zs) (hS : S ≤ w.heap.size) (hl : xs.length ≤ 100000000) (hl2 : zs.length ≤ 100000000) :
    Calls Try.prog 50 #[.int .i64 n, lv, lu] w (ListPost (ifL (famB n xs && famB n zs) (sortL (pairsTo andI xs zs xs.length))) (famB n xs && famB n zs) w) := by
  have hm := Lib.hid (made_two 96 (enters_of Try.func96 (by kernel_rfl) rfl) #[] n lv lu xs zs (sortL (pairsTo andI xs zs xs.length)) S w hx hy hS hl hl2 (fun hf hg => ⟨meets_fam n xs zs w (two_of hf hg) (famB_all hf).2.2 (famB_all hg).2.2, sort_ok (fun z hz => by obtain ⟨x, hx, y, hy, rfl⟩ := pairs_mem hz; exact setB_lt (andI_set ((famB_all hf).2.2 x hx) ((famB_all hg).2.2 y hy)))⟩))
  obtain ⟨la, lc, rfl, _⟩ := id hx
  obtain ⟨lb, ld, rfl, _⟩ := id hy
  clear hx hy
  go_enter Try.func50, Try.ntmps50
  go_wp2_with fail
  refine hm.out.mono ?_
  rintro e w2 ⟨v, rfl, hO, hb⟩
  obtain ⟨ua, uc, rfl, _⟩ := id hO
  replace hO := Lib.hid hO
  replace hb := Lib.hid hb
  clear hm
  go_wp2_with fail
  go_ret2
  exact ⟨_, rfl, hO.out, hb.out⟩

theorem im_FamilyJoins (n : Int) (lv lu : Value) (xs zs : List Int) (S : Nat) (w : World) (hx : Row w S lv xs) (hy : Row w S lu zs) (hS : S ≤ w.heap.size) (hl : xs.length ≤ 100000000) (hl2 : zs.length ≤ 100000000) :
    Calls Try.prog 52 #[.int .i64 n, lv, lu] w (ListPost (ifL (famB n xs && famB n zs) (sortL (pairsTo orI xs zs xs.length))) (famB n xs && famB n zs) w) := by
  have hm := Lib.hid (made_two 99 (enters_of Try.func99 (by kernel_rfl) rfl) #[] n lv lu xs zs (sortL (pairsTo orI xs zs xs.length)) S w hx hy hS hl hl2 (fun hf hg => ⟨joins_fam n xs zs w (two_of hf hg) (famB_all hf).2.2 (famB_all hg).2.2, sort_ok (fun z hz => by obtain ⟨x, hx, y, hy, rfl⟩ := pairs_mem hz; exact setB_lt (orI_set ((famB_all hf).2.2 x hx) ((famB_all hg).2.2 y hy)))⟩))
  obtain ⟨la, lc, rfl, _⟩ := id hx
  obtain ⟨lb, ld, rfl, _⟩ := id hy
  clear hx hy
  go_enter Try.func52, Try.ntmps52
  go_wp2_with fail
  refine hm.out.mono ?_
  rintro e w2 ⟨v, rfl, hO, hb⟩
  obtain ⟨ua, uc, rfl, _⟩ := id hO
  replace hO := Lib.hid hO
  replace hb := Lib.hid hb
  clear hm
  go_wp2_with fail
  go_ret2
  exact ⟨_, rfl, hO.out, hb.out⟩

theorem level_clo (k : Int) (Bk : Nat) (xs : List Int) (w : World) (hB : Bk < w.heap.size) (hc : w.cell? ⟨Bk, 0, none⟩ = some (.int .i64 k)) (hx : ∀ z ∈ xs, 0 ≤ z ∧ z < 256) :
    PredV 71 #[] #[.pointer (some ⟨Bk, 0, none⟩)] (fun x => cntI x == k) xs w := fun W x hm hb => by
  have hcW : W.cell? ⟨Bk, 0, none⟩ = some (.int .i64 k) := (hb.cell (p := ⟨Bk, 0, none⟩) hB).trans hc
  obtain ⟨x1, x2⟩ := hx x hm
  have hs := fun w => (set_size x x1 x2 w).mono (fun _ _ h => (⟨h.1, h.2.symm⟩ : _ ∧ _))
  show Calls Try.prog 71 #[.int .u64 x, .pointer (some ⟨Bk, 0, none⟩)] W fun e w' => e = .returned (.bool (cntI x == k)) ∧ Below W.heap.size W w'
  obtain ⟨r, hr⟩ : ∃ r, cntI x = r := ⟨_, rfl⟩
  rw [hr] at hs ⊢
  replace hs := Lib.hid hs
  replace hr := Lib.hid hr
  replace hm := Lib.hid hm
  clear hx hc hb
  go_enter Try.func71, Try.ntmps71
  go_wp2_with fail
  go_quiet ((go_at_call 72; exact Calls.quiet_of_same (hs.out _)))
  go_wp2_with fail
  go_ret
  exact ⟨rfl, below_drewN (Below.refl _ _) _⟩
/-- k is a size. -/
def szB (n k : Int) : Bool := ptsB n && decide (0 ≤ k ∧ k ≤ n)
set_option maxHeartbeats 2000000 in
theorem im_FamilyLevel (n k : Int) (w : World) :
    Calls Try.prog 32 #[.int .i64 n, .int .i64 k] w (ListPost (ifL (szB n k) (sortL ((sortL (upI (2 ^ n.toNat))).filter (fun x => cntI x == k)))) (szB n k) w) := by
  have hmf := mkfunc
  have hpc := pts_in n
  rcases (by cases ptsB n <;> simp : ptsB n = true ∨ ptsB n = false) with hp | hp
  · rw [hp] at hpc
    obtain ⟨n1, n2⟩ := ptsB_yes hp
    replace hpc := Lib.hid hpc
    by_cases hk0 : 0 ≤ k
    · by_cases hkn : k ≤ n
      · have hb : szB n k = true := by unfold szB; rw [hp]; simp [hk0, hkn]
        rw [hb]
        have hall := all_sets n n1 n2
        have husz := upI_lt n1 n2
        obtain ⟨us, hus⟩ : ∃ us, sortL (upI (2 ^ n.toNat)) = us := ⟨_, rfl⟩
        have huA : us.length ≤ 256 := asc_len256 (hus ▸ asc_sortL _) (fun z hz => setB_lt (husz z (hus ▸ hz)))
        rw [hus] at hall husz ⊢
        have hk := fun (W : World) (lv : Value) (h0 : w.heap.size < W.heap.size) (hc : W.cell? ⟨w.heap.size, 0, none⟩ = some (.int .i64 k)) (hx : SRow W W.heap.size lv us) => kept_any 71 (enters_of Try.func71 (by kernel_rfl) rfl) #[] #[.pointer (some ⟨w.heap.size, 0, none⟩)] (fun x => cntI x == k) lv us _ W hx (Nat.le_refl _) (by omega) (fun z hz => setB_lt (husz z hz)) (level_clo k w.heap.size us W h0 hc (fun z hz => setB_lt (husz z hz)))
        obtain ⟨ys, hys⟩ : ∃ ys, sortL (us.filter (fun x => cntI x == k)) = ys := ⟨_, rfl⟩
        have hyz : ∀ z ∈ ys, 0 ≤ z ∧ z < 256 := fun z hz => setB_lt (husz z (List.mem_filter.1 (mem_sortL.1 (hys ▸ hz))).1)
        have hyl : ys.length ≤ 256 := asc_len256 (hys ▸ asc_sortL _) hyz
        rw [hys] at hk ⊢
        have hbb := (Below.refl w.heap.size w).alloc (Nat.le_refl _) (.cells #[.int .i64 k] 3)
        have hci := new_cell_int w k
        replace hall := Lib.hid hall
        replace hk := Lib.hid hk
        replace hus := Lib.hid hus
        replace hys := Lib.hid hys
        replace hyz := Lib.hid hyz
        replace husz := Lib.hid husz
        replace hp := Lib.hid hp
        replace hb := Lib.hid hb
        replace hbb := Lib.hid hbb
        replace hci := Lib.hid hci
        go_enter Try.func32, Try.ntmps32
        go_wp2_with (go_at_call 68; refine (hpc.out _).mono ?_; rintro e w' ⟨rfl, rfl⟩)
        refine (hall.out _).mono ?_
        rintro e w2 ⟨v2, rfl, hS2, hb2⟩
        obtain ⟨a2, c2, rfl⟩ := hS2.form
        rw [World.size_alloc] at hS2 hb2
        have hz2 := hb2.size
        rw [World.size_alloc] at hz2
        have hk2 := Lib.hid (hk.out w2 _ (by omega) ((hb2.cell (p := ⟨w.heap.size, 0, none⟩) (by simp)).trans hci.out) hS2.row)
        replace hb2 := Lib.hid (hbb.out.trans (hb2.mono (by omega)))
        clear hS2
        go_wp2_with fail
        refine hk2.out.mono ?_
        rintro e w3 ⟨v3, rfl, hS3, hb3⟩
        obtain ⟨a3, c3, rfl⟩ := hS3.form
        have hz3 := hb3.size
        have hb4 := Lib.hid ((hb2.out.trans (hb3.mono (by omega))).alloc (by omega) (.cells #[.slice a3 ys.length c3, (Value.func (.func 119) #[] #[])] 44))
        have hS4 := hS3.alloc (.cells #[.slice a3 ys.length c3, (Value.func (.func 119) #[] #[])] 44)
        have hnum := Lib.hid (numbers_at _ _ _ _ hS4.row (Nat.le_refl _) (by omega) hyz.out)
        clear hS3 hS4 hb3 hk2 hk hall
        go_wp2_with fail
        refine hnum.out.mono ?_
        rintro e w5 ⟨t, rfl, hO, hb5⟩
        obtain ⟨ua, uc, rfl, _⟩ := id hO
        rw [World.size_alloc] at hO hb5
        replace hb5 := Lib.hid (hb4.out.trans (hb5.mono (by omega)))
        replace hO := Lib.hid (hO.mono (show w.heap.size ≤ w3.heap.size + 1 by omega) (Nat.le_refl _))
        go_wp2_with fail
        go_ret2
        exact ⟨_, rfl, hO.out, hb5.out⟩
      · have hb : szB n k = false := by unfold szB; rw [hp]; simp; omega
        rw [hb]
        replace hp := Lib.hid hp
        replace hb := Lib.hid hb
        go_enter Try.func32, Try.ntmps32
        go_wp2_with (go_at_call 68; refine (hpc.out _).mono ?_; rintro e w' ⟨rfl, rfl⟩)
        go_ret2
        exact ⟨_, rfl, own_empty _ _ _ _ _, ((Below.refl _ _).alloc (Nat.le_refl _) _).alloc (by simp) _⟩
    · have hb : szB n k = false := by unfold szB; rw [hp]; simp; omega
      rw [hb]
      replace hp := Lib.hid hp
      replace hb := Lib.hid hb
      go_enter Try.func32, Try.ntmps32
      go_wp2_with (go_at_call 68; refine (hpc.out _).mono ?_; rintro e w' ⟨rfl, rfl⟩)
      go_ret2
      exact ⟨_, rfl, own_empty _ _ _ _ _, ((Below.refl _ _).alloc (Nat.le_refl _) _).alloc (by simp) _⟩
  · rw [hp] at hpc
    have hb : szB n k = false := by unfold szB; rw [hp]; rfl
    rw [hb]
    replace hpc := Lib.hid hpc
    replace hp := Lib.hid hp
    replace hb := Lib.hid hb
    go_enter Try.func32, Try.ntmps32
    go_wp2_with (go_at_call 68; refine (hpc.out _).mono ?_; rintro e w' ⟨rfl, rfl⟩)
    go_ret2
    exact ⟨_, rfl, own_empty _ _ _ _ _, ((Below.refl _ _).alloc (Nat.le_refl _) _).alloc (by simp) _⟩
end Go.Proofs.Ytpkomjnbbipnfaa
