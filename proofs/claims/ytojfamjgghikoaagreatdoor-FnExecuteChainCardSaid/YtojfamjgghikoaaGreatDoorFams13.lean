/- What the program's functions on families return. -/
import Derived.Test.YtojfamjgghikoaaGreatDoorFams11
import Derived.Test.YtojfamjgghikoaaGreatDoorFams12
namespace Go.Proofs.YtojfamjgghikoaaGreatDoor
open Go.ChangeShapes Go.WideShapes Go.ChangeAt Go.RowKit Go.Proofs

theorem ListPost.lift {L : List Int} {b : Bool} {w : World} {o : Obj} {e : Ending} {w' : World} (h : ListPost L b (w.alloc o) e w') : ListPost L b w e w' := by
  obtain ⟨v, he, hO, hb⟩ := h
  rw [World.size_alloc] at hO hb
  exact ⟨v, he, hO.mono (by omega) (Nat.le_refl _), ((Below.refl _ w).alloc (Nat.le_refl _) o).trans (hb.mono (by omega))⟩
theorem sort_ok {ys : List Int} (h : ∀ z ∈ ys, 0 ≤ z ∧ z < 256) : (∀ z ∈ sortL ys, 0 ≤ z ∧ z < 256) ∧ (sortL ys).length ≤ 1000 :=
  ⟨fun z hz => h z (mem_sortL.1 hz), by have := len_small h; omega⟩
theorem two_of {n : Int} {xs zs : List Int} (h1 : famB n xs = true) (h2 : famB n zs = true) : TwoFam xs zs := ⟨famB_asc h1, famB_asc h2, famB_lt h1, famB_lt h2⟩
theorem new_cell_int (w : World) (k : Int) : (w.alloc (.cells #[.int .i64 k] 3)).cell? ⟨w.heap.size, 0, none⟩ = some (.int .i64 k) := by rw [World.cell?_alloc_at _ _ _ _ rfl]; rfl

theorem im_FamilyOther (n : Int) (lv : Value) (xs : List Int) (S : Nat) (w : World) (hx : Row w S lv xs) (hS : S ≤ w.heap.size) (hl : xs.length ≤ 100000000) :
    Calls Tryz.prog 156 #[.int .i64 n, lv] w (ListPost (ifL (famB n xs) (sortL (xs.map (otherI n)))) (famB n xs) w) := by
  have hmf := mkfunc
  have hx' := hx.below ((Below.refl w.heap.size w).alloc (Nat.le_refl _) (.cells #[.int .i64 n] 3)) hS
  have hm := Lib.hid (made_one 221 (enters_of Tryz.func221 (by kernel_rfl) rfl) #[.pointer (some ⟨w.heap.size, 0, none⟩)] n lv xs (sortL (xs.map (otherI n))) S _ hx' (by simp; omega) hl (fun hf => ⟨other_fam n w.heap.size xs _ (by simp) (new_cell_int w n) hf, sort_ok (fun z hz => by obtain ⟨y, hy, rfl⟩ := List.mem_map.1 hz; exact setB_lt (other_set ((famB_all hf).2.2 y hy)))⟩))
  obtain ⟨la, lc, rfl, _⟩ := id hx
  clear hx hx'
  go_enter Tryz.func156, Tryz.ntmps156
  go_wp2_with fail
  refine hm.out.mono ?_
  rintro e w2 ⟨v, rfl, hO, hb⟩
  obtain ⟨ua, uc, rfl, _⟩ := id hO
  replace hO := Lib.hid hO
  replace hb := Lib.hid hb
  clear hm
  go_wp2_with fail
  go_ret2
  exact ListPost.lift ⟨_, rfl, hO.out, hb.out⟩

theorem im_FamilyUnion (n : Int) (lv lu : Value) (xs zs : List Int) (S : Nat) (w : World) (hx : Row w S lv xs) (hy : Row w S lu zs) (hS : S ≤ w.heap.size) (hl : xs.length ≤ 100000000) (hl2 : zs.length ≤ 100000000) :
    Calls Tryz.prog 145 #[.int .i64 n, lv, lu] w (ListPost (ifL (famB n xs && famB n zs) (sortL (xs ++ zs))) (famB n xs && famB n zs) w) := by
  have hm := Lib.hid (made_two 201 (enters_of Tryz.func201 (by kernel_rfl) rfl) #[] n lv lu xs zs (sortL (xs ++ zs)) S w hx hy hS hl hl2 (fun hf hg => ⟨union_fam xs zs w (two_of hf hg), sort_ok (fun z hz => by rcases List.mem_append.1 hz with h | h; exact famB_lt hf z h; exact famB_lt hg z h)⟩))
  obtain ⟨la, lc, rfl, _⟩ := id hx
  obtain ⟨lb, ld, rfl, _⟩ := id hy
  clear hx hy
  go_enter Tryz.func145, Tryz.ntmps145
  go_wp2_with fail
  refine hm.out.mono ?_
  rintro e w2 ⟨v, rfl, hO, hb⟩
  obtain ⟨ua, uc, rfl, _⟩ := id hO
  replace hO := Lib.hid hO
  replace hb := Lib.hid hb
  clear hm
  go_wp2_with fail
  go_ret2
  exact ⟨_, rfl, hO.out, hb.out⟩

/-- k is a size. -/
def szB (n k : Int) : Bool := ptsB n && decide (0 ≤ k ∧ k ≤ n)
end Go.Proofs.YtojfamjgghikoaaGreatDoor
