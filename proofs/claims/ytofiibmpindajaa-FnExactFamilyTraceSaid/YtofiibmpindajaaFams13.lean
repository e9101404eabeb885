/- What the program's functions on families return. -/
import Derived.Test.YtofiibmpindajaaFams11
import Derived.Test.YtofiibmpindajaaFams12
namespace Go.Proofs.Ytofiibmpindajaa
open Go.ChangeShapes Go.WideShapes Go.ChangeAt Go.RowKit Go.Proofs

theorem ListPost.lift {L : List Int} {b : Bool} {w : World} {o : Obj} {e : Ending} {w' : World} (h : ListPost L b (w.alloc o) e w') : ListPost L b w e w' := by
  obtain ⟨v, he, hO, hb⟩ := h
  rw [World.size_alloc] at hO hb
  exact ⟨v, he, hO.mono (by omega) (Nat.le_refl _), ((Below.refl _ w).alloc (Nat.le_refl _) o).trans (hb.mono (by omega))⟩
theorem sort_ok {ys : List Int} (h : ∀ z ∈ ys, 0 ≤ z ∧ z < 256) : (∀ z ∈ sortL ys, 0 ≤ z ∧ z < 256) ∧ (sortL ys).length ≤ 1000 :=
  ⟨fun z hz => h z (mem_sortL.1 hz), by have := len_small h; omega⟩
theorem two_of {n : Int} {xs zs : List Int} (h1 : famB n xs = true) (h2 : famB n zs = true) : TwoFam xs zs := ⟨famB_asc h1, famB_asc h2, famB_lt h1, famB_lt h2⟩
theorem new_cell_int (w : World) (k : Int) : (w.alloc (.cells #[.int .i64 k] 3)).cell? ⟨w.heap.size, 0, none⟩ = some (.int .i64 k) := by rw [World.cell?_alloc_at _ _ _ _ rfl]; rfl

set_option maxHeartbeats 1000000 in
theorem im_FamilyTrace (n s : Int) (lv : Value) (xs : List Int) (S : Nat) (w : World) (hx : Row w S lv xs) (hS : S ≤ w.heap.size) (hl : xs.length ≤ 100000000) :
    Calls Try.prog 9 #[.int .i64 n, lv, .int .i64 s] w (ListPost (ifL (setB n s && famB n xs) (sortL (xs.map (fun x => andI x s)))) (setB n s && famB n xs) w) := by
  have hmf := mkfunc
  rcases (by cases setB n s <;> simp : setB n s = true ∨ setB n s = false) with hp | hp
  · have hx' := hx.below ((Below.refl w.heap.size w).alloc (Nat.le_refl _) (.cells #[.int .i64 s] 3)) hS
    have hm := Lib.hid (made_one 25 (enters_of Try.func25 (by kernel_rfl) rfl) #[.pointer (some ⟨w.heap.size, 0, none⟩)] n lv xs (sortL (xs.map (fun x => andI x s))) S _ hx' (by simp; omega) hl (fun hf => by
      skip
      exact ⟨trace_fam n s w.heap.size xs _ (by simp) (new_cell_int w s) hp hf, sort_ok (fun z hz => by obtain ⟨y, hy, rfl⟩ := List.mem_map.1 hz; exact setB_lt (andI_set ((famB_all hf).2.2 y hy) hp))⟩))
    have hc := Lib.hid (set_in_yes n s hp)
    rw [hp, Bool.true_and]
    obtain ⟨la, lc, rfl, _⟩ := id hx
    replace hp := Lib.hid hp
    clear hx hx'
    go_enter Try.func9, Try.ntmps9
    go_wp2_with (go_at_call 23; refine (hc.out _).mono ?_; rintro e w' ⟨rfl, rfl⟩)
    refine hm.out.mono ?_
    rintro e w2 ⟨v, rfl, hO, hb⟩
    obtain ⟨ua, uc, rfl, _⟩ := id hO
    replace hO := Lib.hid hO
    replace hb := Lib.hid hb
    clear hm
    go_wp2_with fail
    go_ret2
    exact ListPost.lift ⟨_, rfl, hO.out, hb.out⟩
  · have hc := Lib.hid (set_in_no n s hp)
    rw [hp, Bool.false_and]
    obtain ⟨la, lc, rfl, _⟩ := id hx
    replace hp := Lib.hid hp
    clear hx
    go_enter Try.func9, Try.ntmps9
    go_wp2_with (go_at_call 23; refine (hc.out _).mono ?_; rintro e w' ⟨rfl, rfl⟩)
    go_ret2
    exact ⟨_, rfl, own_empty _ _ _ _ _, ((Below.refl _ _).alloc (Nat.le_refl _) _).alloc (by simp) _⟩

/-- k is a size. -/
def szB (n k : Int) : Bool := ptsB n && decide (0 ≤ k ∧ k ≤ n)
end Go.Proofs.Ytofiibmpindajaa
