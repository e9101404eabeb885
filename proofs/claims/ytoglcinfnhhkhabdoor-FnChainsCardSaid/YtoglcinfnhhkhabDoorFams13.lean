/- What the program's functions on families return. -/
import Derived.Test.YtoglcinfnhhkhabDoorFams11
import Derived.Test.YtoglcinfnhhkhabDoorFams12
namespace Go.Proofs.YtoglcinfnhhkhabDoor
open Go.ChangeShapes Go.WideShapes Go.ChangeAt Go.RowKit Go.Proofs

theorem ListPost.lift {L : List Int} {b : Bool} {w : World} {o : Obj} {e : Ending} {w' : World} (h : ListPost L b (w.alloc o) e w') : ListPost L b w e w' := by
  obtain ⟨v, he, hO, hb⟩ := h
  rw [World.size_alloc] at hO hb
  exact ⟨v, he, hO.mono (by omega) (Nat.le_refl _), ((Below.refl _ w).alloc (Nat.le_refl _) o).trans (hb.mono (by omega))⟩
theorem sort_ok {ys : List Int} (h : ∀ z ∈ ys, 0 ≤ z ∧ z < 256) : (∀ z ∈ sortL ys, 0 ≤ z ∧ z < 256) ∧ (sortL ys).length ≤ 1000 :=
  ⟨fun z hz => h z (mem_sortL.1 hz), by have := len_small h; omega⟩
theorem two_of {n : Int} {xs zs : List Int} (h1 : famB n xs = true) (h2 : famB n zs = true) : TwoFam xs zs := ⟨famB_asc h1, famB_asc h2, famB_lt h1, famB_lt h2⟩
theorem new_cell_int (w : World) (k : Int) : (w.alloc (.cells #[.int .i64 k] 3)).cell? ⟨w.heap.size, 0, none⟩ = some (.int .i64 k) := by rw [World.cell?_alloc_at _ _ _ _ rfl]; rfl

/-- k is a size. -/
def szB (n k : Int) : Bool := ptsB n && decide (0 ≤ k ∧ k ≤ n)
end Go.Proofs.YtoglcinfnhhkhabDoor
