/- Families: kept, changed, combined with functions that are handed in. -/
import Derived.Test.YtoglcinfnhhkhabDoorFams4
import Derived.Shelf.Abstract
namespace Go.Proofs.YtoglcinfnhhkhabDoor
open Go.ChangeShapes Go.WideShapes Go.ChangeAt Go.RowKit Go.Proofs

/-- a call of g enters it. -/
def EntersG (g : Nat) : Prop := ∀ args w, (callFunc g args).run Tryd.prog w = .ok (.enter g args) w
/-- the function value g, bound to rs ahead and cs behind, says p at each set of the list, whatever is laid on top of w. -/
def PredV (g : Nat) (rs cs : Array Value) (p : Int → Bool) (xs : List Int) (w : World) : Prop :=
  ∀ (W : World) (x : Int), x ∈ xs → Below w.heap.size w W → Calls Tryd.prog g (rs.push (.int .u64 x) ++ cs) W fun e w' => e = .returned (.bool (p x)) ∧ Below W.heap.size W w'
theorem pair_cells {W0 W1 : World} {h B : Nat} {u v : Value} (hh : W0.heap[h]? = some (.cells #[u, v] 39 (0, 0))) (hb : Below B W0 W1) (hB : h < B) : W1.cell? ⟨h, 0, none⟩ = some u ∧ W1.cell? ⟨h, 1, none⟩ = some v := by
  have hr : W1.heap[h]? = some (.cells #[u, v] 39 (0, 0)) := by rw [hb.block h hB]; exact hh
  exact ⟨by rw [cell_of_row W1 _ 0 _ 39 (0, 0) hr]; rfl, by rw [cell_of_row W1 _ 1 _ 39 (0, 0) hr]; rfl⟩
theorem new_cell2 (w : World) (cs : Array Value) (t : TypeId) (o : Obj) : ((w.alloc (.cells cs t)).alloc o).heap[w.heap.size]? = some (.cells cs t (0, 0)) := by rw [Below.heap_alloc _ _ _ (by simp)]; exact heap_alloc_new w _
theorem new_cell1 (w : World) (cs : Array Value) (t : TypeId) (o : Obj) : ((w.alloc o).alloc (.cells cs t)).heap[w.heap.size + 1]? = some (.cells cs t (0, 0)) := by
  have := new_cell (w.alloc o) cs t
  rw [World.size_alloc] at this
  exact this
theorem filter_take {xs : List Int} {k : Nat} {x : Int} (hk : k < xs.length) (hx : xs.getD k 0 = x) (p : Int → Bool) : (xs.take (k + 1)).filter p = (xs.take k).filter p ++ (if p x then [x] else []) := by rw [take_snoc hk, hx, filter_snoc]
theorem len_small {xs : List Int} (h : ∀ z ∈ xs, 0 ≤ z ∧ z < 256) : (sortL xs).length ≤ 256 := asc_len256 (asc_sortL xs) (fun z hz => h z (mem_sortL.1 hz))
end Go.Proofs.YtoglcinfnhhkhabDoor
