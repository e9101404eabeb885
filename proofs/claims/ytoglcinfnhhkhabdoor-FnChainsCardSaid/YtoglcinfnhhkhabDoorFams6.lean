/- Families: changed and combined with functions that are handed in. -/
import Derived.Test.YtoglcinfnhhkhabDoorFams5
namespace Go.Proofs.YtoglcinfnhhkhabDoor
open Go.ChangeShapes Go.WideShapes Go.ChangeAt Go.RowKit Go.Proofs

/-- the function value g, bound to rs ahead and cs behind, gives f at each set of the list. -/
def MapV (g : Nat) (rs cs : Array Value) (f : Int → Int) (xs : List Int) (w : World) : Prop :=
  ∀ (W : World) (x : Int), x ∈ xs → Below w.heap.size w W → Calls Tryd.prog g (rs.push (.int .u64 x) ++ cs) W fun e w' => e = .returned (.int .u64 (f x)) ∧ Below W.heap.size W w'
theorem map_take {xs : List Int} {k : Nat} {x : Int} (hk : k < xs.length) (hx : xs.getD k 0 = x) (f : Int → Int) : (xs.take (k + 1)).map f = (xs.take k).map f ++ [f x] := by rw [take_snoc hk, hx, List.map_append]; rfl
/-- the function value g gives F at each pair of sets of two lists. -/
def PairV (g : Nat) (rs cs : Array Value) (F : Int → Int → Int) (xs ys : List Int) (w : World) : Prop :=
  ∀ (W : World) (x y : Int), x ∈ xs → y ∈ ys → Below w.heap.size w W → Calls Tryd.prog g (rs ++ (#[.int .u64 x, .int .u64 y] ++ cs)) W fun e w' => e = .returned (.int .u64 (F x y)) ∧ Below W.heap.size W w'
/-- what is made of the first k of one list with all of the other. -/
def pairsTo (F : Int → Int → Int) (xs ys : List Int) (k : Nat) : List Int := (xs.take k).flatMap fun a => ys.map (F a)
theorem pairs_step {xs ys : List Int} {k : Nat} {x : Int} (hk : k < xs.length) (hx : xs.getD k 0 = x) (F : Int → Int → Int) : pairsTo F xs ys (k + 1) = pairsTo F xs ys k ++ ys.map (F x) := by
  unfold pairsTo; rw [take_snoc hk, hx, List.flatMap_append]; simp
theorem pairs_mem {xs ys : List Int} {k : Nat} {F : Int → Int → Int} {z : Int} (h : z ∈ pairsTo F xs ys k) : ∃ a ∈ xs, ∃ b ∈ ys, z = F a b := by
  unfold pairsTo at h
  obtain ⟨a, ha, hz⟩ := List.mem_flatMap.1 h
  obtain ⟨b, hb, rfl⟩ := List.mem_map.1 hz
  exact ⟨a, List.mem_of_mem_take ha, b, hb, rfl⟩
theorem new_cell3a (w : World) (cs : Array Value) (t : TypeId) (o o2 : Obj) : (((w.alloc (.cells cs t)).alloc o).alloc o2).heap[w.heap.size]? = some (.cells cs t (0, 0)) := by rw [Below.heap_alloc _ _ _ (by simp; omega), Below.heap_alloc _ _ _ (by simp)]; exact heap_alloc_new w _
theorem new_cell3b (w : World) (cs : Array Value) (t : TypeId) (o o2 : Obj) : (((w.alloc o).alloc (.cells cs t)).alloc o2).heap[w.heap.size + 1]? = some (.cells cs t (0, 0)) := by rw [Below.heap_alloc _ _ _ (by simp)]; exact new_cell1 w cs t o
theorem new_cell3c (w : World) (cs : Array Value) (t : TypeId) (o o2 : Obj) : (((w.alloc o).alloc o2).alloc (.cells cs t)).heap[w.heap.size + 2]? = some (.cells cs t (0, 0)) := by
  have := new_cell1 (w.alloc o) cs t o2
  rw [World.size_alloc] at this
  exact this
end Go.Proofs.YtoglcinfnhhkhabDoor
