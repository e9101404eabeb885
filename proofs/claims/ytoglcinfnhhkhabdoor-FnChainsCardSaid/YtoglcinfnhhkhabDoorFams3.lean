/- Families: made of lists of numbers, read. -/
import Derived.Test.YtoglcinfnhhkhabDoorFams2
namespace Go.Proofs.YtoglcinfnhhkhabDoor
open Go.ChangeShapes Go.WideShapes Go.ChangeAt Go.RowKit Go.Proofs

/-- the cells of a result that nothing has written yet. -/
theorem res_cells {W0 W1 : World} {h : Nat} (hh : W0.heap[h]? = some (.cells #[.slice none 0 0, .nilFunc] 39 (0, 0))) (hb : Below (h + 1) W0 W1) :
    W1.cell? ⟨h, 0, none⟩ = some (.slice none 0 0) ∧ W1.cell? ⟨h, 1, none⟩ = some .nilFunc ∧ W1.frozen? ⟨h, 0, none⟩ = false ∧ W1.frozen? ⟨h, 1, none⟩ = false := by
  have hr : W1.heap[h]? = some (.cells #[.slice none 0 0, .nilFunc] 39 (0, 0)) := by rw [hb.block h (by omega)]; exact hh
  exact ⟨by rw [cell_of_row W1 _ 0 _ 39 (0, 0) hr]; rfl, by rw [cell_of_row W1 _ 1 _ 39 (0, 0) hr]; rfl, frozen_of hr _, frozen_of hr _⟩
theorem fam_fin {w W1 : World} {h : Nat} {v : Value} {ys : List Int} (hS : SetL W1 (h + 1) v ys) (hb : Below w.heap.size w W1) (hh : w.heap.size ≤ h) :
    SetL ((W1.setCell ⟨h, 0, none⟩ v).setCell ⟨h, 1, none⟩ (Value.func (.func 32) #[] #[])) w.heap.size v ys ∧ Below w.heap.size w ((W1.setCell ⟨h, 0, none⟩ v).setCell ⟨h, 1, none⟩ (Value.func (.func 32) #[] #[])) :=
  ⟨((hS.store _ _ (by intro e; have := hS.lt _ e; dsimp only at this; omega)).store _ _ (by intro e; have := hS.lt _ e; dsimp only at this; omega)).mono (by omega),
    below_setCell (below_setCell hb hh _) hh _⟩
theorem fbox_new {w : World} {B : Nat} {v : Value} {ys : List Int} (hS : SetL w B v ys) (hB : B ≤ w.heap.size) : FBox (w.alloc (.cells #[v, (Value.func (.func 32) #[] #[])] 39)) B w.heap.size ys :=
  ⟨hB, v, heap_alloc_new w _, hS.alloc _⟩
theorem box_cells {w : World} {B bx : Nat} {xs : List Int} (h : FBox w B bx xs) : ∃ a c, w.cell? ⟨bx, 0, none⟩ = some (.slice a xs.length c) ∧ w.cell? ⟨bx, 1, none⟩ = some (Value.func (.func 32) #[] #[]) ∧ SetL w B (.slice a xs.length c) xs := by
  obtain ⟨_, v, hv, hS⟩ := h
  obtain ⟨a, c, rfl⟩ := hS.form
  exact ⟨a, c, by rw [cell_of_row w bx 0 _ 39 (0, 0) hv]; rfl, by rw [cell_of_row w bx 1 _ 39 (0, 0) hv]; rfl, hS⟩
theorem new_cell (w : World) (cs : Array Value) (t : TypeId) : (w.alloc (.cells cs t)).heap[w.heap.size]? = some (.cells cs t (0, 0)) := heap_alloc_new w _

theorem family_of (lv : Value) (xs : List Int) (S : Nat) (w : World) (hx : SRow w S lv xs) (hS : S ≤ w.heap.size) (hlen : ∀ k, k ≤ xs.length → (sortL (xs.take k)).length ≤ 1000) (hl : xs.length ≤ 100000000) :
    Calls Tryd.prog 20 #[lv] w (FamPost w (sortL xs)) := by
  have hs := Lib.hid (sorted_of lv xs S (w.alloc (.cells #[.slice none 0 0, .nilFunc] 39)) (hx.below ((Below.refl _ w).alloc (Nat.le_refl _) _) hS) (by simp; omega) hlen hl)
  obtain ⟨a, cap, rfl, _⟩ := id hx
  clear hx hlen
  go_enter Tryd.func20, Tryd.ntmps20
  go_wp2_with fail
  refine hs.out.mono ?_
  rintro e w1 ⟨v, rfl, hS1, hb1⟩
  obtain ⟨a', c', rfl⟩ := hS1.form
  rw [World.size_alloc] at hS1 hb1
  obtain ⟨d0, d1, df0, df1⟩ := res_cells (new_cell w _ _) hb1
  have rr := two_cells (.slice a' (sortL xs).length c') (Value.func (.func 32) #[] #[]) d0 d1
  have hff := Lib.hid (fam_fin hS1 (((Below.refl _ w).alloc (Nat.le_refl _) _).trans (hb1.mono (by omega))) (Nat.le_refl _))
  clear hS1 hb1
  go_wp2_with fail
  exact bodyPost_ret (v := .agg #[.slice a' (sortL xs).length c', (Value.func (.func 32) #[] #[])]) (by simp [results, Tryd.results20, go_sem, rr.1, rr.2]) rfl ⟨_, rfl, hff.out⟩
theorem family_nil (w : World) : Calls Tryd.prog 20 #[.slice none 0 0] w (FamPost w []) := family_of _ [] 0 w (SRow.nil w 0) (Nat.zero_le _) (fun k _ => by simp [sortL]) (by simp)

theorem allB_take {n : Int} {xs : List Int} (h : allB n xs = true) (k : Nat) : allB n (xs.take k) = true := List.all_eq_true.2 fun z hz => allB_yes h z (List.mem_of_mem_take hz)
theorem allB_step {n x : Int} {xs : List Int} {k : Nat} (hk : k < xs.length) (hx : xs.getD k 0 = x) (h : allB n (xs.take k) = true) (hs : setB n x = true) : allB n (xs.take (k + 1)) = true := by
  rw [take_snoc hk, hx]
  refine List.all_eq_true.2 fun z hz => ?_
  rcases List.mem_append.1 hz with hz | hz
  · exact allB_yes h z hz
  · rw [List.mem_singleton.1 hz]; exact hs
theorem allB_fail {n x : Int} {xs : List Int} {k : Nat} (hk : k < xs.length) (hx : xs.getD k 0 = x) (hs : setB n x = false) : allB n xs = false := by
  cases h : allB n xs with
  | false => rfl
  | true => have := allB_yes h _ (getD_mem hk); rw [hx, hs] at this; cases this
theorem take_len256 {n : Int} {xs : List Int} (h : allB n xs = true) : (sortL xs).length ≤ 256 := asc_len256 (asc_sortL xs) (fun z hz => setB_lt (allB_yes h z (mem_sortL.1 hz)))

/-- what collected leaves. -/
def ColPost (n : Int) (xs : List Int) (w : World) (e : Ending) (w' : World) : Prop :=
  (colB n xs = true ∧ ∃ v, e = .returned (.tuple #[.agg #[v, (Value.func (.func 32) #[] #[])], .bool true]) ∧ SetL w' w.heap.size v (sortL xs) ∧ Below w.heap.size w w') ∨
  (colB n xs = false ∧ e = .returned (.tuple #[.agg #[.slice none 0 0, .nilFunc], .bool false]) ∧ Below w.heap.size w w')
theorem set_in_cases (n s : Int) : setB n s = true ∨ setB n s = false := by cases setB n s <;> simp
end Go.Proofs.YtoglcinfnhhkhabDoor
