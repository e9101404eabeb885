/- Paired points of a set: plain mathematics, and two rows of integers that a call owns. -/
import Derived.Test.YtoglcinfnhhkhabDoorAllSp
import Derived.Laws.OwnMore
import Derived.WalkSmall
import Derived.OneCell
namespace Go.Proofs.YtoglcinfnhhkhabDoor
open Go.ChangeShapes Go.WideShapes Go.ChangeAt Go.RowKit Go.Proofs

/-- the points that wait for a partner behind j points of s. -/
def wtL (s : Int) : Nat → List Int
  | 0 => []
  | j + 1 => if hasB s (j : Nat) then (wtL s j).dropLast else wtL s j ++ [(j : Int)]
def prPut (xs : List Int) (p q : Nat) : List Int := (xs.set p (q : Int)).set q (p : Int)
/-- the partners of N points behind j points of s. -/
def pairL (s : Int) (N : Nat) : Nat → List Int
  | 0 => List.replicate N (-1)
  | j + 1 => if hasB s (j : Nat) then (match (wtL s j).getLast? with | some q => prPut (pairL s N j) j q.toNat | none => pairL s N j) else pairL s N j
theorem wt_len (s : Int) : ∀ j, (wtL s j).length ≤ j
  | 0 => Nat.le_refl _
  | j + 1 => by
    have h := wt_len s j
    unfold wtL
    split
    · rw [List.length_dropLast]; omega
    · rw [List.length_append, List.length_singleton]; omega
theorem wt_lt (s : Int) : ∀ j, ∀ x ∈ wtL s j, 0 ≤ x ∧ x < (j : Nat)
  | 0 => by simp [wtL]
  | j + 1 => by
    intro x hx
    have h := wt_lt s j x
    unfold wtL at hx
    split at hx
    · have := h (List.dropLast_subset _ hx); omega
    · rcases List.mem_append.1 hx with hx | hx
      · have := h hx; omega
      · simp at hx; omega
theorem prPut_len (xs : List Int) (p q : Nat) : (prPut xs p q).length = xs.length := by unfold prPut; rw [List.length_set, List.length_set]
theorem pr_len (s : Int) (N : Nat) : ∀ j, (pairL s N j).length = N
  | 0 => by simp [pairL]
  | j + 1 => by
    have h := pr_len s N j
    unfold pairL
    split
    · split
      · rw [prPut_len, h]
      · exact h
    · exact h
theorem wt_last {s : Int} {j : Nat} {q : Int} (h : (wtL s j).getLast? = some q) : ∃ t : Nat, q = (t : Nat) ∧ t < j ∧ wtL s j = (wtL s j).dropLast ++ [(t : Int)] := by
  have hm : q ∈ wtL s j := List.mem_of_getLast? h
  obtain ⟨a, b⟩ := wt_lt s j q hm
  refine ⟨q.toNat, by omega, by omega, ?_⟩
  rw [Int.toNat_of_nonneg a]
  obtain ⟨ys, hys⟩ := List.getLast?_eq_some_iff.1 h
  rw [hys]
  simp
theorem pr_grow (s : Int) (N : Nat) : ∀ j, j ≤ N → pairL s (N + 1) j = pairL s N j ++ [-1]
  | 0, _ => by unfold pairL; rw [List.replicate_succ']
  | j + 1, hj => by
    have h := pr_grow s N j (by omega)
    have hl := pr_len s N j
    unfold pairL
    split
    · rename_i hh
      rcases hq : (wtL s j).getLast? with _ | q
      · exact h
      · obtain ⟨t, rfl, ht, _⟩ := wt_last hq
        simp only [Int.toNat_natCast]
        rw [h]
        unfold prPut
        rw [List.set_append_left _ _ (by omega), List.set_append_left _ _ (by rw [List.length_set]; omega)]
    · exact h
/-- what a step does. -/
theorem wt_out {s : Int} {j : Nat} (h : hasB s (j : Nat) = false) : wtL s (j + 1) = wtL s j ++ [(j : Int)] := by rw [wtL, if_neg (by simp [h])]
theorem wt_in {s : Int} {j : Nat} (h : hasB s (j : Nat) = true) : wtL s (j + 1) = (wtL s j).dropLast := by rw [wtL, if_pos h]
theorem pr_out {s : Int} {N j : Nat} (h : hasB s (j : Nat) = false) : pairL s N (j + 1) = pairL s N j := by rw [pairL, if_neg (by simp [h])]
theorem pr_none {s : Int} {N j : Nat} (hw : wtL s j = []) : pairL s N (j + 1) = pairL s N j := by rw [pairL, hw]; simp
theorem pr_in {s : Int} {N j t : Nat} (h : hasB s (j : Nat) = true) (hw : (wtL s j).getLast? = some (t : Int)) : pairL s N (j + 1) = prPut (pairL s N j) j t := by rw [pairL, if_pos h, hw]; simp
/-- block g holds the N ints xs, the call's own. -/
def OwnN (w : World) (B g N cap : Nat) (xs : List Int) : Prop := w.ownsRow B 3 1 (.slice (some ⟨g, 0, none⟩) N cap) N (xs.map (Value.int .i64))
theorem OwnN.len {w : World} {B g N cap : Nat} {xs : List Int} (h : OwnN w B g N cap xs) : xs.length = N := by have := h.1; simpa using this
theorem OwnN.ofL {w : World} {B g N cap : Nat} {xs : List Int} (h : OwnL w B (.slice (some ⟨g, 0, none⟩) N cap) xs) (hl : xs.length = N) : OwnN w B g N cap xs := by
  subst hl
  exact h
theorem OwnN.toL {w : World} {B g N cap : Nat} {xs : List Int} (h : OwnN w B g N cap xs) : OwnL w B (.slice (some ⟨g, 0, none⟩) N cap) xs := by
  have hl := h.len
  subst hl
  exact h
theorem OwnN.put {w : World} {B g N cap : Nat} {xs : List Int} (h : OwnN w B g N cap xs) (p : Nat) (q : Int) : OwnN (w.setCell ⟨g, p, none⟩ (.int .i64 q)) B g N cap (xs.set p q) := by
  have h1 := (World.ownsRow.stored h p (.int .i64 q)).1
  rw [← List.map_set] at h1
  exact h1
theorem OwnN.cell {w : World} {B g N cap : Nat} {xs : List Int} (h : OwnN w B g N cap xs) {i : Nat} (hi : i < N) : w.cell? ⟨g, i, none⟩ = some (.int .i64 (xs.getD i 0)) := by
  have hl := h.len
  rw [World.ownsRow.cellAt h i (by omega), List.getElem?_map, List.getD_eq_getElem?_getD, List.getElem?_eq_getElem (by omega)]
  rfl
theorem OwnN.frozen {w : World} {B g N cap : Nat} {xs : List Int} (h : OwnN w B g N cap xs) (i : Nat) : w.frozen? ⟨g, i, none⟩ = false := World.ownsRow.frozenAt h i
theorem OwnN.ge {w : World} {B g N cap : Nat} {xs : List Int} (h : OwnN w B g N cap xs) : B ≤ g ∧ g < w.heap.size := World.ownsRow.lt h g rfl
theorem OwnN.alloc {w : World} {B g N cap : Nat} {xs : List Int} (h : OwnN w B g N cap xs) (o : Obj) : OwnN (w.alloc o) B g N cap xs := World.ownsRow.alloc h o
theorem OwnL.someN {w : World} {B : Nat} {v : Value} {xs : List Int} (h : OwnL w B v xs) (hx : xs ≠ []) : ∃ g cap, v = .slice (some ⟨g, 0, none⟩) xs.length cap ∧ OwnN w B g xs.length cap xs := by
  rcases id h.2 with ⟨rfl, hn⟩ | ⟨g, cap, cur, rfl, _⟩
  · exact absurd (List.length_eq_zero_iff.1 hn) hx
  · exact ⟨g, cap, rfl, h⟩
theorem OwnL.other {w : World} {B : Nat} {v : Value} {xs : List Int} (h : OwnL w B v xs) {a : Addr} (ha : v.ownBlock ≠ some a.block) (u : Value) : OwnL (w.setCell a u) B v xs := ownsRow_setCell_other h ha u
theorem OwnL.grown {w w' : World} {B : Nat} {v : Value} {xs : List Int} {row : Option Nat} (h : OwnL w B v xs) (hg : w.grownBy w' row) (hne : v.ownBlock ≠ row) : OwnL w' B v xs := World.ownsRow.kept h hg (.inr hne)
/-- its last one is taken. -/
theorem OwnN.pop {w : World} {B g cap : Nat} {xs : List Int} {q : Int} (h : OwnN w B g (xs.length + 1) cap (xs ++ [q])) : OwnN w B g xs.length cap xs := by
  unfold OwnN at h
  rw [List.map_append] at h
  exact ownsRow_pop (by simp) h
theorem own_lt {w : World} {B : Nat} {v : Value} {xs : List Int} (h : OwnL w B v xs) : v.ownBlock ≠ some w.heap.size := fun e => by
  have := (World.ownsRow.lt h _ e).2
  omega
end Go.Proofs.YtoglcinfnhhkhabDoor
