/- Lists of lists of integers in memory: each is filled. -/
import Derived.Test.YtoglcinfnhhkhabDoorSs1
namespace Go.Proofs.YtoglcinfnhhkhabDoor
open Go.ChangeShapes Go.WideShapes Go.ChangeAt Go.RowKit

/-- all blocks but g are as they were. -/
def ButAt (g : Nat) (w w' : World) : Prop := ∀ b, b ≠ g → w'.heap[b]? = w.heap[b]?
theorem ButAt.set {g : Nat} {w w' : World} (h : ButAt g w w') (o : Nat) (v : Value) : ButAt g w (w'.setCell ⟨g, o, none⟩ v) := fun b hb => (Below.heap_setCell _ _ _ _ (by exact hb)).trans (h b hb)
/-- the call's own lists: V i lies in block K i. -/
def OwnR (w : World) (B S : Nat) (V : Nat → Value) (K : Nat → Nat) (Ls : List (List Int)) : Prop := ∀ i, i < Ls.length → Own w B S (V i) (Ls.getD i []) ∧ ∃ o c, V i = .slice (some ⟨K i, o, none⟩) (Ls.getD i []).length c
theorem cell_heap {w w' : World} {b : Nat} (h : w'.heap[b]? = w.heap[b]?) (o : Nat) : w'.cell? ⟨b, o, none⟩ = w.cell? ⟨b, o, none⟩ ∧ w'.frozen? ⟨b, o, none⟩ = w.frozen? ⟨b, o, none⟩ := by
  unfold World.cell? World.frozen?
  rw [h]
  exact ⟨rfl, rfl⟩
theorem own_but {w w' : World} {B S g : Nat} {v : Value} {xs : List Int} (h : Own w B S v xs) (hb : ButAt g w w') {k o c n : Nat} (hv : v = .slice (some ⟨k, o, none⟩) n c) (hk : k ≠ g) : Own w' B S v xs := by
  obtain ⟨a, cap, e, h⟩ := h
  rw [e] at hv
  cases hv
  refine ⟨_, _, e, fun hp => ?_⟩
  obtain ⟨b, off, e', h1, h2, h3, h4⟩ := h hp
  cases e'
  have hh := hb k hk
  exact ⟨k, o, rfl, h1, h2, fun i hi => (cell_heap hh _).1.trans (h3 i hi), fun i hi => (cell_heap hh _).2.trans (h4 i hi)⟩
/-- the first k lists filled, the others as they were. -/
def mixL (m : Int) (Ls : List (List Int)) (k i : Nat) : List Int := if i < k then marks (ofsI m Ls i) (Ls.getD i []).length else Ls.getD i []
theorem mixL_len (m : Int) (Ls : List (List Int)) (k i : Nat) : (mixL m Ls k i).length = (Ls.getD i []).length := by
  unfold mixL
  split
  · rw [marks_len]
  · rfl
end Go.Proofs.YtoglcinfnhhkhabDoor
