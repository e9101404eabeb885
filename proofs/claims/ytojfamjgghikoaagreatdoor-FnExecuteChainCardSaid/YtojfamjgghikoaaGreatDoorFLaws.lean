/- The exact laws of functions of lists. -/
import Derived.Test.YtojfamjgghikoaaGreatDoorFams13
import Derived.Test.YtojfamjgghikoaaGreatDoorAllSp
namespace Go.Proofs.YtojfamjgghikoaaGreatDoor
open Go.ChangeShapes Go.WideShapes Go.ChangeAt Go.RowKit Go.Proofs

/-- the blocks from S on are as they were. -/
def KeepUp (S : Nat) (w w' : World) : Prop := ∀ j, S ≤ j → w'.heap[j]? = w.heap[j]?
theorem Own.up {w w' : World} {C S T : Nat} {v : Value} {xs : List Int} (h : Own w C S v xs) (hk : KeepUp T w w') (hT : T ≤ C) : Own w' C S v xs := by
  obtain ⟨a, cap, rfl, h⟩ := h
  refine ⟨a, cap, rfl, fun hl => ?_⟩
  obtain ⟨b, off, rfl, hB, hs, hc, hf⟩ := h hl
  exact ⟨b, off, rfl, hB, hs, fun i hi => (World.cell?_of_block (a := ⟨b, off + i, none⟩) (hk b (by omega))).trans (hc i hi), fun i hi => (World.frozen?_of_block (a := ⟨b, off + i, none⟩) (hk b (by omega))).trans (hf i hi)⟩
theorem same_self (L : List Int) : sameB L L = true := decide_eq_true rfl

theorem ifL_len {b : Bool} {ys : List Int} (h : b = true → ys.length ≤ 1000000) : (ifL b ys).length ≤ 1000000 := by
  unfold ifL
  cases b with
  | false => simp
  | true => exact h rfl
theorem sort_len {ys : List Int} (h : ∀ z ∈ ys, 0 ≤ z ∧ z < 256) : (sortL ys).length ≤ 1000000 := by have := len_small h; omega
end Go.Proofs.YtojfamjgghikoaaGreatDoor
