/- Flowers in large families of sets of one size (the sunflower lemma): plain mathematics. -/
import Derived.Test.YtilkcfikmlkeaaaFl1
import Derived.Test.YtilkcfikmlkeaaaLy1
namespace Go.Proofs.Ytilkcfikmlkeaaa
open Go.ChangeShapes Go.WideShapes Go.ChangeAt Go.RowKit Go.Proofs

/-- the common part of a flower's first leaves. -/
theorem core_take {c : Int} {L : List Int} (h : FlTo c L L.length) : ∀ k, 2 ≤ k → k ≤ L.length → coreI (L.take k) = c
  | 0, h2, _ => by omega
  | 1, h2, _ => by omega
  | 2, _, hl => by
    have e : L.take 2 = L.take 1 ++ [L.getD 1 0] := by
      rw [List.take_add_one]
      simp [List.getD, show 1 < L.length by omega]
    have e1 : L.take 1 = [L.getD 0 0] := by
      rw [show (1 : Nat) = 0 + 1 from rfl, List.take_add_one]
      simp [List.getD, show 0 < L.length by omega]
    rw [e, core_snoc (by rw [List.length_take]; omega), e1]
    show andI (L.getD 0 0) (L.getD 1 0) = c
    rw [andI_comm]
    exact h 1 (by omega) 0 (by omega)
  | k + 3, _, hl => by
    have ih := core_take h (k + 2) (by omega) (by omega)
    have e : L.take (k + 3) = L.take (k + 2) ++ [L.getD (k + 2) 0] := by
      rw [List.take_add_one]
      simp [List.getD, show k + 2 < L.length by omega]
    rw [e, core_snoc (by rw [List.length_take]; omega), ih]
    have h1 := h (k + 2) (by omega) 0 (by omega)
    rw [← h1]
    rw [andI_comm (L.getD (k + 2) 0) (L.getD 0 0)]
    exact andI_absorb _ _
theorem flow_take {c : Int} {L : List Int} (h : FlTo c L L.length) (k : Nat) : flowB (L.take k) = true := by
  have gt : ∀ i, i < (L.take k).length → (L.take k).getD i 0 = L.getD i 0 := fun i hi => by
    rw [List.length_take] at hi
    simp [List.getD, show i < k by omega]
  refine flow_yes (fun i hi j hj => ?_)
  have hi2 := hi
  rw [List.length_take] at hi2
  rw [gt i hi, gt j (by omega), h i (by omega) j hj]
  by_cases hk : k ≤ L.length
  · exact (core_take h k (by omega) hk).symm
  · rw [List.take_of_length_le (by omega)]
    have := core_take h L.length (by omega) (Nat.le_refl _)
    rw [List.take_of_length_le (Nat.le_refl _)] at this
    exact this.symm
/-- a search that can find something finds something. -/
theorem srch_some : ∀ (d : Nat) (rest L t : List Int), t.length = d → t.Sublist rest → (∀ k, flowB (L ++ t.take k) = true) → (srch pkB d rest L).isSome = true
  | 0, _, _, _, _, _, _ => rfl
  | d + 1, rest, L, t, hd, hs, hf => by
    show (stepS (srch pkB d) pkB L rest).isSome = true
    induction rest with
    | nil =>
      have : t = [] := List.sublist_nil.1 hs
      subst this
      simp at hd
    | cons y rest ih =>
      unfold stepS
      cases hs with
      | cons _ h =>
        have h1 := ih h
        split
        · split
          · rfl
          · exact h1
        · exact h1
      | cons_cons _ h =>
        rename_i t'
        have hp : pkB L y = true := by
          have := hf 1
          simpa [pkB] using this
        rw [if_pos hp]
        have h1 := srch_some d rest (L ++ [y]) t' (by simpa using hd) h (fun k => by
          have := hf (k + 1)
          simpa using this)
        split
        · rfl
        · rename_i e
          rw [e] at h1
          cases h1
end Go.Proofs.Ytilkcfikmlkeaaa
