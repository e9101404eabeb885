/- The model's functions on families: which lists are families; marks; lists of marks. -/
import Derived.Test.YtffnpignkimkhaaDoorFams4
namespace Go.Proofs.YtffnpignkimkhaaDoor
open Go.ChangeShapes Go.WideShapes Go.ChangeAt Go.RowKit Go.Proofs

theorem asc_step {xs : List Int} {k : Nat} {x : Int} (hk : k < xs.length) (hx : xs.getD k 0 = x) (hA : Asc (xs.take k)) (h : k = 0 ∨ xs.getD (k - 1) 0 < x) : Asc (xs.take (k + 1)) := by
  rw [take_snoc hk, hx]
  refine asc_snoc hA fun a ha => ?_
  rcases h with rfl | h
  · simp at ha
  · obtain ⟨i, hi, rfl⟩ := List.getElem_of_mem ha
    have hi' : i < k := by rw [List.length_take] at hi; omega
    have e : (xs.take k)[i] = xs.getD i 0 := by rw [List.getElem_take, List.getD_eq_getElem?_getD, List.getElem?_eq_getElem (by omega)]; rfl
    rw [e]
    by_cases e2 : i = k - 1
    · subst e2; exact h
    · have h3 := asc_get hA (i := i) (j := k - 1) (by omega) (by rw [List.length_take]; omega)
      have e3 : ∀ j, j < k → (xs.take k).getD j 0 = xs.getD j 0 := fun j hj => by rw [List.getD_eq_getElem?_getD, List.getElem?_take, if_pos hj, List.getD_eq_getElem?_getD]
      rw [e3 i hi', e3 (k - 1) (by omega)] at h3
      omega
theorem le_prev {a b : Int} (h : ¬ a < b) : decide (b ≤ a) = true := decide_eq_true (by omega)
theorem lt_prev {a b : Int} (h : a < b) : decide (b ≤ a) = false := decide_eq_false (by omega)
theorem sp_set_q {n x : Int} {b : Bool} (h : setB n x = b) (W : World) (m : Nat) : Calls Tryd.prog 23 #[.int .i64 n, .int .i64 x] (W.drewN m) fun e w' => e = .returned (.bool b) ∧ ∃ q, w' = W.drewN q := by
  cases b with
  | true => exact (sp_set_in_yes n x h _).mono fun _ _ ⟨a, b⟩ => ⟨a, m, b.symm⟩
  | false => exact (sp_set_in_no n x h _).mono fun _ _ ⟨a, b⟩ => ⟨a, m, b.symm⟩
end Go.Proofs.YtffnpignkimkhaaDoor
