/- The exact law of sets made of lists of points. -/
import Derived.Test.YtofiibmpindajaaSlices
namespace Go.Proofs.Ytofiibmpindajaa
open Go.ChangeShapes Go.WideShapes Go.ChangeAt Go.RowKit

theorem ret_ibx {k : IntKind} {a b : Int} {c d : Bool} (h : a = b) (h2 : c = d) : Ending.returned (.tuple #[.int k a, .bool c]) = .returned (.tuple #[.int k b, .bool d]) := by rw [h, h2]
/-- the set of the first k numbers of a list. -/
def sofTo (n : Int) (xs : List Int) : Nat → Option Int
  | 0 => some 0
  | k + 1 => match sofTo n xs k with
    | none => none
    | some s => if ptB n (xs.getD k 0) then some (withI s (xs.getD k 0)) else none
theorem sofTo_lt {n : Int} (hn : n ≤ 8) (xs : List Int) : ∀ (k : Nat) (s : Int), sofTo n xs k = some s → 0 ≤ s ∧ s < 256 := by
  intro k
  induction k with
  | zero => intro x h; simp [sofTo] at h; subst h; simp
  | succ k ih =>
    intro x h
    unfold sofTo at h
    cases hr : sofTo n xs k with
    | none => rw [hr] at h; cases h
    | some y =>
      rw [hr] at h
      have := ih y hr
      simp only at h
      split at h
      · rename_i hp
        have := ptB_yes hp
        injection h with h
        subst h
        exact with_lt (by omega) (by omega) (by omega) (by omega)
      · cases h
theorem sofTo_none {n : Int} {xs : List Int} {k : Nat} (h : sofTo n xs k = none) : ∀ j, sofTo n xs (k + j) = none := by
  intro j
  induction j with
  | zero => exact h
  | succ j ih => show sofTo n xs (k + j + 1) = none; unfold sofTo; rw [ih]
/-- what SetOf returns for points in range. -/
def sofV (n : Int) (xs : List Int) : Int := if ptsB n then (sofTo n xs xs.length).getD 0 else 0
def sofB (n : Int) (xs : List Int) : Bool := ptsB n && (sofTo n xs xs.length).isSome
theorem sof_done {n : Int} {xs : List Int} {s : Int} (hp : ptsB n = true) (h : sofTo n xs xs.length = some s) : s = sofV n xs ∧ true = sofB n xs := by
  unfold sofV sofB; rw [h, hp]; exact ⟨rfl, rfl⟩
theorem sof_fail {n : Int} {xs : List Int} {k : Nat} (hk : k ≤ xs.length) (h : sofTo n xs k = none) : (0 : Int) = sofV n xs ∧ false = sofB n xs := by
  have := sofTo_none h (xs.length - k)
  rw [Nat.add_sub_cancel' hk] at this
  unfold sofV sofB; rw [this]; simp
theorem sof_no {n : Int} {xs : List Int} (hp : ptsB n = false) : (0 : Int) = sofV n xs ∧ false = sofB n xs := by
  unfold sofV sofB; rw [hp]; simp
theorem sof_step {n : Int} {xs : List Int} {k : Nat} {s x : Int} (hx : xs.getD k 0 = x) (h : sofTo n xs k = some s) (hp : ptB n x = true) : sofTo n xs (k + 1) = some (withI s x) := by
  unfold sofTo; rw [h]; simp only; rw [hx, if_pos hp]
theorem sof_stop {n : Int} {xs : List Int} {k : Nat} {s x : Int} (hx : xs.getD k 0 = x) (h : sofTo n xs k = some s) (hp : ptB n x = false) : sofTo n xs (k + 1) = none := by
  unfold sofTo; rw [h]; simp only; rw [hx, if_neg (by simp [hp])]

end Go.Proofs.Ytofiibmpindajaa
