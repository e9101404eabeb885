/- Sets with a common point: plain mathematics, the program's method, its search for a set that is missed, the model's function. -/
import Derived.Test.YtilkcfikmlkeaaaFams13
import Derived.BigQuiet
namespace Go.Proofs.Ytilkcfikmlkeaaa
open Go.ChangeShapes Go.WideShapes Go.ChangeAt Go.RowKit Go.Proofs

/-- two sets have a common point. -/
def meetB (x y : Int) : Bool := andI x y != 0
theorem meet_comm (x y : Int) : meetB x y = meetB y x := by unfold meetB andI; rw [Nat.and_comm]
theorem andI_bd {x : Int} (y : Int) (h1 : 0 ≤ x) (h2 : x < 256) : 0 ≤ andI x y ∧ andI x y < 256 := by
  have h : x.toNat &&& y.toNat ≤ x.toNat := Nat.and_le_left
  unfold andI
  omega
theorem andI_self {x : Int} (h : 0 ≤ x) : andI x x = x := by unfold andI; rw [Nat.and_self]; omega
theorem meet_self {x : Int} (h : 0 ≤ x) : meetB x x = !(x == 0) := by
  unfold meetB; rw [andI_self h]; rfl
theorem meet_zero (y : Int) : meetB 0 y = false := by unfold meetB andI; simp
theorem find_at {xs : List Int} {k : Nat} {x : Int} {p : Int → Bool} (hk : k < xs.length) (hx : xs.getD k 0 = x) (hn : (xs.take k).any p = false) (hp : p x = true) : xs.find? p = some x := by
  have h : xs = xs.take k ++ x :: xs.drop (k + 1) := by
    have h2 := List.take_append_drop k xs
    rw [List.drop_eq_getElem_cons hk] at h2
    have hk2 : xs[k] = x := by rw [← hx]; simp [List.getD, hk]
    rw [hk2] at h2
    exact h2.symm
  rw [h, List.find?_append]
  have h3 : (xs.take k).find? p = none := by
    rw [List.find?_eq_none]
    intro z hz hpz
    have := List.any_eq_true.2 ⟨z, hz, hpz⟩
    rw [hn] at this; cases this
  rw [h3, List.find?_cons_of_pos hp]; rfl
theorem all_take {xs : List Int} {k : Nat} {x : Int} (hk : k < xs.length) (hx : xs.getD k 0 = x) (p : Int → Bool) : (xs.take (k + 1)).all p = ((xs.take k).all p && p x) := by
  rw [take_snoc hk, hx, List.all_append]; simp
theorem all_not {xs : List Int} {p : Int → Bool} (h : xs.all p = true) : xs.any (fun x => !p x) = false := by
  rw [List.any_eq_false]
  intro x hx
  simp [List.all_eq_true.1 h x hx]
/-- the first set with which s has no common point. -/
def missL (s : Int) (xs : List Int) : Option Int := xs.find? (fun x => !meetB s x)
theorem miss_none {s : Int} {xs : List Int} : missL s xs = none ↔ xs.all (meetB s) = true := by
  unfold missL
  rw [List.find?_eq_none, List.all_eq_true]
  simp
theorem miss_some {s x : Int} {xs : List Int} (h : missL s xs = some x) : x ∈ xs ∧ meetB s x = false ∧ xs.all (meetB s) = false := by
  have h1 := List.mem_of_find?_eq_some h
  have h2 := List.find?_some h
  have h3 : meetB s x = false := by simpa using h2
  refine ⟨h1, h3, ?_⟩
  rw [List.all_eq_false]
  exact ⟨x, h1, by rw [h3]; simp⟩
/-- all sets of two lists meet. -/
def crossB (xs zs : List Int) : Bool := xs.all (fun s => zs.all (meetB s))
end Go.Proofs.Ytilkcfikmlkeaaa
