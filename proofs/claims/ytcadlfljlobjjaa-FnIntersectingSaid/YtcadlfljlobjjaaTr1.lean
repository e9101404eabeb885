/- Bounds of dimensions, and all sets of at most so many points: the program, the model, the laws. -/
import Derived.Test.YtcadlfljlobjjaaFLaws
import Derived.Test.YtcadlfljlobjjaaLawsB
import Derived.Test.YtcadlfljlobjjaaSh1
namespace Go.Proofs.Ytcadlfljlobjjaa
open Go.ChangeShapes Go.WideShapes Go.ChangeAt Go.RowKit Go.Proofs

/-- n points and a dimension of theirs. -/
def dimB (n d : Int) : Bool := ptsB n && inB d (-1) n
theorem dimB_yes {n d : Int} (h : dimB n d = true) : 1 ≤ n ∧ n ≤ 8 ∧ -1 ≤ d ∧ d ≤ n := by
  unfold dimB at h
  rw [Bool.and_eq_true] at h
  obtain ⟨n1, n2⟩ := ptsB_yes h.1
  have := of_decide_eq_true h.2
  exact ⟨n1, n2, this.1, this.2⟩
theorem dimB_cases (n d : Int) : dimB n d = true ∨ dimB n d = false := by cases dimB n d <;> simp
/-- ways to choose fewer than k. -/
def bndN (n : Int) : Nat → Int
  | 0 => 0
  | k + 1 => bndN n k + chI n (k : Nat)
/-- the bound of a dimension. -/
def bndV (n d : Int) : Int := if dimB n d then bndN n (d + 1).toNat else 0
theorem bnd_dec : ∀ n : Fin 9, ∀ k : Fin 10, 0 ≤ bndN ((n.val : Nat) : Int) k.val ∧ bndN ((n.val : Nat) : Int) k.val ≤ 256 ∧ 0 ≤ chI ((n.val : Nat) : Int) ((k.val : Nat) : Int) ∧ chI ((n.val : Nat) : Int) ((k.val : Nat) : Int) ≤ 70 := by decide +kernel
theorem bnd_small {n : Int} (n1 : 1 ≤ n) (n2 : n ≤ 8) (k : Nat) (hk : k ≤ 9) : 0 ≤ bndN n k ∧ bndN n k ≤ 256 ∧ 0 ≤ chI n (k : Nat) ∧ chI n (k : Nat) ≤ 70 := by
  have h := bnd_dec ⟨n.toNat, by omega⟩ ⟨k, by omega⟩
  have e : ((n.toNat : Nat) : Int) = n := Int.toNat_of_nonneg (by omega)
  simpa only [e] using h
theorem ret_ibe {a b : Int} {c d : Bool} (h : a = b) (h2 : c = d) : Ending.returned (.tuple #[.int .i64 a, .bool c]) = .returned (.tuple #[.int .i64 b, .bool d]) := by rw [h, h2]
end Go.Proofs.Ytcadlfljlobjjaa
