/- The points of a set come in ascending order: the iterator. -/
import Derived.Test.YtcadlfljlobjjaaSets2
import Derived.RangeFuncBox
import Derived.RangeFuncNested
import Derived.RangeFuncBound
import Derived.RangeFuncCalls
import Derived.RangeFuncLeaves
import Derived.Shelf.Abstract
import Derived.Shelf.RegionOpen
import Derived.OwnWalkIn
import Derived.TacticsInMore
import Derived.LoopNIn
import Derived.LoopIn
import Derived.Lib.LaidTab
namespace Go.Proofs.Ytcadlfljlobjjaa
open Go.ChangeShapes Go.WideShapes Go.ChangeAt Go.RowKit Go.Shelf
attribute [local go_sem] Oper.semAt_some

/-- the points of s below k. -/
def ptsTo (s : Int) : Nat → List Int
  | 0 => []
  | k + 1 => ptsTo s k ++ (if hasB s (k : Nat) then [((k : Nat) : Int)] else [])
/-- the points of s. -/
def ptsI (s : Int) : List Int := ptsTo s 8
/-- the least point. -/
def tzI (x : Int) : Int := (ptsI x).headD 8
/-- without the least point. -/
def nxtI (x : Int) : Int := bits .and .u64 x (x - 1)
def tzIx (x : Int) : Int := IntKind.u64.wrap (bits .and .u64 x (IntKind.u64.wrap (-x)) * 285870213051353865) / 288230376151711744
def deB : List Int := [0, 1, 56, 2, 57, 49, 28, 3, 61, 58, 42, 50, 38, 29, 17, 4, 62, 47, 59, 36, 45, 43, 51, 22, 53, 39, 33, 30, 24, 18, 12, 5, 63, 55, 48, 27, 60, 41, 37, 16, 46, 35, 44, 21, 52, 32, 23, 11, 54, 26, 40, 15, 34, 20, 31, 10, 25, 14, 19, 9, 13, 8, 7, 6]
theorem tz_dec : ∀ x : Fin 256, 1 ≤ x.val → 0 ≤ tzIx x.val ∧ tzIx x.val < 64 ∧ deB.getD (tzIx x.val).toNat 0 = tzI x.val ∧ 0 ≤ tzI x.val ∧ tzI x.val ≤ 7 ∧ 0 ≤ nxtI x.val ∧ nxtI x.val < x.val ∧ ptsI x.val = tzI x.val :: ptsI (nxtI x.val) ∧ hasB x.val (tzI x.val) = true := by decide +kernel
theorem tz_facts {x : Int} (h1 : 1 ≤ x) (h2 : x < 256) : 0 ≤ tzIx x ∧ tzIx x < 64 ∧ deB.getD (tzIx x).toNat 0 = tzI x ∧ 0 ≤ tzI x ∧ tzI x ≤ 7 ∧ 0 ≤ nxtI x ∧ nxtI x < x ∧ ptsI x = tzI x :: ptsI (nxtI x) ∧ hasB x (tzI x) = true := by
  have h := tz_dec ⟨x.toNat, by omega⟩ (by simp; omega)
  have e : ((x.toNat : Nat) : Int) = x := Int.toNat_of_nonneg (by omega)
  simpa only [e] using h
/-- a point of s. -/
abbrev PtOf (s : Int) := { x : Int // 0 ≤ x ∧ x ≤ 7 ∧ hasB s x = true }
/-- the numbers of a list of points. -/
def vals {s : Int} (l : List (PtOf s)) : List Int := l.map (·.1)
theorem vals_snoc {s : Int} (l : List (PtOf s)) (x : PtOf s) : vals (l ++ [x]) = vals l ++ [x.1] := by simp [vals]
theorem vals_len {s : Int} (l : List (PtOf s)) : (vals l).length = l.length := by simp [vals]
theorem mem_dec : ∀ s : Fin 256, (ptsI s.val).all (fun p => decide (0 ≤ p ∧ p ≤ 7 ∧ hasB s.val p = true)) = true := by decide +kernel
theorem mem_pts {s : Int} (h1 : 0 ≤ s) (h2 : s < 256) {p : Int} (hp : p ∈ ptsI s) : 0 ≤ p ∧ p ≤ 7 ∧ hasB s p = true := by
  have h := all256 (P := fun s => (ptsI s).all (fun p => decide (0 ≤ p ∧ p ≤ 7 ∧ hasB s p = true)) = true) mem_dec h1 h2
  have := List.all_eq_true.1 h p hp
  exact of_decide_eq_true this

end Go.Proofs.Ytcadlfljlobjjaa
