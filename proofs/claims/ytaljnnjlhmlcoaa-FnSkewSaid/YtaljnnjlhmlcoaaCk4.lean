/- The program's common bottom. -/
import Derived.Test.YtaljnnjlhmlcoaaCk3
namespace Go.Proofs.Ytaljnnjlhmlcoaa
open Go.ChangeShapes Go.WideShapes Go.ChangeAt Go.RowKit Go.Proofs

theorem exA_stop (n b : Nat) : ∀ m k, k < m → exK n b k = false → exA n b m = false
  | 0, _, h, _ => by omega
  | m + 1, k, h, hk => by
    unfold exA
    by_cases e : k = m
    · subst e; rw [hk, Bool.and_false]
    · rw [exA_stop n b m k (by omega) hk, Bool.false_and]
end Go.Proofs.Ytaljnnjlhmlcoaa
