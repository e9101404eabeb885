/- Exact shares, the common bottom, sums of fractions. -/
import Derived.Test.YtaljnnjlhmlcoaaCk2
namespace Go.Proofs.Ytaljnnjlhmlcoaa
open Go.ChangeShapes Go.WideShapes Go.ChangeAt Go.RowKit Go.Proofs

def exC (C b : Nat) : Bool := decide (b / C / Nat.gcd b (b / C) = 1 / Nat.gcd C 1 ∧ b / Nat.gcd b (b / C) = C / Nat.gcd C 1)
end Go.Proofs.Ytaljnnjlhmlcoaa
