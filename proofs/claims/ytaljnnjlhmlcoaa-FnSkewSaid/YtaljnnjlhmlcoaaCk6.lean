/- The program's WeightOf. -/
import Derived.Test.YtaljnnjlhmlcoaaCk5
import Derived.Test.YtaljnnjlhmlcoaaFLaws
namespace Go.Proofs.Ytaljnnjlhmlcoaa
open Go.ChangeShapes Go.WideShapes Go.ChangeAt Go.RowKit Go.Proofs

theorem cnt_nat (s : Int) : ∃ k : Nat, cntI s = (k : Nat) := ⟨_, rfl⟩
theorem cnt_set {N : Nat} {x : Int} (h8 : N ≤ 8) (hx : 0 ≤ x) (hx2 : x < 2 ^ N) : ∃ k : Nat, cntI x = (k : Nat) ∧ k ≤ N := by
  obtain ⟨k, hk⟩ := cnt_nat x
  refine ⟨k, hk, ?_⟩
  have hp : (2 : Int) ^ N = ((2 ^ N : Nat) : Int) := by simp
  have h2 : 2 ^ N ≤ 256 := by
    have : 2 ^ N ≤ 2 ^ 8 := Nat.pow_le_pow_right (by omega) h8
    simpa using this
  have := cnt_le_n ⟨N, by omega⟩ ⟨x.toNat, by omega⟩ (by dsimp only; omega)
  simp only [Int.toNat_of_nonneg hx] at this
  omega
/-- the weight of a list, or nothing. -/
def wgtI (n : Int) (xs : List Int) : Int := if famB n xs then ((wS n.toNat xs : Nat) : Int) else 0
def botI (n : Int) (xs : List Int) : Int := if famB n xs then ((cbN n.toNat : Nat) : Int) else 0
def PairPost (c d : Int) (b : Bool) (w : World) (e : Ending) (w' : World) : Prop := e = .returned (.tuple #[.int .i64 c, .int .i64 d, .bool b]) ∧ Below w.heap.size w w'
end Go.Proofs.Ytaljnnjlhmlcoaa
