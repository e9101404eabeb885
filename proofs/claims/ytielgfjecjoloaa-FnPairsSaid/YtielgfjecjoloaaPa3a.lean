/- Pairs: each paired point is the partner of its partner. -/
import Derived.Test.YtielgfjecjoloaaCp1
namespace Go.Proofs.Ytielgfjecjoloaa
open Go.ChangeShapes Go.WideShapes Go.ChangeAt Go.RowKit
/-- each paired point is the partner of its partner; the greater one is in the set. -/
def prOk (N : Nat) (s : Int) : Bool :=
  let P := prL s N N
  (List.range N).all (fun p => let q := P.getD p 0; decide (q < 0) || (decide (q < N) && decide (P.getD q.toNat 0 = (p : Nat)) && (decide (((p : Nat) : Int) < q) == !hasB s (p : Nat))))
set_option maxRecDepth 100000 in
theorem pr_ok : ∀ N : Fin 9, ∀ s : Fin 256, s.val < 2 ^ N.val → prOk N.val s.val = true := by decide +kernel
theorem pr_law {N : Nat} {s : Int} (h8 : N ≤ 8) (s1 : 0 ≤ s) (s2 : s < 2 ^ N) (p : Nat) (hp : p < N) (hq : 0 ≤ (prL s N N).getD p 0) :
    ∃ q : Nat, (prL s N N).getD p 0 = (q : Nat) ∧ q < N ∧ (prL s N N).getD q 0 = (p : Nat) ∧ decide (((p : Nat) : Int) < (q : Nat)) = !hasB s (p : Nat) := by
  have e2 : ((s.toNat : Nat) : Int) = s := Int.toNat_of_nonneg s1
  have hp2 : 2 ^ N ≤ 2 ^ 8 := Nat.pow_le_pow_right (by omega) h8
  have h2 : s.toNat < 2 ^ N := by
    have : ((s.toNat : Nat) : Int) < ((2 ^ N : Nat) : Int) := by rw [e2]; simpa using s2
    exact Int.ofNat_lt.1 this
  have h := pr_ok ⟨N, by omega⟩ ⟨s.toNat, by omega⟩ h2
  simp only [e2, prOk] at h
  have h := List.all_eq_true.1 h p (List.mem_range.2 hp)
  simp only [Bool.or_eq_true, Bool.and_eq_true, decide_eq_true_eq, beq_iff_eq] at h
  rcases h with h | ⟨⟨h3, h4⟩, h5⟩
  · omega
  · refine ⟨((prL s N N).getD p 0).toNat, by omega, by omega, h4, ?_⟩
    rw [Int.toNat_of_nonneg hq]; exact h5
end Go.Proofs.Ytielgfjecjoloaa
