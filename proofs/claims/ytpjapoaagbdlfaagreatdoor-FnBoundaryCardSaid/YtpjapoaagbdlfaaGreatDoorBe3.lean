/- Inner edges and edges: the model. -/
import Derived.Test.YtpjapoaagbdlfaaGreatDoorBe1
import Derived.Test.YtpjapoaagbdlfaaGreatDoorAllSp
namespace Go.Proofs.YtpjapoaagbdlfaaGreatDoor
open Go.ChangeShapes Go.WideShapes Go.ChangeAt Go.RowKit Go.Proofs

theorem nb_set : ∀ n : Fin 9, ∀ x : Fin 256, ∀ p : Fin 8, x.val < 2 ^ n.val → p.val < n.val → xorI (x.val : Nat) (2 ^ p.val) < 2 ^ n.val := by decide +kernel
theorem nb_bd {n x : Int} (h : setB n x = true) {p : Nat} (hp : (p : Int) < n) : ∃ t : Nat, xorI x (2 ^ p) = t ∧ t < 2 ^ n.toNat := by
  obtain ⟨n1, n2, x1, x2⟩ := setB_yes h
  have hb := setB_lt h
  have := nb_set ⟨n.toNat, by omega⟩ ⟨x.toNat, by omega⟩ ⟨p, by omega⟩ (nat_lt_pow x2) (by show p < n.toNat; omega)
  have e : ((x.toNat : Nat) : Int) = x := Int.toNat_of_nonneg x1
  simp only [e] at this
  refine ⟨(xorI x (2 ^ p)).toNat, ?_, ?_⟩
  · rw [Int.toNat_of_nonneg]; unfold xorI; omega
  · have h0 : 0 ≤ xorI x (2 ^ p) := by unfold xorI; omega
    have : ((2 ^ n.toNat : Nat) : Int) = 2 ^ n.toNat := by simp
    omega
theorem rowT_succ (P : Int → Nat → Bool) (s : Int) (N : Nat) : rowT P s (N + 1) = rowT P s N + (if P s N then 1 else 0) := rfl
end Go.Proofs.YtpjapoaagbdlfaaGreatDoor
