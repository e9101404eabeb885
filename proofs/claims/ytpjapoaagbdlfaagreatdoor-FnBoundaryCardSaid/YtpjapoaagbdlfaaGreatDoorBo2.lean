/- The ball order of sets: what the program and the model say of two sets, by trial. -/
import Derived.Test.YtpjapoaagbdlfaaGreatDoorBo1
namespace Go.Proofs.YtpjapoaagbdlfaaGreatDoor
open Go.ChangeShapes Go.WideShapes Go.ChangeAt Go.RowKit Go.Proofs

theorem bc_dec : ∀ a : Fin 256, ∀ b : Fin 256, bcI (a.val : Nat) (b.val : Nat) = cmI (bkI (a.val : Nat)) (bkI (b.val : Nat)) := by decide +kernel
theorem ah_dec : ∀ a : Fin 256, ∀ b : Fin 256, ahB (a.val : Nat) (b.val : Nat) = decide (bkI (a.val : Nat) < bkI (b.val : Nat)) := by decide +kernel
theorem bc_key {a b : Int} (h1 : 0 ≤ a) (h2 : a < 256) (h3 : 0 ≤ b) (h4 : b < 256) : bcI a b = cmI (bkI a) (bkI b) := by
  have h := bc_dec ⟨a.toNat, by omega⟩ ⟨b.toNat, by omega⟩
  have e1 : ((a.toNat : Nat) : Int) = a := Int.toNat_of_nonneg h1
  have e2 : ((b.toNat : Nat) : Int) = b := Int.toNat_of_nonneg h3
  simpa only [e1, e2] using h
theorem ah_key {a b : Int} (h1 : 0 ≤ a) (h2 : a < 256) (h3 : 0 ≤ b) (h4 : b < 256) : ahB a b = decide (bkI a < bkI b) := by
  have h := ah_dec ⟨a.toNat, by omega⟩ ⟨b.toNat, by omega⟩
  have e1 : ((a.toNat : Nat) : Int) = a := Int.toNat_of_nonneg h1
  have e2 : ((b.toNat : Nat) : Int) = b := Int.toNat_of_nonneg h3
  simpa only [e1, e2] using h
end Go.Proofs.YtpjapoaagbdlfaaGreatDoor
