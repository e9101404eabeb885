/- Families: all sets, common sets, what is left, unions. -/
import Derived.Test.YtpjapoaagbdlfaaDoorFams9
import Derived.Deep.RegionWith
namespace Go.Proofs.YtpjapoaagbdlfaaDoor
open Go.ChangeShapes Go.WideShapes Go.ChangeAt Go.RowKit Go.Proofs

/-- what a function of two families needs of them. -/
structure TwoFam (xs zs : List Int) : Prop where
  ax : Asc xs
  az : Asc zs
  lx : ∀ z ∈ xs, 0 ≤ z ∧ z < 256
  lz : ∀ z ∈ zs, 0 ≤ z ∧ z < 256
theorem TwoFam.len {xs zs : List Int} (h : TwoFam xs zs) : xs.length ≤ 256 ∧ zs.length ≤ 256 := ⟨asc_len256 h.ax h.lx, asc_len256 h.az h.lz⟩
theorem ins_up (k : Nat) : insI (k : Int) (sortL (upI k)) = sortL (upI (k + 1)) := by rw [upI_succ, sortL_snoc]
end Go.Proofs.YtpjapoaagbdlfaaDoor
