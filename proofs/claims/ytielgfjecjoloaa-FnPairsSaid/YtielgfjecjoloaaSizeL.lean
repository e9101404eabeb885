/- The laws' own count of the points of a set. -/
import Derived.Test.YtielgfjecjoloaaSets2
namespace Go.Proofs.Ytielgfjecjoloaa
open Go.ChangeShapes Go.WideShapes Go.ChangeAt Go.RowKit

theorem bit20_dec : ∀ s : Fin 256, ∀ p : Fin 20, bits .and .i64 (((s.val : Nat) : Int) / 2 ^ p.val) 1 = if p.val < 8 ∧ hasB s.val p.val = true then 1 else 0 := by decide +kernel
theorem bit20 {s : Int} {p : Nat} (h1 : 0 ≤ s) (h2 : s < 256) (hp : p < 20) : bits .and .i64 (s / 2 ^ p) 1 = if p < 8 ∧ hasB s p = true then 1 else 0 := by
  have h := bit20_dec ⟨s.toNat, by omega⟩ ⟨p, hp⟩
  have e : ((s.toNat : Nat) : Int) = s := Int.toNat_of_nonneg h1
  simpa only [e] using h
end Go.Proofs.Ytielgfjecjoloaa
