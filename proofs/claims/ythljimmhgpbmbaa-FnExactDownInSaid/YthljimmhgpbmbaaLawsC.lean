/- The exact laws of moved sets and of sets of a rank. -/
import Derived.Test.YthljimmhgpbmbaaLawsB
import Derived.Test.YthljimmhgpbmbaaBase2
namespace Go.Proofs.Ythljimmhgpbmbaa
open Go.ChangeShapes Go.WideShapes Go.ChangeAt Go.RowKit

/-! SetMoved -/
/-- both are points. -/
def movedOk (n s i k : Int) : Prop := setB n s = true ∧ ptB n i = true ∧ ptB n k = true
theorem movedOk_facts {n s i k : Int} (h : movedOk n s i k) : 0 ≤ s ∧ s < 256 ∧ 0 ≤ i ∧ i ≤ 7 ∧ 0 ≤ k ∧ k ≤ 7 ∧ 1 ≤ n ∧ n ≤ 8 := by
  obtain ⟨hs, hi, hk⟩ := h
  have a := setB_yes hs
  have b := setB_lt hs
  have c := ptB_yes hi
  have d := ptB_yes hk
  omega
theorem moved_lt {s i k : Int} (s1 : 0 ≤ s) (s2 : s < 256) (i1 : 0 ≤ i) (i2 : i ≤ 7) (k1 : 0 ≤ k) (k2 : k ≤ 7) : 0 ≤ movedI s i k ∧ movedI s i k < 256 := by
  have hq := pow8 k1 k2
  unfold movedI
  split
  · next h =>
    simp at h
    obtain ⟨_, b1, b2⟩ := moved_eq s1 s2 i1 i2 k1 k2 h.1 h.2
    omega
  · omega
theorem movedOk_no {n s i k : Int} (h : ¬ movedOk n s i k) (hs : setB n s = true) : ptB n i = false ∨ (ptB n i = true ∧ ptB n k = false) := by
  rcases ptB_cases n i with a | a
  · rcases ptB_cases n k with b | b
    · exact absurd ⟨hs, a, b⟩ h
    · exact .inr ⟨a, b⟩
  · exact .inl a
end Go.Proofs.Ythljimmhgpbmbaa
