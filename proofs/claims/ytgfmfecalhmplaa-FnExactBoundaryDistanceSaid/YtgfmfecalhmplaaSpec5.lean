/- The model: common parts, joins. -/
import Derived.Test.YtgfmfecalhmplaaSpec4
namespace Go.Proofs.Ytgfmfecalhmplaa
open Go.ChangeShapes Go.WideShapes Go.ChangeAt Go.RowKit Go.Proofs

theorem mem_snoc (z v : Int) (L : List Int) : memB z (L ++ [v]) = if z = v then true else memB z L := by
  unfold memB
  by_cases e : z = v
  · rw [if_pos e]; exact decide_eq_true (by rw [e]; simp)
  · rw [if_neg e]; exact decide_eq_decide.2 (by simp [e])
theorem pairs_all {n : Int} {F : Int → Int → Int} {xs zs : List Int} (h : ∀ x ∈ xs, ∀ z ∈ zs, setB n (F x z) = true) (k : Nat) : allB n (pairsTo F xs zs k) = true := List.all_eq_true.2 fun z hz => by
  obtain ⟨a, ha, b, hb, rfl⟩ := pairs_mem hz
  exact h a ha b hb

end Go.Proofs.Ytgfmfecalhmplaa
