/- The model: families of lists, unions, common sets, what is left. -/
import Derived.Test.YtgfmfecalhmplaaSpec2
namespace Go.Proofs.Ytgfmfecalhmplaa
open Go.ChangeShapes Go.WideShapes Go.ChangeAt Go.RowKit Go.Proofs

theorem mkL_sort {n : Int} {xs : List Int} (hall : allB n xs = true) : mkL (fun j => memB (j : Nat) xs) (2 ^ n.toNat) = sortL xs := by
  refine asc_ext (mkL_asc _ _) (asc_sortL xs) fun z => ?_
  rw [mem_mkL, mem_sortL]
  constructor
  · rintro ⟨⟨h1, _⟩, h2⟩
    have := memB_yes h2
    rwa [Int.toNat_of_nonneg h1] at this
  · intro h
    obtain ⟨t, rfl, ht⟩ := set_nat (allB_yes hall z h)
    exact ⟨⟨by omega, by omega⟩, memB_mk (by simpa using h)⟩
theorem OwnL.mono {w : World} {B B' : Nat} {v : Value} {xs : List Int} (h : OwnL w B v xs) (hB : B' ≤ B) : OwnL w B' v xs := by
  refine ⟨h.1, ?_⟩
  rcases h.2 with hn | ⟨g, cap, cur, rfl, hb, rest⟩
  · exact .inl hn
  · exact .inr ⟨g, cap, cur, rfl, by omega, rest⟩
end Go.Proofs.Ytgfmfecalhmplaa
