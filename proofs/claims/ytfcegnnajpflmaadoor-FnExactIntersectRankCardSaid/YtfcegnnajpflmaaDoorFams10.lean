/- Families: all sets, common sets, what is left, unions. -/
import Derived.Test.YtfcegnnajpflmaaDoorFams9
import Derived.Deep.RegionWith
namespace Go.Proofs.YtfcegnnajpflmaaDoor
open Go.ChangeShapes Go.WideShapes Go.ChangeAt Go.RowKit Go.Proofs

theorem common_clo (lu : Value) (xs zs : List Int) (S : Nat) (w : World) (hy : SRow w S lu zs) (hS : S ≤ w.heap.size) (hA : Asc zs) (hl : zs.length ≤ 100000) :
    PredV 12 #[.agg #[lu, (Value.func (.func 40) #[] #[])]] #[] (fun x => memB x zs) xs w := fun W x _ hb => has_any lu zs x S W (hy.below hb hS) hA hl (by have := hb.size; omega)
/-- what a function of two families needs of them. -/
structure TwoFam (xs zs : List Int) : Prop where
  ax : Asc xs
  az : Asc zs
  lx : ∀ z ∈ xs, 0 ≤ z ∧ z < 256
  lz : ∀ z ∈ zs, 0 ≤ z ∧ z < 256
theorem TwoFam.len {xs zs : List Int} (h : TwoFam xs zs) : xs.length ≤ 256 ∧ zs.length ≤ 256 := ⟨asc_len256 h.ax h.lx, asc_len256 h.az h.lz⟩
theorem ins_up (k : Nat) : insI (k : Int) (sortL (upI k)) = sortL (upI (k + 1)) := by rw [upI_succ, sortL_snoc]
end Go.Proofs.YtfcegnnajpflmaaDoor
