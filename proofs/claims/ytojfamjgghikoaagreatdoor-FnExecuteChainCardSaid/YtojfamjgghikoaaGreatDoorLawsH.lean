/- The exact law of the points of a set. -/
import Derived.Test.YtojfamjgghikoaaGreatDoorIter
import Derived.Test.YtojfamjgghikoaaGreatDoorLawsA
import Derived.Test.YtojfamjgghikoaaGreatDoorAppend
namespace Go.Proofs.YtojfamjgghikoaaGreatDoor
open Go.ChangeShapes Go.WideShapes Go.ChangeAt Go.RowKit Go.Shelf
attribute [local go_sem] Oper.semAt_some

theorem ptsTo_len (s : Int) : ∀ k, (ptsTo s k).length ≤ k := by
  intro k
  induction k with
  | zero => exact Nat.le_refl _
  | succ k ih => unfold ptsTo; rw [List.length_append]; split <;> simp <;> omega
theorem ptsTo_prefix (s : Int) : ∀ k j, ptsTo s k <+: ptsTo s (k + j) := by
  intro k j
  induction j with
  | zero => exact List.prefix_refl _
  | succ j ih => exact ih.trans (by show _ <+: ptsTo s (k + j) ++ _; exact List.prefix_append _ _)
theorem pts_cut : ∀ n : Fin 9, ∀ s : Fin 256, s.val < 2 ^ n.val → ptsTo s.val n.val = ptsI s.val := by decide +kernel
theorem pts_upto {n s : Int} (h : setB n s = true) : ptsTo s n.toNat = ptsI s := by
  obtain ⟨n1, n2, h1, h2⟩ := setB_yes h
  have p := pow_le256 n1 n2
  have e2 : ((s.toNat : Nat) : Int) = s := Int.toNat_of_nonneg h1
  have h := pts_cut ⟨n.toNat, by omega⟩ ⟨s.toNat, by omega⟩ (by
    have : ((s.toNat : Nat) : Int) < ((2 ^ n.toNat : Nat) : Int) := by rw [e2]; simpa using h2
    simpa using Int.ofNat_lt.1 this)
  simpa only [e2] using h

theorem Own.nil1 {w : World} {B S : Nat} (a : Option Addr) (cap : Nat) : Own w B S (.slice a 0 cap) [] := ⟨a, cap, rfl, fun h => by simp at h⟩
end Go.Proofs.YtojfamjgghikoaaGreatDoor
