/- Profiles of families with all their shadows: countsIn, ShadowProfile. -/
import Derived.Test.YtpjapoaagbdlfaaDoorLeastM
import Derived.Test.YtpjapoaagbdlfaaDoorSh2
namespace Go.Proofs.YtpjapoaagbdlfaaDoor
open Go.ChangeShapes Go.WideShapes Go.ChangeAt Go.RowKit Go.Proofs

/-- the first k numbers are numbers of sets that there are. -/
def cntsTo (n : Int) (xs : List Int) (k : Nat) : Bool := (List.range k).all fun j => cntB n (j : Nat) (xs.getD j 0)
theorem cntsTo_s (n : Int) (xs : List Int) (k : Nat) : cntsTo n xs (k + 1) = (cntsTo n xs k && cntB n (k : Nat) (xs.getD k 0)) := by unfold cntsTo; rw [List.range_succ, List.all_append]; simp
theorem cntsTo_at {n : Int} {xs : List Int} {k : Nat} (h : cntsTo n xs k = true) {j : Nat} (hj : j < k) : cntB n (j : Nat) (xs.getD j 0) = true := List.all_eq_true.1 h j (List.mem_range.2 hj)
theorem cntsTo_no {n : Int} {xs : List Int} {j k : Nat} (hj : j < k) (h : cntB n (j : Nat) (xs.getD j 0) = false) : cntsTo n xs k = false := by
  cases hc : cntsTo n xs k with
  | false => rfl
  | true => rw [cntsTo_at hc hj] at h; cases h
/-- the list tells for each size how many sets. -/
def cntsB (n : Int) (xs : List Int) : Bool := ptsB n && decide (((xs.length : Nat) : Int) = n + 1) && cntsTo n xs xs.length
theorem cntsB_yes {n : Int} {xs : List Int} (h : cntsB n xs = true) : 1 ≤ n ∧ n ≤ 8 ∧ ((xs.length : Nat) : Int) = n + 1 ∧ cntsTo n xs xs.length = true := by
  unfold cntsB at h
  rw [Bool.and_eq_true, Bool.and_eq_true] at h
  obtain ⟨n1, n2⟩ := ptsB_yes h.1.1
  exact ⟨n1, n2, of_decide_eq_true h.1.2, h.2⟩
theorem ch_lt41 : ∀ n : Fin 9, ∀ k : Fin 9, 1 ≤ k.val → k.val ≤ n.val → chI (n.val : Nat) (k.val : Nat) < chI 41 (k.val : Nat) ∧ chI (n.val : Nat) (k.val : Nat) ≤ 70 := by decide +kernel
theorem cnt_lea {n k m : Int} (n2 : n ≤ 8) (k1 : 1 ≤ k) (k2 : k ≤ n) (h : cntB n k m = true) : leaOk m k := by
  obtain ⟨m1, m2⟩ := cntB_yes h
  have e1 : ((n.toNat : Nat) : Int) = n := Int.toNat_of_nonneg (by omega)
  have e2 : ((k.toNat : Nat) : Int) = k := Int.toNat_of_nonneg (by omega)
  have b := ch_lt41 ⟨n.toNat, by omega⟩ ⟨k.toNat, by omega⟩ (by show 1 ≤ k.toNat; omega) (by show k.toNat ≤ n.toNat; omega)
  simp only [e1, e2] at b
  refine ⟨m1, k1, by omega, ?_⟩
  by_cases h0 : m = 0
  · exact .inl h0
  · exact .inr ⟨by omega, by omega, k1, by omega, by omega⟩

/-- up to size k - 1 each shadow has room. -/
def roomB (xs : List Int) (j : Nat) : Bool := decide (leaV (xs.getD j 0) (j : Nat) ≤ xs.getD (j - 1) 0)
def roomTo (xs : List Int) (k : Nat) : Bool := (List.range k).all fun j => j == 0 || roomB xs j
theorem roomTo_s (xs : List Int) (k : Nat) : roomTo xs (k + 1) = (roomTo xs k && (k == 0 || roomB xs k)) := by unfold roomTo; rw [List.range_succ, List.all_append]; simp
theorem roomTo_no {xs : List Int} {j k : Nat} (hj : j < k) (h0 : 1 ≤ j) (h : roomB xs j = false) : roomTo xs k = false := by
  cases hc : roomTo xs k with
  | false => rfl
  | true =>
    have := List.all_eq_true.1 hc j (List.mem_range.2 hj)
    rw [h] at this
    simp at this
    omega
def profB (n : Int) (xs : List Int) : Bool := cntsB n xs && roomTo xs xs.length

end Go.Proofs.YtpjapoaagbdlfaaDoor
