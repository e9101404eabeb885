/- The sum of the numbers of bits: plain mathematics (as XBn3, XBn4 have it, for seats without these functions). -/
import Derived.Test.YtpepcjffolbdcaaDoorSets2
namespace Go.Proofs.YtpepcjffolbdcaaDoor
open Go.ChangeShapes Go.WideShapes Go.ChangeAt Go.RowKit

/-- the bits of a number below 1024. -/
def pcI (k : Int) : Int := (cntTo k 10 : Nat)
/-- the bits of all numbers below k. -/
def dgS : Nat → Int
  | 0 => 0
  | k + 1 => dgS k + pcI (k : Nat)
theorem pc_bd (k : Int) : 0 ≤ pcI k ∧ pcI k ≤ 10 := by
  have := cnt_le k 10
  unfold pcI; omega
theorem dg_bd : ∀ k : Nat, 0 ≤ dgS k ∧ dgS k ≤ 10 * (k : Nat)
  | 0 => by simp [dgS]
  | k + 1 => by
    have h := dg_bd k
    have h2 := pc_bd (k : Nat)
    unfold dgS; omega
theorem all1024 {P : Int → Prop} (h : ∀ s : Fin 1024, P ((s.val : Nat) : Int)) : ∀ s, 0 ≤ s → s < 1024 → P s := fun s h1 h2 => by
  have := h ⟨s.toNat, by omega⟩
  have e : ((s.toNat : Nat) : Int) = s := Int.toNat_of_nonneg h1
  simpa [e] using this
theorem pc_half : ∀ k : Fin 1024, pcI (k.val : Nat) = ((k.val % 2 : Nat) : Int) + pcI ((k.val / 2 : Nat) : Int) := by decide +kernel
theorem pc_step {k : Nat} (h : k < 1024) : pcI (k : Nat) = ((k % 2 : Nat) : Int) + pcI ((k / 2 : Nat) : Int) := pc_half ⟨k, h⟩
/-- m is taken. -/
def dgB (m : Int) : Bool := decide (0 ≤ m ∧ m ≤ 1000)
def dgV (m : Int) : Int := if dgB m then dgS m.toNat else 0
theorem pc_dbl : ∀ k : Fin 512, pcI ((2 * k.val : Nat) : Int) = pcI (k.val : Nat) ∧ pcI ((2 * k.val + 1 : Nat) : Int) = pcI (k.val : Nat) + 1 := by decide +kernel
theorem dg_dbl : ∀ k : Nat, k ≤ 512 → dgS (2 * k) = 2 * dgS k + (k : Nat)
  | 0, _ => by simp [dgS]
  | k + 1, h => by
    have ih := dg_dbl k (by omega)
    obtain ⟨a, b⟩ := pc_dbl ⟨k, by omega⟩
    have e : dgS (2 * (k + 1)) = dgS (2 * k) + pcI ((2 * k : Nat) : Int) + pcI ((2 * k + 1 : Nat) : Int) := rfl
    have e2 : dgS (k + 1) = dgS k + pcI (k : Nat) := rfl
    simp only at a b
    rw [e, e2, ih, a, b]; omega
theorem dgV_yes {m : Int} (h : 0 ≤ m ∧ m ≤ 1000) : dgV m = dgS m.toNat ∧ dgB m = true := by
  have hb : dgB m = true := decide_eq_true h
  exact ⟨by unfold dgV; rw [hb]; rfl, hb⟩
end Go.Proofs.YtpepcjffolbdcaaDoor
