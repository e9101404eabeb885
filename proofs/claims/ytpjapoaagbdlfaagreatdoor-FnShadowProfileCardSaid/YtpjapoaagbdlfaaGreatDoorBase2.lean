/- Plain mathematics: ranks of sets, and sets of a rank. -/
import Derived.Test.YtpjapoaagbdlfaaGreatDoorBase
namespace Go.Proofs.YtpjapoaagbdlfaaGreatDoor
open Go.RowKit

/-- the sum of ways for the points of s below i. -/
def rankTo (s : Int) : Nat → Int
  | 0 => 0
  | i + 1 => rankTo s i + (if hasB s (i : Nat) then chI (i : Nat) (cntTo s i + 1 : Nat) else 0)
/-- the rank of s. -/
def rankI (s : Int) : Int := rankTo s 8
/-- a look at all steps of a rank at once. -/
def rankOk (s : Int) : Nat → Bool
  | 0 => true
  | i + 1 => rankOk s i && decide (0 ≤ rankTo s i ∧ rankTo s i ≤ 1000)
theorem rankOk_at {s : Int} {m : Nat} (h : rankOk s m = true) : ∀ i, i < m → 0 ≤ rankTo s i ∧ rankTo s i ≤ 1000 := by
  induction m with
  | zero => intro i hi; omega
  | succ m ih =>
    intro i hi
    simp only [rankOk, Bool.and_eq_true, decide_eq_true_eq] at h
    by_cases e : i = m
    · subst e; exact h.2
    · exact ih h.1 i (by omega)
theorem rank_steps {s : Int} (h1 : 0 ≤ s) (h2 : s < 256) : ∀ i : Nat, i < 9 → 0 ≤ rankTo s i ∧ rankTo s i ≤ 1000 :=
  rankOk_at (all256 (P := fun s => rankOk s 9 = true) (by decide +kernel) h1 h2)
/-- the greatest number of which at most m ways choose k, from t on, at most f steps further. -/
def topI (m k t : Int) : Nat → Int
  | 0 => t
  | f + 1 => if t ≤ 40 ∧ chI (t + 1) k ≤ m then topI m k (t + 1) f else t
/-- the set of the size j with the rank r, put to s. -/
def unrI (s r : Int) : Nat → Int
  | 0 => s
  | j + 1 => unrI (withI s (topI r (j + 1 : Nat) j 42)) (r - chI (topI r (j + 1 : Nat) j 42) (j + 1 : Nat)) j
theorem unr_back : ∀ s : Fin 256, unrI 0 (rankI (s.val : Nat)) (cntTo (s.val : Nat) 8) = (s.val : Nat) := by decide +kernel
theorem rank_lt : ∀ n : Fin 9, ∀ s : Fin 256, s.val < 2 ^ n.val → 0 ≤ rankI (s.val : Nat) ∧ rankI (s.val : Nat) < chI n.val (cntI (s.val : Nat)) := by decide +kernel
theorem unr_at : ∀ n : Fin 9, ∀ k : Fin 9, ∀ r : Fin 70, k.val ≤ n.val → (r.val : Int) < chI n.val k.val → 0 ≤ unrI 0 r.val k.val ∧ unrI 0 r.val k.val < 2 ^ n.val ∧ cntTo (unrI 0 r.val k.val) 8 = k.val ∧ rankI (unrI 0 r.val k.val) = r.val := by decide +kernel
/-- a look at all steps of the way to a set. -/
def unrOk (s r : Int) : Nat → Bool
  | 0 => decide (0 ≤ s ∧ s < 256)
  | j + 1 => decide (0 ≤ s ∧ s < 256 ∧ 0 ≤ r ∧ r ≤ 1000 ∧ 0 ≤ topI r (j + 1 : Nat) j 42 ∧ topI r (j + 1 : Nat) j 42 ≤ 7 ∧ 0 ≤ r - chI (topI r (j + 1 : Nat) j 42) (j + 1 : Nat)) && unrOk (withI s (topI r (j + 1 : Nat) j 42)) (r - chI (topI r (j + 1 : Nat) j 42) (j + 1 : Nat)) j
theorem unr_ok : ∀ n : Fin 9, ∀ k : Fin 9, ∀ r : Fin 70, k.val ≤ n.val → (r.val : Int) < chI n.val k.val → unrOk 0 r.val k.val = true := by decide +kernel
theorem ch_small : ∀ n : Fin 9, ∀ k : Fin 9, chI n.val k.val ≤ 70 := by decide +kernel
theorem top_bd (m k : Int) : ∀ (f : Nat) (t : Int), t ≤ topI m k t f ∧ topI m k t f ≤ max t 41 := by
  intro f
  induction f with
  | zero => intro t; unfold topI; omega
  | succ f ih =>
    intro t
    unfold topI
    split
    · have := ih (t + 1); omega
    · omega
end Go.Proofs.YtpjapoaagbdlfaaGreatDoor
