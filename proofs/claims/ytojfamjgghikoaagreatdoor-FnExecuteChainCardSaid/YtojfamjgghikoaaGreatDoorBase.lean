/- Plain mathematics on small sets, ways to choose and bits: no program in it. -/
import Derived.Laws.BitsAllLaws
import Derived.WalkKit
namespace Go.Proofs.YtojfamjgghikoaaGreatDoor
open Go.RowKit

theorem n8 {n : Int} (h1 : 1 ≤ n) (h2 : n ≤ 8) : n = 1 ∨ n = 2 ∨ n = 3 ∨ n = 4 ∨ n = 5 ∨ n = 6 ∨ n = 7 ∨ n = 8 := by omega
theorem p8 {n : Int} (h1 : 0 ≤ n) (h2 : n ≤ 7) : n = 0 ∨ n = 1 ∨ n = 2 ∨ n = 3 ∨ n = 4 ∨ n = 5 ∨ n = 6 ∨ n = 7 := by omega

/-- n is a number of points. -/
def ptsB (n : Int) : Bool := decide (1 ≤ n ∧ n ≤ 8)
theorem ptsB_yes {n : Int} (h : ptsB n = true) : 1 ≤ n ∧ n ≤ 8 := by simpa [ptsB] using h
theorem ptsB_no {n : Int} (h : ptsB n = false) : ¬ (1 ≤ n ∧ n ≤ 8) := by
  unfold ptsB at h; exact of_decide_eq_false h
theorem ptsB_mk {n : Int} (h1 : 1 ≤ n) (h2 : n ≤ 8) : ptsB n = true := by simp [ptsB, h1, h2]
theorem ptsB_mk0 {n : Int} (h : n < 1 ∨ 8 < n) : ptsB n = false := by unfold ptsB; exact decide_eq_false (by omega)

/-- s is a set of n points. -/
def setB (n s : Int) : Bool := decide (1 ≤ n ∧ n ≤ 8 ∧ 0 ≤ s ∧ s < 2 ^ n.toNat)
theorem setB_yes {n s : Int} (h : setB n s = true) : 1 ≤ n ∧ n ≤ 8 ∧ 0 ≤ s ∧ s < 2 ^ n.toNat := of_decide_eq_true h
theorem setB_mk {n s : Int} (h : 1 ≤ n ∧ n ≤ 8 ∧ 0 ≤ s ∧ s < 2 ^ n.toNat) : setB n s = true := decide_eq_true h
theorem setB_mk0 {n s : Int} (h : ¬ (1 ≤ n ∧ n ≤ 8 ∧ 0 ≤ s ∧ s < 2 ^ n.toNat)) : setB n s = false := decide_eq_false h
theorem pow_le256 {n : Int} (h1 : 1 ≤ n) (h2 : n ≤ 8) : (2 : Int) ^ n.toNat ≤ 256 ∧ 2 ≤ (2 : Int) ^ n.toNat := by
  rcases n8 h1 h2 with rfl | rfl | rfl | rfl | rfl | rfl | rfl | rfl <;> decide
theorem setB_lt {n s : Int} (h : setB n s = true) : 0 ≤ s ∧ s < 256 := by
  have ⟨a, b, c, d⟩ := setB_yes h
  have := pow_le256 a b
  omega

/-- the point p is in s. -/
def hasB (s p : Int) : Bool := s.toNat.testBit p.toNat
/-- s and the point p. -/
def withI (s p : Int) : Int := ((s.toNat ||| 2 ^ p.toNat : Nat) : Int)
/-- s less the point p. -/
def lessI (s p : Int) : Int := if hasB s p then s - 2 ^ p.toNat else s
/-- the number of points below k of s. -/
def cntTo (s : Int) : Nat → Nat
  | 0 => 0
  | k + 1 => cntTo s k + (if hasB s (k : Nat) then 1 else 0)
/-- the number of points of s. -/
def cntI (s : Int) : Int := (cntTo s 8 : Nat)

/-- what holds of all numbers below 256 by trial holds of integers. -/
theorem all256 {P : Int → Prop} (h : ∀ s : Fin 256, P ((s.val : Nat) : Int)) {s : Int} (h1 : 0 ≤ s) (h2 : s < 256) : P s := by
  have := h ⟨s.toNat, by omega⟩
  have e : ((s.toNat : Nat) : Int) = s := Int.toNat_of_nonneg h1
  simpa [e] using this
theorem all256r {P : Int → Prop} (h : ∀ s : Fin 256, P ((s.val : Nat) : Int)) : ∀ s, 0 ≤ s → s < 256 → P s := fun _ h1 h2 => all256 h h1 h2
theorem all256_8 {P : Int → Int → Prop} (h : ∀ s : Fin 256, ∀ p : Fin 8, P ((s.val : Nat) : Int) ((p.val : Nat) : Int)) {s p : Int} (h1 : 0 ≤ s) (h2 : s < 256) (h3 : 0 ≤ p) (h4 : p ≤ 7) : P s p := by
  have := h ⟨s.toNat, by omega⟩ ⟨p.toNat, by omega⟩
  have e : ((s.toNat : Nat) : Int) = s := Int.toNat_of_nonneg h1
  have e2 : ((p.toNat : Nat) : Int) = p := Int.toNat_of_nonneg h3
  simpa [e, e2] using this

theorem has_u64 {s p : Int} (h1 : 0 ≤ s) (h2 : s < 256) (h3 : 0 ≤ p) (h4 : p ≤ 7) : (bits .and .u64 (s / 2 ^ p.toNat) 1 == 1) = hasB s p :=
  all256_8 (P := fun s p => (bits .and .u64 (s / 2 ^ p.toNat) 1 == 1) = hasB s p) (by decide +kernel) h1 h2 h3 h4
theorem has_i64 {s p : Int} (h1 : 0 ≤ s) (h2 : s < 256) (h3 : 0 ≤ p) (h4 : p ≤ 7) : (bits .and .i64 (s / 2 ^ p.toNat) 1 == 1) = hasB s p :=
  all256_8 (P := fun s p => (bits .and .i64 (s / 2 ^ p.toNat) 1 == 1) = hasB s p) (by decide +kernel) h1 h2 h3 h4
theorem bit_i64 {s p : Int} (h1 : 0 ≤ s) (h2 : s < 256) (h3 : 0 ≤ p) (h4 : p ≤ 7) : bits .and .i64 (s / 2 ^ p.toNat) 1 = if hasB s p then 1 else 0 :=
  all256_8 (P := fun s p => bits .and .i64 (s / 2 ^ p.toNat) 1 = if hasB s p then 1 else 0) (by decide +kernel) h1 h2 h3 h4
theorem with_u64 {s p : Int} (h1 : 0 ≤ s) (h2 : s < 256) (h3 : 0 ≤ p) (h4 : p ≤ 7) : bits .or .u64 s (IntKind.u64.wrap (2 ^ p.toNat)) = withI s p :=
  all256_8 (P := fun s p => bits .or .u64 s (IntKind.u64.wrap (2 ^ p.toNat)) = withI s p) (by decide +kernel) h1 h2 h3 h4
theorem with_i64 {s p : Int} (h1 : 0 ≤ s) (h2 : s < 256) (h3 : 0 ≤ p) (h4 : p ≤ 7) : bits .or .i64 s (wrap64 (2 ^ p.toNat)) = withI s p :=
  all256_8 (P := fun s p => bits .or .i64 s (wrap64 (2 ^ p.toNat)) = withI s p) (by decide +kernel) h1 h2 h3 h4
theorem less_u64 {s p : Int} (h1 : 0 ≤ s) (h2 : s < 256) (h3 : 0 ≤ p) (h4 : p ≤ 7) : bits .andNot .u64 s (IntKind.u64.wrap (2 ^ p.toNat)) = lessI s p :=
  all256_8 (P := fun s p => bits .andNot .u64 s (IntKind.u64.wrap (2 ^ p.toNat)) = lessI s p) (by decide +kernel) h1 h2 h3 h4
theorem with_lt {s p : Int} (h1 : 0 ≤ s) (h2 : s < 256) (h3 : 0 ≤ p) (h4 : p ≤ 7) : 0 ≤ withI s p ∧ withI s p < 256 :=
  all256_8 (P := fun s p => 0 ≤ withI s p ∧ withI s p < 256) (by decide +kernel) h1 h2 h3 h4
theorem less_lt {s p : Int} (h1 : 0 ≤ s) (h2 : s < 256) (h3 : 0 ≤ p) (h4 : p ≤ 7) : 0 ≤ lessI s p ∧ lessI s p < 256 :=
  all256_8 (P := fun s p => 0 ≤ lessI s p ∧ lessI s p < 256) (by decide +kernel) h1 h2 h3 h4
theorem with_add {s p : Int} (h1 : 0 ≤ s) (h2 : s < 256) (h3 : 0 ≤ p) (h4 : p ≤ 7) : withI s p = if hasB s p then s else s + 2 ^ p.toNat :=
  all256_8 (P := fun s p => withI s p = if hasB s p then s else s + 2 ^ p.toNat) (by decide +kernel) h1 h2 h3 h4
theorem cnt_le (s : Int) (k : Nat) : cntTo s k ≤ k := by
  induction k with
  | zero => exact Nat.le_refl _
  | succ k ih => unfold cntTo; split <;> omega

/-- the other points. -/
def otherI (n s : Int) : Int := 2 ^ n.toNat - 1 - s
theorem all_wrap {n : Int} (h1 : 1 ≤ n) (h2 : n ≤ 8) : IntKind.u64.wrap (IntKind.u64.wrap (2 ^ n.toNat) - 1) = 2 ^ n.toNat - 1 := by
  rcases n8 h1 h2 with rfl | rfl | rfl | rfl | rfl | rfl | rfl | rfl <;> decide +kernel
theorem other_dec : ∀ n : Fin 9, ∀ s : Fin 256, s.val < 2 ^ n.val → bits .andNot .u64 (2 ^ n.val - 1) ((s.val : Nat) : Int) = 2 ^ n.val - 1 - ((s.val : Nat) : Int) := by decide +kernel
theorem other_u64 {n s : Int} (h1 : 1 ≤ n) (h2 : n ≤ 8) (h3 : 0 ≤ s) (h4 : s < 2 ^ n.toNat) : bits .andNot .u64 (2 ^ n.toNat - 1) s = otherI n s := by
  have hp := pow_le256 h1 h2
  have h := other_dec ⟨n.toNat, by omega⟩ ⟨s.toNat, by omega⟩ (by
    have e2 : ((s.toNat : Nat) : Int) = s := Int.toNat_of_nonneg h3
    have : ((s.toNat : Nat) : Int) < ((2 ^ n.toNat : Nat) : Int) := by rw [e2]; simpa using h4
    simpa using Int.ofNat_lt.1 this)
  have e2 : ((s.toNat : Nat) : Int) = s := Int.toNat_of_nonneg h3
  simpa [e2, otherI] using h
/-- i taken out, k put in. -/
def movedI (s i k : Int) : Int := if hasB s i && !hasB s k then s - 2 ^ i.toNat + 2 ^ k.toNat else s
theorem moved_dec : ∀ s : Fin 256, ∀ i : Fin 8, ∀ k : Fin 8, hasB s.val i.val = true → hasB s.val k.val = false → withI (lessI s.val i.val) k.val = s.val - 2 ^ i.val + 2 ^ k.val ∧ 0 ≤ ((s.val : Nat) : Int) - 2 ^ i.val ∧ ((s.val : Nat) : Int) - 2 ^ i.val + 2 ^ k.val < 256 := by decide +kernel
theorem moved_eq {s i k : Int} (h1 : 0 ≤ s) (h2 : s < 256) (h3 : 0 ≤ i) (h4 : i ≤ 7) (h5 : 0 ≤ k) (h6 : k ≤ 7) (hi : hasB s i = true) (hk : hasB s k = false) :
    withI (lessI s i) k = s - 2 ^ i.toNat + 2 ^ k.toNat ∧ 0 ≤ s - 2 ^ i.toNat ∧ s - 2 ^ i.toNat + 2 ^ k.toNat < 256 := by
  have h := moved_dec ⟨s.toNat, by omega⟩ ⟨i.toNat, by omega⟩ ⟨k.toNat, by omega⟩
  have e1 : ((s.toNat : Nat) : Int) = s := Int.toNat_of_nonneg h1
  have e2 : ((i.toNat : Nat) : Int) = i := Int.toNat_of_nonneg h3
  have e3 : ((k.toNat : Nat) : Int) = k := Int.toNat_of_nonneg h5
  simp only [e1, e2, e3] at h
  exact h hi hk
theorem pow8 {p : Int} (h3 : 0 ≤ p) (h4 : p ≤ 7) : wrap64 (2 ^ p.toNat) = 2 ^ p.toNat ∧ 1 ≤ (2 : Int) ^ p.toNat ∧ (2 : Int) ^ p.toNat ≤ 128 := by
  rcases p8 h3 h4 with rfl | rfl | rfl | rfl | rfl | rfl | rfl | rfl <;> decide +kernel

/-- the product after i steps: the ways to choose i of n - k + i. -/
def chS (n k : Int) : Nat → Int
  | 0 => 1
  | i + 1 => chS n k i * (n - k + (i + 1 : Nat)) / (i + 1 : Nat)
/-- the ways to choose k of n. -/
def chI (n k : Int) : Int := if n < k then 0 else chS n k k.toNat
/-- a look at all steps at once. -/
def chOk (n k : Int) : Nat → Bool
  | 0 => true
  | i + 1 => chOk n k i && decide (1 ≤ chS n k i ∧ chS n k i ≤ 1000000000000 ∧ 0 ≤ chS n k i * (n - k + (i + 1 : Nat)) ∧ chS n k i * (n - k + (i + 1 : Nat)) ≤ 100000000000000)
theorem chOk_at {n k : Int} {m : Nat} (h : chOk n k m = true) : ∀ i, i < m → 1 ≤ chS n k i ∧ chS n k i ≤ 1000000000000 ∧ 0 ≤ chS n k i * (n - k + (i + 1 : Nat)) ∧ chS n k i * (n - k + (i + 1 : Nat)) ≤ 100000000000000 := by
  induction m with
  | zero => intro i hi; omega
  | succ m ih =>
    intro i hi
    simp only [chOk, Bool.and_eq_true, decide_eq_true_eq] at h
    by_cases e : i = m
    · subst e; exact h.2
    · exact ih h.1 i (by omega)
theorem chOk_all : ∀ n : Fin 42, ∀ k : Fin 42, (k.val ≤ n.val → chOk (n.val : Nat) (k.val : Nat) k.val = true) := by decide +kernel
theorem ch_steps {n k : Int} (hn : n ≤ 41) (hk : 0 ≤ k) (hkn : k ≤ n) : ∀ i : Nat, (i : Int) < k → 1 ≤ chS n k i ∧ chS n k i ≤ 1000000000000 ∧ 0 ≤ chS n k i * (n - k + (i + 1 : Nat)) ∧ chS n k i * (n - k + (i + 1 : Nat)) ≤ 100000000000000 := by
  intro i hi
  have h := chOk_all ⟨n.toNat, by omega⟩ ⟨k.toNat, by omega⟩ (by simp; omega)
  have e1 : ((n.toNat : Nat) : Int) = n := Int.toNat_of_nonneg (by omega)
  have e2 : ((k.toNat : Nat) : Int) = k := Int.toNat_of_nonneg (by omega)
  simp only [e1, e2] at h
  exact chOk_at h i (by omega)
theorem chI_bd : ∀ n : Fin 42, ∀ k : Fin 42, 0 ≤ chI (n.val : Nat) (k.val : Nat) ∧ chI (n.val : Nat) (k.val : Nat) ≤ 1000000000000 := by decide +kernel
theorem chI_bounds {n k : Int} (h1 : 0 ≤ n) (hn : n ≤ 41) (h2 : 0 ≤ k) (hk : k ≤ 41) : 0 ≤ chI n k ∧ chI n k ≤ 1000000000000 := by
  have h := chI_bd ⟨n.toNat, by omega⟩ ⟨k.toNat, by omega⟩
  have e1 : ((n.toNat : Nat) : Int) = n := Int.toNat_of_nonneg (by omega)
  have e2 : ((k.toNat : Nat) : Int) = k := Int.toNat_of_nonneg (by omega)
  simpa only [e1, e2] using h
end Go.Proofs.YtojfamjgghikoaaGreatDoor
