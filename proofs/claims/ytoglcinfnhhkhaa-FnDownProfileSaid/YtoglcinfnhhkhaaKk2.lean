/- No family of sets of one size has a lesser shadow than the least (at most six points); plain mathematics. -/
import Derived.Test.YtoglcinfnhhkhaaKk1
import Derived.Test.YtoglcinfnhhkhaaLeast
namespace Go.Proofs.Ytoglcinfnhhkhaa
open Go.ChangeShapes Go.WideShapes Go.ChangeAt Go.RowKit Go.Proofs

/-- the ways, and the least shadows, as tables. -/
def wayN : Nat → Nat → Nat
  | _, 0 => 1
  | 0, _ + 1 => 0
  | n + 1, k + 1 => wayN n (k + 1) + wayN n k
def leaT : List (List Nat) := [[0, 0, 0, 0, 0, 0, 0, 0, 0, 0, 0, 0, 0, 0, 0, 0, 0, 0, 0, 0, 0], [0, 1, 1, 1, 1, 1, 1, 1, 1, 1, 1, 1, 1, 1, 1, 1, 1, 1, 1, 1, 1], [0, 2, 3, 3, 4, 4, 4, 5, 5, 5, 5, 6, 6, 6, 6, 6, 7, 7, 7, 7, 7], [0, 3, 5, 6, 6, 8, 9, 9, 10, 10, 10, 12, 13, 13, 14, 14, 14, 15, 15, 15, 15], [0, 4, 7, 9, 10, 10, 13, 15, 16, 16, 18, 19, 19, 20, 20, 20, 23, 25, 26, 26, 28], [0, 5, 9, 12, 14, 15, 15, 19, 22, 24, 25, 25, 28, 30, 31, 31, 33, 34, 34, 35, 35], [0, 6, 11, 15, 18, 20, 21, 21, 26, 30, 33, 35, 36, 36, 40, 43, 45, 46, 46, 49, 51]]
def leaN (m k : Nat) : Nat := (leaT.getD k []).getD m 0
theorem lea_tab : ∀ k : Fin 6, ∀ m : Fin 21, leaV (m.val : Nat) ((k.val + 1 : Nat) : Int) = (leaN m.val (k.val + 1) : Nat) := by decide +kernel
theorem way_tab : ∀ n : Fin 7, ∀ k : Fin 7, ((wayN n.val k.val : Nat) : Int) = chI (n.val : Nat) (k.val : Nat) ∧ wayN n.val k.val ≤ 20 := by decide +kernel
theorem lea_sum : ∀ n : Fin 6, ∀ k : Fin 6, ∀ a : Fin 21, a.val ≤ wayN n.val (k.val + 1) → ∀ b : Fin 21, b.val ≤ wayN n.val k.val → leaN (a.val + b.val) (k.val + 1) ≤ max (leaN a.val (k.val + 1)) b.val + leaN b.val k.val := by decide +kernel
theorem leaN_m0 : ∀ m, leaN m 0 = 0 := fun m => by
  show (([0, 0, 0, 0, 0, 0, 0, 0, 0, 0, 0, 0, 0, 0, 0, 0, 0, 0, 0, 0, 0] : List Nat)).getD m 0 = 0
  by_cases h : m < 21
  · have : ∀ m : Fin 21, (([0, 0, 0, 0, 0, 0, 0, 0, 0, 0, 0, 0, 0, 0, 0, 0, 0, 0, 0, 0, 0] : List Nat)).getD m.val 0 = 0 := by decide
    exact this ⟨m, h⟩
  · rw [List.getD_eq_getElem?_getD, List.getElem?_eq_none (by show 21 ≤ m; omega)]; rfl
theorem leaN_0k : ∀ k, leaN 0 k = 0 := fun k => by
  by_cases h : k < 7
  · have : ∀ k : Fin 7, leaN 0 k.val = 0 := by decide
    exact this ⟨k, h⟩
  · have e : leaT.getD k [] = [] := by rw [List.getD_eq_getElem?_getD, List.getElem?_eq_none (by show 7 ≤ k; omega)]; rfl
    unfold leaN
    rw [e]; rfl
/-- the least shadow is the least. -/
theorem kk_all {n k : Nat} (hn : n ≤ 6) (hk : k ≤ 6) (P : Nat → Bool) (h : ∀ z, z < 2 ^ n → P z = true → cntTo (z : Nat) 8 = k) :
    ((cN n P : Nat) : Int) ≤ chI (n : Nat) (k : Nat) ∧ (1 ≤ k → leaV (cN n P : Nat) (k : Nat) ≤ ((cN n (shN n P) : Nat) : Int)) := by
  have h1 := kruskal leaN wayN 6
    (fun k _ => by cases k with
      | zero => exact Nat.le_refl _
      | succ k => exact Nat.zero_le _)
    (fun n _ => by cases n <;> exact Nat.le_refl _)
    (fun n _ k _ => Nat.le_refl _) leaN_m0 leaN_0k
    (fun n hn k hk a ha b hb => by
      have w1 := (way_tab ⟨n, by omega⟩ ⟨k + 1, by omega⟩).2
      have w2 := (way_tab ⟨n, by omega⟩ ⟨k, by omega⟩).2
      exact lea_sum ⟨n, hn⟩ ⟨k, hk⟩ ⟨a, by simp only at w1; omega⟩ ha ⟨b, by simp only at w2; omega⟩ hb) n hn k hk P fun z hz hp => by rw [pc_cnt hn hz]; exact h z hz hp
  have w := way_tab ⟨n, by omega⟩ ⟨k, by omega⟩
  refine ⟨by rw [← w.1]; exact Int.ofNat_le.2 h1.1, fun k1 => ?_⟩
  obtain ⟨k, rfl⟩ : ∃ j, k = j + 1 := ⟨k - 1, by omega⟩
  have := lea_tab ⟨k, by omega⟩ ⟨cN n P, by have := w.2; simp only at this; omega⟩
  simp only at this
  rw [this]
  exact Int.ofNat_le.2 h1.2
end Go.Proofs.Ytoglcinfnhhkhaa
