/- Families with no set in another one: their shares and their numbers: plain mathematics. -/
import Derived.Test.YtcadlfljlobjjaaLy1
import Derived.Test.YtcadlfljlobjjaaAs1
namespace Go.Proofs.Ytcadlfljlobjjaa
open Go.ChangeShapes Go.WideShapes Go.ChangeAt Go.RowKit Go.Proofs

theorem ly_dec : ∀ N : Fin 9, N.val ≠ 0 → 0 < 840 / cbN N.val ∧ 840 / cbN N.val * cbN N.val = 840 := by decide +kernel
theorem ly_dec2 : ∀ N : Fin 9, N.val ≠ 0 → ∀ k : Fin 9, k.val ≤ N.val → mW N.val k.val = 840 / cbN N.val * (cbN N.val / chN N.val k.val) ∧ mW N.val (N.val / 2) ≤ mW N.val k.val ∧ 0 < mW N.val (N.val / 2) ∧ chN N.val (N.val / 2) * mW N.val (N.val / 2) = 840 := by decide +kernel
theorem all_bits : ∀ n : Fin 9, ∀ p : Fin 8, hasB ((2 ^ n.val - 1 : Nat) : Int) (p.val : Nat) = decide (p.val < n.val) := by decide +kernel
theorem has_lt {N p : Nat} {x : Int} (h2 : x.toNat < 2 ^ N) (h : hasB x (p : Nat) = true) : p < N := by
  refine Classical.byContradiction fun hc => ?_
  have a : x.toNat < 2 ^ p := Nat.lt_of_lt_of_le h2 (Nat.pow_le_pow_right (by omega) (by omega))
  unfold hasB at h
  rw [Int.toNat_natCast, Nat.testBit_lt_two_pow a] at h
  cases h
theorem cnt_all : ∀ n : Fin 9, cntTo ((2 ^ n.val - 1 : Nat) : Int) 8 = n.val := by decide +kernel
theorem part_and {x y : Int} (h1 : 0 ≤ x) (h2 : x < 256) (h : PartP x y) : partB x y = true := by
  unfold partB
  refine decide_eq_true ?_
  unfold andI
  have : x.toNat &&& y.toNat = x.toNat := by
    refine Nat.eq_of_testBit_eq (fun p => ?_)
    rw [Nat.testBit_and]
    by_cases hp : p < 8
    · have := h p hp
      unfold hasB at this
      rw [Int.toNat_natCast] at this
      cases ha : x.toNat.testBit p <;> simp_all
    · have a : x.toNat < 2 ^ p := Nat.lt_of_lt_of_le (show x.toNat < 2 ^ 8 by omega) (Nat.pow_le_pow_right (by omega) (by omega))
      rw [Nat.testBit_lt_two_pow a, Bool.false_and]
  rw [this]
  omega
theorem anti_ly {n : Int} {xs : List Int} (hf : famB n xs = true) (ha : antiB xs = true) : wS n.toNat xs ≤ cbN n.toNat ∧ xs.length ≤ chN n.toNat (n.toNat / 2) := by
  obtain ⟨n1, n2, hs⟩ := famB_all hf
  obtain ⟨N, hN⟩ : ∃ N : Nat, n.toNat = N := ⟨_, rfl⟩
  have eN : ((2 ^ n.toNat : Nat) : Int) = 2 ^ n.toNat := by simp
  have h256 := pow_le256 n1 n2
  rw [hN] at eN h256 ⊢
  have hz : ∀ x ∈ xs, 0 ≤ x ∧ x < 256 ∧ x.toNat < 2 ^ N := fun x hx => by
    obtain ⟨_, _, a, b⟩ := setB_yes (hs x hx)
    rw [hN] at b
    exact ⟨a, by omega, by omega⟩
  have hall := all_bits ⟨N, by omega⟩
  have hP : ∀ x ∈ xs, PartP x ((2 ^ N - 1 : Nat) : Int) := fun x hx p hp hb => by
    obtain ⟨_, _, c⟩ := hz x hx
    have h := hall ⟨p, hp⟩
    simp only at h
    rw [h]
    exact decide_eq_true (has_lt c hb)
  have hcard := cnt_all ⟨N, by omega⟩
  simp only at hcard
  have hpos : 0 < 2 ^ N := Nat.pos_of_ne_zero (by simp)
  have hl := lym N ((2 ^ N - 1 : Nat) : Int) (by omega) (by omega) (by omega) hcard xs ((famB_asc hf).imp (fun h => by omega)) (fun x hx => ⟨(hz x hx).1, (hz x hx).2.1, hP x hx⟩) (fun x hx y hy hp => by
    refine Classical.byContradiction fun hne => ?_
    unfold antiB at ha
    rw [Bool.not_eq_true', List.any_eq_false] at ha
    have h1 := part_and (hz x hx).1 (hz x hx).2.1 hp
    have h2 := ha x hx
    apply h2
    rw [List.any_eq_true]
    refine ⟨y, hy, ?_⟩
    rw [end_yes (fun e => hne e.symm)]
    simpa using h1)
  obtain ⟨q1, q2⟩ := ly_dec ⟨N, by omega⟩ (by show N ≠ 0; omega)
  simp only at q1 q2
  have hk : ∀ x ∈ xs, cntTo x 8 ≤ N := fun x hx => by
    have h := cnt_le_n ⟨N, by omega⟩ ⟨x.toNat, by have := hz x hx; omega⟩ (hz x hx).2.2
    have e : ((x.toNat : Nat) : Int) = x := Int.toNat_of_nonneg (hz x hx).1
    simp only [e] at h
    unfold cntI at h
    omega
  have hd : ∀ x ∈ xs, mW N (cntTo x 8) = 840 / cbN N * (cbN N / chN N (cntI x).toNat) ∧ mW N (N / 2) ≤ mW N (cntTo x 8) := fun x hx => by
    have h := ly_dec2 ⟨N, by omega⟩ (by show N ≠ 0; omega) ⟨cntTo x 8, by have := hk x hx; omega⟩ (hk x hx)
    simp only at h
    have e : (cntI x).toNat = cntTo x 8 := by unfold cntI; simp
    rw [e]
    exact ⟨h.1, h.2.1⟩
  have hmid := ly_dec2 ⟨N, by omega⟩ (by show N ≠ 0; omega) ⟨0, by omega⟩ (by simp)
  simp only at hmid
  obtain ⟨_, _, m1, m2⟩ := hmid
  have s1 : lyS N xs = 840 / cbN N * wS N xs := by
    unfold lyS wS
    clear hl hz hP hk ha hf hs
    induction xs with
    | nil => simp
    | cons x xs ih =>
      have h1 := ih (fun y hy => hd y (List.mem_cons_of_mem _ hy))
      have h2 := (hd x (List.mem_cons_self ..)).1
      simp only [List.map_cons, List.sum_cons]
      rw [Nat.mul_add, h1, h2]
  have s2 : xs.length * mW N (N / 2) ≤ lyS N xs := by
    unfold lyS
    clear s1 hl hz hP hk ha hf hs
    induction xs with
    | nil => simp
    | cons x xs ih =>
      have h1 := ih (fun y hy => hd y (List.mem_cons_of_mem _ hy))
      have h2 := (hd x (List.mem_cons_self ..)).2
      simp only [List.map_cons, List.sum_cons, List.length_cons, Nat.add_mul, Nat.one_mul]
      omega
  constructor
  · refine Nat.le_of_mul_le_mul_left ?_ q1
    rw [← s1, q2]
    exact hl
  · refine Nat.le_of_mul_le_mul_right ?_ m1
    rw [m2]
    exact Nat.le_trans s2 hl
end Go.Proofs.Ytcadlfljlobjjaa
