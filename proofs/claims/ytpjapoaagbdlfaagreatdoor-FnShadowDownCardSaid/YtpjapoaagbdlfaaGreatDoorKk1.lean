/- Least shadows and least boundaries, plain mathematics: a family's sections, and numbers that hold of sums of sections. -/
import Derived.Test.YtpjapoaagbdlfaaGreatDoorFam
namespace Go.Proofs.YtpjapoaagbdlfaaGreatDoor
open Go.RowKit

/-- how many numbers below 2^n have P. -/
def cN : Nat → (Nat → Bool) → Nat
  | 0, P => if P 0 then 1 else 0
  | n + 1, P => cN n P + cN n (fun z => P (z + 2 ^ n))
theorem cN_mono : ∀ (n : Nat) (P Q : Nat → Bool), (∀ z, z < 2 ^ n → P z = true → Q z = true) → cN n P ≤ cN n Q
  | 0, P, Q, h => by
    unfold cN
    by_cases hp : P 0 = true
    · rw [hp, h 0 (by decide) hp]; exact Nat.le_refl _
    · rw [if_neg hp]; exact Nat.zero_le _
  | n + 1, P, Q, h => by
    unfold cN
    have hp : 2 ^ (n + 1) = 2 ^ n + 2 ^ n := by rw [Nat.pow_succ]; omega
    have h1 := cN_mono n P Q fun z hz => h z (by omega)
    have h2 := cN_mono n (fun z => P (z + 2 ^ n)) (fun z => Q (z + 2 ^ n)) fun z hz => h (z + 2 ^ n) (by omega)
    omega
theorem cN_congr (n : Nat) (P Q : Nat → Bool) (h : ∀ z, z < 2 ^ n → P z = Q z) : cN n P = cN n Q :=
  Nat.le_antisymm (cN_mono n P Q fun z hz hp => by rw [← h z hz]; exact hp) (cN_mono n Q P fun z hz hp => by rw [h z hz]; exact hp)
theorem cN_le : ∀ (n : Nat) (P : Nat → Bool), cN n P ≤ 2 ^ n
  | 0, P => by unfold cN; split <;> decide
  | n + 1, P => by
    unfold cN
    have hp : 2 ^ (n + 1) = 2 ^ n + 2 ^ n := by rw [Nat.pow_succ]; omega
    have h1 := cN_le n P
    have h2 := cN_le n (fun z => P (z + 2 ^ n))
    omega
theorem range_two (n : Nat) : List.range (n + n) = List.range n ++ (List.range n).map (· + n) := by
  apply List.ext_getElem
  · simp
  · intro i h1 h2
    simp only [List.getElem_range, List.getElem_append, List.length_range, List.getElem_map]
    split <;> omega
theorem cN_count : ∀ (n : Nat) (P : Nat → Bool), cN n P = ((List.range (2 ^ n)).filter P).length
  | 0, P => by
    show (if P 0 then 1 else 0) = ((List.range 1).filter P).length
    rw [show List.range 1 = [0] from rfl]
    by_cases hp : P 0 = true
    · rw [if_pos hp, List.filter_cons_of_pos hp]; rfl
    · rw [if_neg hp, List.filter_cons_of_neg hp]; rfl
  | n + 1, P => by
    show cN n P + cN n (fun z => P (z + 2 ^ n)) = _
    rw [cN_count n P, cN_count n, show 2 ^ (n + 1) = 2 ^ n + 2 ^ n by rw [Nat.pow_succ]; omega, range_two, List.filter_append, List.length_append, List.filter_map, List.length_map]
    rfl

/-- the sizes of sets. -/
def pcN : Nat → Nat → Nat
  | 0, _ => 0
  | n + 1, z => if z < 2 ^ n then pcN n z else pcN n (z - 2 ^ n) + 1
/-- the shadow: what is left when a point is taken out. -/
def shN : Nat → (Nat → Bool) → Nat → Bool
  | 0, _, _ => false
  | n + 1, P, z => if z < 2 ^ n then shN n P z || P (z + 2 ^ n) else shN n (fun y => P (y + 2 ^ n)) (z - 2 ^ n)
/-- a set of the family, or beside one. -/
def nbN : Nat → (Nat → Bool) → Nat → Bool
  | 0, P, z => P z
  | n + 1, P, z => if z < 2 ^ n then nbN n P z || P (z + 2 ^ n) else nbN n (fun y => P (y + 2 ^ n)) (z - 2 ^ n) || P (z - 2 ^ n)

theorem cN_up {n : Nat} {F G : Nat → Bool} {Q : Nat → Bool} (h : Q = fun z => if z < 2 ^ n then F z else G (z - 2 ^ n)) : cN (n + 1) Q = cN n F + cN n G := by
  subst h
  show cN n _ + cN n _ = _
  rw [cN_congr n (fun z => if z < 2 ^ n then F z else G (z - 2 ^ n)) F fun z hz => if_pos hz, cN_congr n (fun z => (fun z => if z < 2 ^ n then F z else G (z - 2 ^ n)) (z + 2 ^ n)) G fun z hz => by
    show (if z + 2 ^ n < 2 ^ n then _ else _) = _
    rw [if_neg (by omega), Nat.add_sub_cancel]]

/-- boundaries by numbers: what holds of sums of sections holds of all families. -/
theorem harper (H : Nat → Nat → Nat) (N : Nat) (h0 : H 0 0 = 0) (h1 : H 0 1 ≤ 1)
    (hs : ∀ n, n < N → ∀ a, a ≤ 2 ^ n → ∀ b, b ≤ 2 ^ n → H (n + 1) (a + b) ≤ max (H n a) b + max (H n b) a) :
    ∀ n, n ≤ N → ∀ P : Nat → Bool, H n (cN n P) ≤ cN n (nbN n P)
  | 0, _, P => by
    show H 0 (if P 0 then 1 else 0) ≤ if P 0 then 1 else 0
    split
    · exact h1
    · rw [h0]; exact Nat.le_refl _
  | n + 1, hn, P => by
    have i1 := harper H N h0 h1 hs n (by omega) P
    have i2 := harper H N h0 h1 hs n (by omega) (fun z => P (z + 2 ^ n))
    have e : cN (n + 1) (nbN (n + 1) P) = cN n (fun z => nbN n P z || P (z + 2 ^ n)) + cN n (fun z => nbN n (fun y => P (y + 2 ^ n)) z || P z) := cN_up (by funext z; rfl)
    have m1 := cN_mono n (nbN n P) (fun z => nbN n P z || P (z + 2 ^ n)) fun z _ h => by show (_ || _) = true; rw [h]; rfl
    have m2 := cN_mono n (fun z => P (z + 2 ^ n)) (fun z => nbN n P z || P (z + 2 ^ n)) fun z _ h => by show (_ || P (z + 2 ^ n)) = true; rw [h, Bool.or_true]
    have m3 := cN_mono n (nbN n (fun y => P (y + 2 ^ n))) (fun z => nbN n (fun y => P (y + 2 ^ n)) z || P z) fun z _ h => by show (_ || _) = true; rw [h]; rfl
    have m4 := cN_mono n P (fun z => nbN n (fun y => P (y + 2 ^ n)) z || P z) fun z _ h => by show (_ || P z) = true; rw [h, Bool.or_true]
    have hh := hs n (by omega) _ (cN_le n P) _ (cN_le n (fun z => P (z + 2 ^ n)))
    rw [e]
    show H (n + 1) (cN n P + cN n (fun z => P (z + 2 ^ n))) ≤ _
    omega
/-- shadows by numbers. -/
theorem kruskal (L C : Nat → Nat → Nat) (N : Nat) (hC : ∀ k, k ≤ N → (if k = 0 then 1 else 0) ≤ C 0 k) (hC0 : ∀ n, n < N → C n 0 ≤ C (n + 1) 0)
    (hC1 : ∀ n, n < N → ∀ k, k < N → C n (k + 1) + C n k ≤ C (n + 1) (k + 1)) (hL0 : ∀ m, L m 0 = 0) (hL1 : ∀ k, L 0 k = 0)
    (hs : ∀ n, n < N → ∀ k, k < N → ∀ a, a ≤ C n (k + 1) → ∀ b, b ≤ C n k → L (a + b) (k + 1) ≤ max (L a (k + 1)) b + L b k) :
    ∀ n, n ≤ N → ∀ k, k ≤ N → ∀ P : Nat → Bool, (∀ z, z < 2 ^ n → P z = true → pcN n z = k) → cN n P ≤ C n k ∧ L (cN n P) k ≤ cN n (shN n P)
  | 0, _, k, hk, P, h => by
    by_cases hp : P 0 = true
    · have := h 0 (by decide) hp
      obtain rfl : 0 = k := this
      exact ⟨by unfold cN; rw [if_pos hp]; exact hC 0 (by omega), by rw [hL0]; exact Nat.zero_le _⟩
    · have e : cN 0 P = 0 := by unfold cN; rw [if_neg hp]
      rw [e, hL1]; exact ⟨Nat.zero_le _, Nat.zero_le _⟩
  | n + 1, hn, k, hk, P, h => by
    have hp : 2 ^ (n + 1) = 2 ^ n + 2 ^ n := by rw [Nat.pow_succ]; omega
    have hl : ∀ z, z < 2 ^ n → P z = true → pcN n z = k := fun z hz hPz => by
      have := h z (by omega) hPz
      unfold pcN at this
      rwa [if_pos hz] at this
    have hu : ∀ z, z < 2 ^ n → P (z + 2 ^ n) = true → pcN n z + 1 = k := fun z hz hPz => by
      have := h (z + 2 ^ n) (by omega) hPz
      unfold pcN at this
      rwa [if_neg (by omega), Nat.add_sub_cancel] at this
    have e : cN (n + 1) (shN (n + 1) P) = cN n (fun z => shN n P z || P (z + 2 ^ n)) + cN n (shN n (fun y => P (y + 2 ^ n))) := cN_up (by funext z; rfl)
    have i1 := kruskal L C N hC hC0 hC1 hL0 hL1 hs n (by omega) k hk P hl
    show cN n P + cN n (fun z => P (z + 2 ^ n)) ≤ _ ∧ L (cN n P + cN n (fun z => P (z + 2 ^ n))) k ≤ _
    cases k with
    | zero =>
      have e0 : cN n (fun z => P (z + 2 ^ n)) = 0 := by
        have := cN_mono n (fun z => P (z + 2 ^ n)) (fun _ => false) fun z hz hPz => by have := hu z hz hPz; omega
        have e : cN n (fun _ => false) = 0 := by rw [cN_count, List.filter_eq_nil_iff.2 (by simp)]; rfl
        omega
      rw [e0, Nat.add_zero, hL0]
      have := hC0 n (by omega)
      exact ⟨by omega, Nat.zero_le _⟩
    | succ k =>
      have i2 := kruskal L C N hC hC0 hC1 hL0 hL1 hs n (by omega) k (by omega) (fun z => P (z + 2 ^ n)) fun z hz hPz => by have := hu z hz hPz; omega
      have m1 := cN_mono n (shN n P) (fun z => shN n P z || P (z + 2 ^ n)) fun z _ h => by show (_ || _) = true; rw [h]; rfl
      have m2 := cN_mono n (fun z => P (z + 2 ^ n)) (fun z => shN n P z || P (z + 2 ^ n)) fun z _ h => by show (_ || P (z + 2 ^ n)) = true; rw [h, Bool.or_true]
      have hh := hs n (by omega) k (by omega) _ i1.1 _ i2.1
      have hc := hC1 n (by omega) k (by omega)
      rw [e]
      exact ⟨by omega, by omega⟩
/-- what the shadow's sets are. -/
theorem shN_iff : ∀ (n : Nat) (P : Nat → Bool) (z : Nat), z < 2 ^ n → (shN n P z = true ↔ ∃ p, p < n ∧ z.testBit p = false ∧ P (z + 2 ^ p) = true)
  | 0, P, z, _ => by simp [shN]
  | n + 1, P, z, hz => by
    have hp : 2 ^ (n + 1) = 2 ^ n + 2 ^ n := by rw [Nat.pow_succ]; omega
    by_cases hlt : z < 2 ^ n
    · have e : shN (n + 1) P z = (shN n P z || P (z + 2 ^ n)) := if_pos hlt
      rw [e, Bool.or_eq_true, shN_iff n P z hlt]
      constructor
      · rintro (⟨p, h1, h2, h3⟩ | h)
        · exact ⟨p, by omega, h2, h3⟩
        · exact ⟨n, by omega, Nat.testBit_lt_two_pow hlt, h⟩
      · rintro ⟨p, h1, h2, h3⟩
        by_cases hpn : p = n
        · subst hpn; exact .inr h3
        · exact .inl ⟨p, by omega, h2, h3⟩
    · have e : shN (n + 1) P z = shN n (fun y => P (y + 2 ^ n)) (z - 2 ^ n) := if_neg hlt
      rw [e, shN_iff n _ _ (by omega)]
      obtain ⟨y, rfl⟩ : ∃ y, z = 2 ^ n + y := ⟨z - 2 ^ n, by omega⟩
      have hy : y < 2 ^ n := by omega
      rw [Nat.add_sub_cancel_left]
      constructor
      · rintro ⟨p, h1, h2, h3⟩
        refine ⟨p, by omega, ?_, ?_⟩
        · rw [Nat.testBit_two_pow_add_gt h1]; exact h2
        · rw [show 2 ^ n + y + 2 ^ p = y + 2 ^ p + 2 ^ n by omega]; exact h3
      · rintro ⟨p, h1, h2, h3⟩
        by_cases hpn : p = n
        · subst hpn
          rw [Nat.testBit_two_pow_add_eq, Nat.testBit_lt_two_pow hy] at h2
          cases h2
        · rw [Nat.testBit_two_pow_add_gt (by omega)] at h2
          exact ⟨p, by omega, h2, by show P (y + 2 ^ p + 2 ^ n) = true; rw [show y + 2 ^ p + 2 ^ n = 2 ^ n + y + 2 ^ p by omega]; exact h3⟩
theorem nbN_iff : ∀ (n : Nat) (P : Nat → Bool) (z : Nat), z < 2 ^ n → (nbN n P z = true ↔ P z = true ∨ ∃ p, p < n ∧ P (z ^^^ 2 ^ p) = true)
  | 0, P, z, _ => by simp [nbN]
  | n + 1, P, z, hz => by
    have hp : 2 ^ (n + 1) = 2 ^ n + 2 ^ n := by rw [Nat.pow_succ]; omega
    have up : ∀ y, y < 2 ^ n → y ^^^ 2 ^ n = y + 2 ^ n := fun y hy => by
      have := Nat.two_pow_add_eq_or_of_lt hy 1
      apply Nat.eq_of_testBit_eq
      intro i
      rw [Nat.testBit_xor, Nat.testBit_two_pow, Nat.add_comm y]
      by_cases hi : i = n
      · subst hi; rw [Nat.testBit_two_pow_add_eq, decide_eq_true rfl]; simp
      · rw [decide_eq_false (fun h => hi h.symm)]
        by_cases hl : i < n
        · rw [Nat.testBit_two_pow_add_gt hl]; simp
        · rw [Nat.testBit_lt_two_pow (Nat.lt_of_lt_of_le hy (Nat.pow_le_pow_right (by decide) (by omega))), Nat.testBit_lt_two_pow (x := 2 ^ n + y) (Nat.lt_of_lt_of_le (show 2 ^ n + y < 2 ^ (n + 1) by omega) (Nat.pow_le_pow_right (by decide) (by omega)))]; rfl
    have dn : ∀ y, y < 2 ^ n → (y + 2 ^ n) ^^^ 2 ^ n = y := fun y hy => by rw [← up y hy, Nat.xor_assoc, Nat.xor_self, Nat.xor_zero]
    have mid : ∀ y p, y < 2 ^ n → p < n → (y + 2 ^ n) ^^^ 2 ^ p = (y ^^^ 2 ^ p) + 2 ^ n := fun y p hy hpn => by
      have h2 : 2 ^ p < 2 ^ n := Nat.pow_lt_pow_right (by decide) hpn
      rw [← up y hy, ← up _ (Nat.xor_lt_two_pow hy h2), Nat.xor_assoc, Nat.xor_comm (2 ^ n), ← Nat.xor_assoc]
    by_cases hlt : z < 2 ^ n
    · have e : nbN (n + 1) P z = (nbN n P z || P (z + 2 ^ n)) := if_pos hlt
      rw [e, Bool.or_eq_true, nbN_iff n P z hlt]
      constructor
      · rintro ((h | ⟨p, h1, h2⟩) | h)
        · exact .inl h
        · exact .inr ⟨p, by omega, h2⟩
        · exact .inr ⟨n, by omega, by rw [up z hlt]; exact h⟩
      · rintro (h | ⟨p, h1, h2⟩)
        · exact .inl (.inl h)
        · by_cases hpn : p = n
          · subst hpn; rw [up z hlt] at h2; exact .inr h2
          · exact .inl (.inr ⟨p, by omega, h2⟩)
    · have e : nbN (n + 1) P z = (nbN n (fun y => P (y + 2 ^ n)) (z - 2 ^ n) || P (z - 2 ^ n)) := if_neg hlt
      rw [e, Bool.or_eq_true, nbN_iff n _ _ (by omega)]
      obtain ⟨y, rfl⟩ : ∃ y, z = y + 2 ^ n := ⟨z - 2 ^ n, by omega⟩
      have hy : y < 2 ^ n := by omega
      rw [Nat.add_sub_cancel]
      constructor
      · rintro ((h | ⟨p, h1, h2⟩) | h)
        · exact .inl h
        · exact .inr ⟨p, by omega, by rw [mid y p hy h1]; exact h2⟩
        · exact .inr ⟨n, by omega, by rw [dn y hy]; exact h⟩
      · rintro (h | ⟨p, h1, h2⟩)
        · exact .inl (.inl h)
        · by_cases hpn : p = n
          · subst hpn; rw [dn y hy] at h2; exact .inr h2
          · rw [mid y p hy (by omega)] at h2; exact .inl (.inr ⟨p, by omega, h2⟩)

/-- the sets of a list, as a property of numbers. -/
def famP (xs : List Int) (z : Nat) : Bool := decide ((z : Int) ∈ xs)
theorem cN_fam {n : Nat} {xs : List Int} (hA : Asc xs) (h : ∀ z ∈ xs, 0 ≤ z ∧ z < ((2 ^ n : Nat) : Int)) : cN n (famP xs) = xs.length := by
  have e : xs = (upI (2 ^ n)).filter (fun z => decide (z ∈ xs)) := asc_ext hA (asc_filter (asc_upI _) _) fun z => by
    rw [List.mem_filter, mem_upI]
    constructor
    · intro hz; exact ⟨h z hz, decide_eq_true hz⟩
    · intro hz; exact of_decide_eq_true hz.2
  have e2 : xs.length = ((upI (2 ^ n)).filter (fun z => decide (z ∈ xs))).length := congrArg List.length e
  rw [e2, cN_count]
  unfold upI
  rw [List.filter_map, List.length_map]
  rfl
theorem pc_dec : ∀ n : Fin 7, ∀ z : Fin 64, z.val < 2 ^ n.val → pcN n.val z.val = cntTo (z.val : Nat) 8 := by decide +kernel
theorem pc_cnt {n z : Nat} (hn : n ≤ 6) (hz : z < 2 ^ n) : pcN n z = cntTo (z : Nat) 8 := pc_dec ⟨n, by omega⟩ ⟨z, Nat.lt_of_lt_of_le hz ((show 2 ^ _ ≤ 2 ^ 6 from Nat.pow_le_pow_right (by decide) hn))⟩ hz
end Go.Proofs.YtpjapoaagbdlfaaGreatDoor
