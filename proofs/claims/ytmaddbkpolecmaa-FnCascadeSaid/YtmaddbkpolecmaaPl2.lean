/- Cascades fall and add up: plain mathematics. -/
import Derived.Test.YtmaddbkpolecmaaLawsG
namespace Go.Proofs.Ytmaddbkpolecmaa
open Go.RowKit

/-- the ways of the first i tops, added up. -/
def wayS (j : Int) (L : List Int) : Nat → Int
  | 0 => 0
  | i + 1 => wayS j L i + chI (L.getD i 0) (j - i)
theorem wayS_cons (j t : Int) (L : List Int) : ∀ i, wayS j (t :: L) (i + 1) = chI t j + wayS (j - 1) L i
  | 0 => by simp [wayS]
  | i + 1 => by
    have h := wayS_cons j t L i
    have e : wayS j (t :: L) (i + 1 + 1) = wayS j (t :: L) (i + 1) + chI ((t :: L).getD (i + 1) 0) (j - ((i + 1 : Nat) : Int)) := rfl
    have e2 : wayS (j - 1) L (i + 1) = wayS (j - 1) L i + chI (L.getD i 0) (j - 1 - (i : Int)) := rfl
    rw [e, e2, h, List.getD_cons_succ, show j - ((i + 1 : Nat) : Int) = j - 1 - (i : Int) by omega]; omega
theorem ch_mono_dec : ∀ t : Fin 42, ∀ u : Fin 42, ∀ k : Fin 9, t.val ≤ u.val → chI t.val k.val ≤ chI u.val k.val := by decide +kernel
theorem ch_mono {t u k : Int} (h0 : 0 ≤ t) (h : t ≤ u) (hu : u ≤ 41) (k0 : 0 ≤ k) (k8 : k ≤ 8) : chI t k ≤ chI u k := by
  have h := ch_mono_dec ⟨t.toNat, by omega⟩ ⟨u.toNat, by omega⟩ ⟨k.toNat, by omega⟩ (by show t.toNat ≤ u.toNat; omega)
  have e1 : ((t.toNat : Nat) : Int) = t := Int.toNat_of_nonneg (by omega)
  have e2 : ((u.toNat : Nat) : Int) = u := Int.toNat_of_nonneg (by omega)
  have e3 : ((k.toNat : Nat) : Int) = k := Int.toNat_of_nonneg k0
  simpa only [e1, e2, e3] using h
/-- what holds of a cascade: each top is in its range, they fall. -/
def CascW (j B : Int) (L : List Int) : Prop := ∀ i : Nat, i < L.length → 1 ≤ j - i ∧ j - i ≤ L.getD i 0 ∧ L.getD i 0 ≤ 40 ∧ (i = 0 → L.getD i 0 < B) ∧ (0 < i → L.getD i 0 < L.getD (i - 1) 0)
theorem casc_w : ∀ (j : Nat) (r B : Int), j ≤ 8 → 0 ≤ r → r < chI 41 j → 0 ≤ B → B ≤ 41 → (1 ≤ j → r < chI B j) → wayS j (cascL r j) (cascL r j).length = r ∧ CascW j B (cascL r j) := by
  intro j
  induction j with
  | zero =>
    intro r B _ h0 h _ _ _
    have : chI 41 ((0 : Nat) : Int) = 1 := ch41_0
    rw [this] at h
    have e : cascL r 0 = [] := rfl
    rw [e]
    exact ⟨by simp [wayS]; omega, fun i hi => by simp at hi⟩
  | succ j ih =>
    intro r B hj h0 h hB0 hB1 hB
    by_cases hr : r ≤ 0
    · rw [cascL_0 hr]
      exact ⟨by simp [wayS]; omega, fun i hi => by simp at hi⟩
    · have hr0 : 0 < r := by omega
      have h' : r < chI 41 ((j : Int) + 1) := by have e : (((j + 1 : Nat)) : Int) = (j : Int) + 1 := by omega
                                                 rw [e] at h; exact h
      rw [cascL_s hr0]
      obtain ⟨a1, a2, a3, a4, a5⟩ := casc_step (by omega) hr0 h'
      obtain ⟨b1, b2, b3, b4⟩ := topOf_spec (m := r) (k := (j : Int) + 1) (by omega) (by omega) h0 h'
      obtain ⟨t, ht⟩ : ∃ t, topOf r ((j : Int) + 1) = t := ⟨_, rfl⟩
      rw [ht] at a1 a2 a3 a4 a5 b1 b2 b3 b4 ⊢
      have ht1 : (j : Int) + 1 ≤ t := by
        refine Classical.byContradiction fun hc => ?_
        have e : t = j := by omega
        subst e
        rw [(ch_self' (k := (j : Int) + 1) (by omega) (by omega)).1] at b4
        omega
      have htB : t < B := by
        refine Classical.byContradiction fun hc => ?_
        have h1 := hB (by omega)
        have h2 := ch_mono (t := B) (u := t) (k := (j : Int) + 1) hB0 (by omega) (by omega) (by omega) (by omega)
        have e : (((j + 1 : Nat)) : Int) = (j : Int) + 1 := by omega
        rw [e] at h1
        omega
      have hnext : 1 ≤ j → r - chI t ((j : Int) + 1) < chI t j := fun hj1 => by
        obtain ⟨d, hd⟩ : ∃ d : Nat, j = d + 1 := ⟨j - 1, by omega⟩
        have hp := (ch_pascal' (t := t) (k := (j : Int)) (by omega) (by omega) (by omega) (by omega)).1
        omega
      obtain ⟨i1, i2⟩ := ih (r - chI t ((j : Int) + 1)) t (by omega) a4 a5 (by omega) (by omega) hnext
      obtain ⟨L, hL⟩ : ∃ L, cascL (r - chI t ((j : Int) + 1)) j = L := ⟨_, rfl⟩
      rw [hL] at i1 i2 ⊢
      refine ⟨?_, fun i hi => ?_⟩
      · rw [List.length_cons, wayS_cons]
        have e : (((j + 1 : Nat)) : Int) - 1 = (j : Int) := by omega
        rw [e, i1]
        have e2 : (((j + 1 : Nat)) : Int) = (j : Int) + 1 := by omega
        rw [e2]; omega
      · cases i with
        | zero => simp; omega
        | succ i =>
          rw [List.length_cons] at hi
          obtain ⟨q1, q2, q3, q4, q5⟩ := i2 i (by omega)
          refine ⟨by omega, by rw [List.getD_cons_succ]; omega, by rw [List.getD_cons_succ]; exact q3, fun h => by omega, fun _ => ?_⟩
          rw [List.getD_cons_succ, Nat.add_sub_cancel]
          cases i with
          | zero => simpa using q4 rfl
          | succ i => rw [List.getD_cons_succ]; exact q5 (by omega)
theorem casc_facts {m k : Int} (h : cascOk m k) : wayS k (cascL m k.toNat) (cascL m k.toNat).length = m ∧ CascW k 41 (cascL m k.toNat) ∧ 0 < (cascL m k.toNat).length ∧ (cascL m k.toNat).length ≤ 8 := by
  obtain ⟨m1, m2, k1, k2, h1⟩ := h
  have e : ((k.toNat : Nat) : Int) = k := Int.toNat_of_nonneg (by omega)
  obtain ⟨a, b⟩ := casc_w k.toNat m 41 (by omega) (by omega) (by rw [e]; exact h1) (by omega) (by omega) (fun _ => by rw [e]; exact h1)
  rw [e] at a b
  have hl := cascL_len k.toNat m
  refine ⟨a, b, ?_, by omega⟩
  refine Classical.byContradiction fun hc => ?_
  have h0 : (cascL m k.toNat).length = 0 := by omega
  rw [h0] at a
  simp [wayS] at a
  omega
theorem wayS_bd {j B : Int} {L : List Int} (hj : j ≤ 8) (h : CascW j B L) : ∀ i, i ≤ L.length → 0 ≤ wayS j L i ∧ wayS j L i ≤ 1000000000000 * i
  | 0, _ => by simp [wayS]
  | i + 1, hi => by
    have h1 := wayS_bd hj h i (by omega)
    obtain ⟨q1, q2, q3, _⟩ := h i (by omega)
    have h2 := chI_bounds (n := L.getD i 0) (k := j - i) (by omega) (by omega) (by omega) (by omega)
    simp only [wayS]
    omega
end Go.Proofs.Ytmaddbkpolecmaa
