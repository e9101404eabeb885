/- Least shadows do not fall: the mathematics. -/
import Derived.Test.YtpjapoaagbdlfaaGreatDoorLeast
namespace Go.Proofs.YtpjapoaagbdlfaaGreatDoor
open Go.ChangeShapes Go.WideShapes Go.ChangeAt Go.RowKit Go.Proofs

theorem ch_up1 : ∀ n : Fin 41, ∀ k : Fin 9, chI (n.val : Nat) (k.val : Nat) ≤ chI ((n.val : Nat) + 1) (k.val : Nat) := by decide +kernel
theorem ch_up {k : Int} (k1 : 0 ≤ k) (k2 : k ≤ 8) : ∀ (d : Nat) {n : Int}, 0 ≤ n → n + d ≤ 41 → chI n k ≤ chI (n + d) k := by
  intro d
  induction d with
  | zero => intro n _ _; simp
  | succ d ih =>
    intro n h1 h2
    have a := ih h1 (by omega)
    have e1 : (((n + d).toNat : Nat) : Int) = n + d := Int.toNat_of_nonneg (by omega)
    have e2 : ((k.toNat : Nat) : Int) = k := Int.toNat_of_nonneg k1
    have b := ch_up1 ⟨(n + d).toNat, by omega⟩ ⟨k.toNat, by omega⟩
    simp only [e1, e2] at b
    rw [show n + ((d + 1 : Nat) : Int) = n + d + 1 by omega]
    omega
theorem ch_mono {n n' k : Int} (k1 : 0 ≤ k) (k2 : k ≤ 8) (h1 : 0 ≤ n) (h : n ≤ n') (h2 : n' ≤ 41) : chI n k ≤ chI n' k := by
  have := ch_up k1 k2 (n' - n).toNat (n := n) h1 (by omega)
  rwa [show n + ((n' - n).toNat : Nat) = n' by omega] at this
theorem ch_0 : ∀ n : Fin 42, chI (n.val : Nat) 0 = 1 := by decide +kernel
theorem ch_00 {n : Int} (h1 : 0 ≤ n) (h2 : n ≤ 41) : chI n 0 = 1 := by
  have e1 : ((n.toNat : Nat) : Int) = n := Int.toNat_of_nonneg h1
  have b := ch_0 ⟨n.toNat, by omega⟩
  simpa only [e1] using b

/-- the sum for a number that is left. -/
def lsF (j : Nat) (r : Int) : Int := lst (cascL r j) (j : Nat)
theorem lsF_0 {r : Int} (h : r ≤ 0) (j : Nat) : lsF j r = 0 := by unfold lsF; rw [cascL_0 h]; rfl
theorem lsF_z (r : Int) : lsF 0 r = 0 := rfl
theorem lsF_s {r : Int} (h : 0 < r) (j : Nat) : lsF (j + 1) r = chI (topOf r ((j : Int) + 1)) j + lsF j (r - chI (topOf r ((j : Int) + 1)) ((j : Int) + 1)) := by
  unfold lsF
  rw [cascL_s h]
  show chI _ (((j + 1 : Nat) : Int) - 1) + lst _ (((j + 1 : Nat) : Int) - 1) = _
  rw [show ((j + 1 : Nat) : Int) - 1 = (j : Int) by omega]
theorem lsF_nn : ∀ (j : Nat) (r : Int), j ≤ 8 → r < chI 41 j → 0 ≤ lsF j r := fun j r hj hr => (lst_bd _ _ (casc_bd j r hj hr) (by have := cascL_len j r; omega) (by omega)).1
theorem lsF_le : ∀ (j : Nat) (r t : Int), j + 1 ≤ 8 → 0 ≤ r → 0 ≤ t → t ≤ 40 → r < chI (t + 1) ((j : Int) + 1) → lsF (j + 1) r ≤ chI (t + 1) j := by
  intro j
  induction j with
  | zero =>
    intro r t hj h0 t0 t1 hr
    by_cases h : r ≤ 0
    · rw [lsF_0 h]; rw [show ((0 : Nat) : Int) = 0 from rfl, ch_00 (by omega) (by omega)]; omega
    · have h41 : r < chI 41 ((0 : Nat) + 1 : Int) := by have := ch_mono (k := (0 : Nat) + 1) (by omega) (by omega) (show 0 ≤ t + 1 by omega) (show t + 1 ≤ 41 by omega) (by omega); omega
      obtain ⟨a1, a2, a3, a4, a5⟩ := casc_step (j := 0) (by omega) (by omega) h41
      rw [lsF_s (by omega), lsF_z]
      obtain ⟨T, hT⟩ : ∃ T, topOf r (((0 : Nat) : Int) + 1) = T := ⟨_, rfl⟩
      rw [hT] at a1 a2 ⊢
      rw [show ((0 : Nat) : Int) = 0 from rfl] at a1 ⊢
      rw [ch_00 (n := T) a1 (by omega), ch_00 (n := t + 1) (by omega) (by omega)]
      omega
  | succ j ih =>
    intro r t hj h0 t0 t1 hr
    have e : (((j + 1 : Nat) : Int)) = (j : Int) + 1 := by omega
    rw [e] at hr
    by_cases h : r ≤ 0
    · rw [lsF_0 h]; exact (chI_bounds (by omega) (by omega) (by omega) (by omega)).1
    · have h41 : r < chI 41 (((j + 1 : Nat) : Int) + 1) := by rw [e]; have := ch_mono (k := (j : Int) + 1 + 1) (by omega) (by omega) (show 0 ≤ t + 1 by omega) (show t + 1 ≤ 41 by omega) (by omega); omega
      obtain ⟨b1, b2, b3, b4⟩ := topOf_spec (m := r) (k := ((j + 1 : Nat) : Int) + 1) (by omega) (by omega) h0 h41
      rw [lsF_s (by omega)]
      rw [e] at b1 b2 b3 b4 ⊢
      obtain ⟨T, hT⟩ : ∃ T, topOf r ((j : Int) + 1 + 1) = T := ⟨_, rfl⟩
      rw [hT] at b1 b2 b3 b4 ⊢
      have hTt : T ≤ t := by
        apply Classical.byContradiction
        intro hc
        have := ch_mono (k := (j : Int) + 1 + 1) (by omega) (by omega) (show 0 ≤ t + 1 by omega) (show t + 1 ≤ T by omega) (by omega)
        omega
      have p := (ch_pascal' (t := T) (k := (j : Int) + 1) (by omega) (by omega) (by omega) (by omega)).1
      have p2 := (ch_pascal' (t := T) (k := (j : Int)) (by omega) (by omega) (by omega) (by omega)).1
      have q := ih (r - chI T ((j : Int) + 1 + 1)) (T - 1) (by omega) (by omega) (by omega) (by omega) (by rw [show T - 1 + 1 = T by omega]; omega)
      rw [show T - 1 + 1 = T by omega] at q
      have m := ch_mono (k := (j : Int) + 1) (by omega) (by omega) (show 0 ≤ T + 1 by omega) (show T + 1 ≤ t + 1 by omega) (by omega)
      omega
theorem lsF_up : ∀ (j : Nat) (r : Int), j ≤ 8 → 0 ≤ r → r + 1 < chI 41 j → lsF j r ≤ lsF j (r + 1) := by
  intro j
  induction j with
  | zero => intro r _ _ _; exact Int.le_refl _
  | succ j ih =>
    intro r hj h0 hr
    have e : (((j + 1 : Nat) : Int)) = (j : Int) + 1 := by omega
    rw [e] at hr
    by_cases h : r ≤ 0
    · rw [lsF_0 h]; exact lsF_nn _ _ hj (by rw [e]; omega)
    · obtain ⟨b1, b2, b3, b4⟩ := topOf_spec (m := r) (k := (j : Int) + 1) (by omega) (by omega) h0 (by omega)
      obtain ⟨c1, c2, c3, c4⟩ := topOf_spec (m := r + 1) (k := (j : Int) + 1) (by omega) (by omega) (by omega) hr
      rw [lsF_s (r := r) (by omega), lsF_s (r := r + 1) (by omega)]
      obtain ⟨T, hT⟩ : ∃ T, topOf r ((j : Int) + 1) = T := ⟨_, rfl⟩
      obtain ⟨T', hT'⟩ : ∃ T', topOf (r + 1) ((j : Int) + 1) = T' := ⟨_, rfl⟩
      have hA := lsF_le j r T (by omega) h0 (by omega) (by omega)
      rw [lsF_s (r := r) (by omega)] at hA
      rw [hT] at b1 b2 b3 b4 hA ⊢
      rw [hT'] at c1 c2 c3 c4 ⊢
      have hle : T ≤ T' := by
        apply Classical.byContradiction
        intro hc
        have := ch_mono (k := (j : Int) + 1) (by omega) (by omega) (show 0 ≤ T' + 1 by omega) (show T' + 1 ≤ T by omega) (by omega)
        omega
      have p := ch_pascal' (t := T') (k := (j : Int)) (by omega) (by omega) (by omega) (by omega)
      by_cases he : T = T'
      · subst he
        have := ih (r - chI T ((j : Int) + 1)) (by omega) (by omega) (by omega)
        rw [show r - chI T ((j : Int) + 1) + 1 = r + 1 - chI T ((j : Int) + 1) by omega] at this
        omega
      · have m := ch_mono (k := (j : Int)) (by omega) (by omega) (show 0 ≤ T + 1 by omega) (show T + 1 ≤ T' by omega) (by omega)
        have n := lsF_nn j (r + 1 - chI T' ((j : Int) + 1)) (by omega) (by omega)
        have := hA (by omega)
        omega
theorem leaV_F {m k : Int} (h : leaOk m k) : leaV m k = lsF k.toNat m := by
  rw [leaV_mk h]; unfold lsF; rw [Int.toNat_of_nonneg (by have := h.2.1; omega)]
theorem leaB_yes {m k : Int} (h : leaB m k = true) : leaOk m k := of_decide_eq_true h
theorem lea_lt {m k : Int} (h : leaOk m k) : m < chI 41 k := by
  obtain ⟨_, k1, k2, h | h⟩ := h
  · subst h; have := ch_mono (n := k) (n' := 41) (k := k) (by omega) k2 (by omega) (by omega) (by omega); have := (ch_self' k1 k2).1; omega
  · exact h.2.2.2.2
theorem leaV_nn {m k : Int} (h : leaB m k = true) : 0 ≤ leaV m k := by
  have h := leaB_yes h
  rw [leaV_F h]
  have := lea_lt h
  exact lsF_nn _ _ (by have := h.2.2.1; omega) (by rw [Int.toNat_of_nonneg (by have := h.2.1; omega)]; exact this)
theorem leaV_up {m k : Int} (h : leaB m k = true) (h2 : leaB (m + 1) k = true) : leaV m k ≤ leaV (m + 1) k := by
  have h := leaB_yes h
  have h2 := leaB_yes h2
  rw [leaV_F h, leaV_F h2]
  have := lea_lt h2
  exact lsF_up _ _ (by have := h.2.2.1; omega) h.1 (by rw [Int.toNat_of_nonneg (by have := h.2.1; omega)]; exact this)
end Go.Proofs.YtpjapoaagbdlfaaGreatDoor
