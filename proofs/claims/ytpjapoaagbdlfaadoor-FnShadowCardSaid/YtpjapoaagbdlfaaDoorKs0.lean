/- Shadows of families of one size are not less than the least ones, plain mathematics. -/
import Derived.Test.YtpjapoaagbdlfaaDoorKk2
import Derived.Test.YtpjapoaagbdlfaaDoorProf
import Derived.Test.YtpjapoaagbdlfaaDoorEvB
import Derived.Test.YtpjapoaagbdlfaaDoorMa1
namespace Go.Proofs.YtpjapoaagbdlfaaDoor
open Go.ChangeShapes Go.WideShapes Go.ChangeAt Go.RowKit Go.Proofs

theorem ks_dec : ∀ z : Fin 64, ∀ p : Fin 6, z.val.testBit p.val = false → ((p.val : Nat) : Int) ∈ ptsI ((z.val + 2 ^ p.val : Nat) : Int) ∧ lessI ((z.val + 2 ^ p.val : Nat) : Int) (p.val : Nat) = (z.val : Nat) := by decide +kernel
theorem ks_ev {n : Int} {xs : List Int} (h : evB n xs = true) : famB n xs = true ∧ 0 < xs.length ∧ ∀ x ∈ xs, cntI x = cntI (xs.getD 0 0) := by
  unfold evB evN at h
  simp only [Bool.and_eq_true, decide_eq_true_eq, Bool.not_eq_true', List.any_eq_false, bne_iff_ne, ne_eq, Decidable.not_not] at h
  exact ⟨h.1, h.2.1, h.2.2⟩
theorem ks_fit : ∀ n : Fin 7, ∀ s : Fin 64, s.val < 2 ^ n.val → cntTo s.val 8 ≤ n.val := by decide +kernel
theorem ks_least {n k : Int} {xs : List Int} (he : evB n xs = true) (n6 : n ≤ 6) (hk : cntI (xs.getD 0 0) = k) (k1 : 1 ≤ k) :
    leaB (xs.length : Nat) k = true ∧ leaV (xs.length : Nat) k ≤ (((sortL (dnL xs)).length : Nat) : Int) := by
  obtain ⟨hf, h0, hev⟩ := ks_ev he
  obtain ⟨n1, n2, hs⟩ := famB_all hf
  obtain ⟨N, hN⟩ : ∃ N : Nat, n = (N : Nat) := ⟨n.toNat, by omega⟩
  subst hN
  have hN6 : N ≤ 6 := by omega
  have h64 : 2 ^ N ≤ 64 := (show 2 ^ _ ≤ 2 ^ 6 from Nat.pow_le_pow_right (by decide) hN6)
  have hp : ((2 ^ N : Nat) : Int) = (2 : Int) ^ N := by simp
  have hr : ∀ z, setB (N : Nat) z = true → 0 ≤ z ∧ z < ((2 ^ N : Nat) : Int) := fun z hz => by
    obtain ⟨_, _, h1, h2⟩ := setB_yes hz
    rw [Int.toNat_natCast] at h2
    exact ⟨h1, by rw [hp]; exact h2⟩
  have hx0 := getD_mem h0
  obtain ⟨y1, y2⟩ := hr _ (hs _ hx0)
  obtain ⟨K, hK⟩ : ∃ K : Nat, cntTo (xs.getD 0 0) 8 = K := ⟨_, rfl⟩
  have hkK : k = (K : Nat) := by rw [← hk, ← hK]; rfl
  subst hkK
  have hKN : K ≤ N := by
    have := ks_fit ⟨N, by omega⟩ ⟨(xs.getD 0 0).toNat, by omega⟩ (by show (xs.getD 0 0).toNat < 2 ^ N; omega)
    simp only [Int.toNat_of_nonneg y1] at this
    omega
  have hA := famB_asc hf
  have h1 := kk_all (n := N) (k := K) hN6 (by omega) (famP xs) fun z _ hz => by
    have := hev _ (of_decide_eq_true hz)
    unfold cntI at this
    omega
  rw [cN_fam hA fun z hz => hr z (hs z hz)] at h1
  obtain ⟨h2, h3⟩ := h1
  have h3 := h3 (by omega)
  refine ⟨leaB_mk (cnt_lea (n := (N : Nat)) (by omega) k1 (by omega) (decide_eq_true ⟨by omega, h2⟩)), Int.le_trans h3 (Int.ofNat_le.2 ?_)⟩
  have hfd := dn_fam hf
  have h4 := cN_fam (n := N) (asc_sortL (dnL xs)) fun z hz => hr z ((famB_all hfd).2.2 z hz)
  rw [← h4]
  refine cN_mono _ _ _ fun z hz h => ?_
  obtain ⟨p, hp, hb, h1⟩ := (shN_iff N _ z hz).1 h
  obtain ⟨d1, d2⟩ := ks_dec ⟨z, by omega⟩ ⟨p, by omega⟩ hb
  exact decide_eq_true (mem_dn.2 ⟨_, of_decide_eq_true h1, _, d1, d2⟩)
end Go.Proofs.YtpjapoaagbdlfaaDoor
