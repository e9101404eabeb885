/- First sets: the program, the model, the laws of levels and first sets. -/
import Derived.Test.YtoglcinfnhhkhaaSh1
import Derived.Test.YtoglcinfnhhkhaaAllSp
namespace Go.Proofs.Ytoglcinfnhhkhaa
open Go.ChangeShapes Go.WideShapes Go.ChangeAt Go.RowKit Go.Proofs

theorem levL_mk (n k : Int) : levL n k = mkL (fun j => cntI (j : Nat) == k) (2 ^ n.toNat) := (level_eq _ _).symm
theorem lev_dec : ∀ n : Fin 9, ∀ k : Fin 9, k.val ≤ n.val → (((mkL (fun j => cntI (j : Nat) == (k.val : Nat)) (2 ^ n.val)).length : Nat) : Int) = chI n.val k.val := by decide +kernel
theorem levL_len {n k : Int} (n1 : 1 ≤ n) (n2 : n ≤ 8) (k1 : 0 ≤ k) (k2 : k ≤ n) : (((levL n k).length : Nat) : Int) = chI n k := by
  have e1 : ((n.toNat : Nat) : Int) = n := Int.toNat_of_nonneg (by omega)
  have e2 : ((k.toNat : Nat) : Int) = k := Int.toNat_of_nonneg (by omega)
  have h := lev_dec ⟨n.toNat, by omega⟩ ⟨k.toNat, by omega⟩ (by show k.toNat ≤ n.toNat; omega)
  simp only [e1, e2] at h
  rw [levL_mk]; exact h

/-- there are first sets. -/
def fstB (n k m : Int) : Bool := szB n k && cntB n k m
def fstL (n k m : Int) : List Int := (levL n k).take m.toNat
theorem fstB_cases (n k m : Int) : (szB n k = true ∧ cntB n k m = true ∧ fstB n k m = true) ∨ (szB n k = true ∧ cntB n k m = false ∧ fstB n k m = false) ∨ (szB n k = false ∧ fstB n k m = false) := by
  unfold fstB
  rcases szB_cases n k with h | h
  · rcases cntB_cases n k m with g | g
    · left; exact ⟨h, g, by rw [h, g]; rfl⟩
    · right; left; exact ⟨h, g, by rw [h, g]; rfl⟩
  · right; right; exact ⟨h, by rw [h]; rfl⟩
theorem fstL_mem {n k m : Int} (n1 : 1 ≤ n) (n2 : n ≤ 8) {z : Int} (h : z ∈ fstL n k m) : setB n z = true := levL_mem n1 n2 (List.mem_of_mem_take h)
theorem fstL_len {n k m : Int} (h : fstB n k m = true) : (((fstL n k m).length : Nat) : Int) = m := by
  unfold fstB at h
  rw [Bool.and_eq_true] at h
  obtain ⟨n1, n2, k1, k2⟩ := szB_yes h.1
  obtain ⟨m1, m2⟩ := cntB_yes h.2
  have := levL_len n1 n2 k1 k2
  unfold fstL
  rw [List.length_take]
  omega
theorem fstL_asc (n k m : Int) : Asc (fstL n k m) := (levL_asc n k).sublist (List.take_sublist _ _)

theorem fst_small (n k m : Int) : (ifL (fstB n k m) (fstL n k m)).length ≤ 1000000 := by
  rcases (by cases fstB n k m <;> simp : fstB n k m = true ∨ fstB n k m = false) with hb | hb
  · rw [hb]
    unfold fstB at hb
    rw [Bool.and_eq_true] at hb
    obtain ⟨n1, n2, _⟩ := szB_yes hb.1
    have := levL_len256 (k := k) n1 n2
    show (fstL n k m).length ≤ _
    unfold fstL
    rw [List.length_take]
    omega
  · rw [hb]; simp [ifL]
end Go.Proofs.Ytoglcinfnhhkhaa
