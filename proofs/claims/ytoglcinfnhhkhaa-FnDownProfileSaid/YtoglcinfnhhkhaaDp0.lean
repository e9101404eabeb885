/- Profiles of families of parts, plain mathematics. -/
import Derived.Test.YtoglcinfnhhkhaaKk2
import Derived.Test.YtoglcinfnhhkhaaProf
import Derived.Test.YtoglcinfnhhkhaaFams14
import Derived.Test.YtoglcinfnhhkhaaPa1
namespace Go.Proofs.Ytoglcinfnhhkhaa
open Go.ChangeShapes Go.WideShapes Go.ChangeAt Go.RowKit Go.Proofs

theorem dw_dec : ∀ z : Fin 64, ∀ p : Fin 6, z.val.testBit p.val = false → andI (z.val : Nat) ((z.val + 2 ^ p.val : Nat) : Int) = (z.val : Nat) ∧ cntTo ((z.val + 2 ^ p.val : Nat) : Int) 8 = cntTo (z.val : Nat) 8 + 1 := by decide +kernel
theorem prof_down {n : Int} {xs : List Int} (hf : famB n xs = true) (n6 : n ≤ 6) : profB n (profL (n.toNat + 1) (clL true xs (2 ^ n.toNat))) = true := by
  obtain ⟨n1, n2, hs⟩ := famB_all hf
  obtain ⟨N, hN⟩ : ∃ N : Nat, n = (N : Nat) := ⟨n.toNat, by omega⟩
  subst hN
  rw [Int.toNat_natCast]
  have hN6 : N ≤ 6 := by omega
  have h64 : 2 ^ N ≤ 64 := (show 2 ^ _ ≤ 2 ^ 6 from Nat.pow_le_pow_right (by decide) hN6)
  obtain ⟨C, hC⟩ : ∃ C, clL true xs (2 ^ N) = C := ⟨_, rfl⟩
  have hA : Asc C := hC ▸ asc_filter (asc_upI _) _
  have hm : ∀ z : Int, z ∈ C ↔ (0 ≤ z ∧ z < (2 ^ N : Nat)) ∧ ∃ y ∈ xs, cloP true z y = true := fun z => hC ▸ mem_cl
  rw [hC]
  -- the sets of j points
  have hP : ∀ j : Nat, ∃ P : Nat → Bool, P = famP (C.filter (fun x => cntI x == ((j : Nat) : Int))) := fun j => ⟨_, rfl⟩
  have hcnt : ∀ j : Nat, cntP C j = ((cN N (famP (C.filter (fun x => cntI x == ((j : Nat) : Int)))) : Nat) : Int) := fun j => by
    rw [cN_fam (asc_filter hA _) fun z hz => ((hm z).1 (List.mem_filter.1 hz).1).1]
    rfl
  have hin : ∀ (j z : Nat), famP (C.filter (fun x => cntI x == ((j : Nat) : Int))) z = true ↔ (z : Int) ∈ C ∧ cntTo (z : Nat) 8 = j := fun j z => by
    unfold famP
    rw [decide_eq_true_eq, List.mem_filter, beq_iff_eq]
    unfold cntI
    exact and_congr Iff.rfl (by omega)
  have hkk := fun (j : Nat) (hj : j ≤ 6) => kk_all (n := N) (k := j) hN6 hj (famP (C.filter (fun x => cntI x == ((j : Nat) : Int)))) fun z _ hz => ((hin j z).1 hz).2
  have hdn : ∀ j : Nat, cN N (shN N (famP (C.filter (fun x => cntI x == ((j + 1 : Nat) : Int))))) ≤ cN N (famP (C.filter (fun x => cntI x == ((j : Nat) : Int)))) := fun j =>
    cN_mono _ _ _ fun z hz h => by
      obtain ⟨p, hp, hb, h1⟩ := (shN_iff N _ z hz).1 h
      obtain ⟨h2, h3⟩ := (hin (j + 1) (z + 2 ^ p)).1 h1
      obtain ⟨d1, d2⟩ := dw_dec ⟨z, by omega⟩ ⟨p, by omega⟩ hb
      simp only at d1 d2
      refine (hin j z).2 ⟨(hm z).2 ⟨⟨by omega, by omega⟩, ?_⟩, by omega⟩
      obtain ⟨h4, y, hy, h5⟩ := (hm _).1 h2
      exact ⟨y, hy, part_trans (by omega) h4.1 (decide_eq_true d1) h5⟩
  have hget : ∀ j, j < N + 1 → (profL (N + 1) C).getD j 0 = cntP C j := fun j hj => by
    unfold profL
    rw [List.getD_eq_getElem?_getD, List.getElem?_map, List.getElem?_range hj]; rfl
  unfold profB cntsB
  rw [profL_len, ptsB_mk n1 n2, decide_eq_true (show ((N + 1 : Nat) : Int) = (N : Int) + 1 by omega)]
  have c1 : cntsTo (N : Nat) (profL (N + 1) C) (N + 1) = true := by
    unfold cntsTo
    rw [List.all_eq_true]
    intro j hj
    have hj := List.mem_range.1 hj
    rw [hget j hj, hcnt j]
    exact decide_eq_true ⟨by omega, (hkk j (by omega)).1⟩
  have c2 : roomTo (profL (N + 1) C) (N + 1) = true := by
    unfold roomTo
    rw [List.all_eq_true]
    intro j hj
    have hj := List.mem_range.1 hj
    cases j with
    | zero => rfl
    | succ j =>
      have h1 := (hkk (j + 1) (by omega)).2 (by omega)
      have h2 := hdn j
      unfold roomB
      rw [hget (j + 1) hj, Nat.add_sub_cancel, hget j (by omega), hcnt, hcnt, decide_eq_true (show _ ≤ _ by omega), Bool.or_true]
  rw [c1, c2]; rfl
end Go.Proofs.Ytoglcinfnhhkhaa
