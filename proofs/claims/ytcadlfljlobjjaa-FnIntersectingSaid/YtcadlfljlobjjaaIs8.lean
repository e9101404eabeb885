/- IntersectGrow: the program's call, the model, the law. -/
import Derived.Test.YtcadlfljlobjjaaIs7
import Derived.Test.YtcadlfljlobjjaaFLaws
namespace Go.Proofs.Ytcadlfljlobjjaa
open Go.ChangeShapes Go.WideShapes Go.ChangeAt Go.RowKit Go.Proofs

theorem crs_fam {n : Int} {xs zs : List Int} (h : crsB n xs zs = true) : famB n xs = true ∧ famB n zs = true ∧ crossB xs zs = true := by
  unfold crsB at h
  simp only [Bool.and_eq_true] at h
  exact ⟨h.1.1, h.1.2, h.2⟩
theorem gr_len2 {n : Int} {xs : List Int} (hf : famB n xs = true) : (grL xs (2 ^ n.toNat)).length ≤ 256 := by
  obtain ⟨n1, n2, _⟩ := famB_all hf
  exact gr_len (famB_asc hf) (famB_lt hf) (pow_nat n1 n2).1
theorem gr_lt2 {n : Int} {xs : List Int} (hf : famB n xs = true) : ∀ z ∈ grL xs (2 ^ n.toNat), 0 ≤ z ∧ z < 256 := by
  obtain ⟨n1, n2, _⟩ := famB_all hf
  exact gr_lt (famB_lt hf) (pow_nat n1 n2).1
/-- the model's list: each set from 1 on that meets all. -/
def gmL (xs : List Int) : Nat → List Int
  | 0 => xs
  | k + 1 => if (gmL xs k).all (fun z => meetB z ((k + 1 : Nat) : Int)) then gmL xs k ++ [((k + 1 : Nat) : Int)] else gmL xs k
theorem gm_len (xs : List Int) : ∀ k, (gmL xs k).length ≤ xs.length + k
  | 0 => by simp [gmL]
  | k + 1 => by
    have ih := gm_len xs k
    unfold gmL
    split
    · simp; omega
    · omega
theorem gm_mem {xs : List Int} {z : Int} : ∀ k, z ∈ gmL xs k → z ∈ xs ∨ (1 ≤ z ∧ z ≤ k)
  | 0, h => .inl h
  | k + 1, h => by
    unfold gmL at h
    split at h
    · rcases List.mem_append.1 h with h | h
      · rcases gm_mem k h with h | h
        · exact .inl h
        · exact .inr (by omega)
      · simp at h; exact .inr (by omega)
    · rcases gm_mem k h with h | h
      · exact .inl h
      · exact .inr (by omega)
theorem all_sort (xs : List Int) (p : Int → Bool) : (sortL xs).all p = xs.all p := by
  rw [Bool.eq_iff_iff, List.all_eq_true, List.all_eq_true]
  constructor
  · intro h z hz; exact h z (mem_sortL.2 hz)
  · intro h z hz; exact h z (mem_sortL.1 hz)
theorem gm_gr {xs : List Int} (hA : Asc xs) : ∀ k, sortL (gmL xs k) = grL xs (k + 1)
  | 0 => by
    show sortL xs = grS xs 0
    rw [sortL_asc hA, grS_no0]
  | k + 1 => by
    have ih := gm_gr hA k
    have hst : gmL xs (k + 1) = if (gmL xs k).all (fun z => meetB z ((k + 1 : Nat) : Int)) then gmL xs k ++ [((k + 1 : Nat) : Int)] else gmL xs k := rfl
    show _ = grS (grL xs (k + 1)) ((k + 1 : Nat) : Int)
    rw [← ih]
    have e : (sortL (gmL xs k)).all (meetB ((k + 1 : Nat) : Int)) = (gmL xs k).all (fun z => meetB z ((k + 1 : Nat) : Int)) := by
      rw [all_sort]
      congr
      funext z
      exact meet_comm _ _
    rcases (by cases (gmL xs k).all (fun z => meetB z ((k + 1 : Nat) : Int)) <;> simp : (gmL xs k).all (fun z => meetB z ((k + 1 : Nat) : Int)) = true ∨ (gmL xs k).all (fun z => meetB z ((k + 1 : Nat) : Int)) = false) with h | h
    · rw [grS_yes (by omega) (e.trans h), ← sortL_snoc, hst, if_pos h]
    · rw [grS_no (e.trans h), hst, h, if_neg (by simp)]
theorem cross_one (xs : List Int) (s : Int) : crossB xs [s] = xs.all (fun z => meetB z s) := by
  unfold crossB
  congr
  funext z
  simp
theorem one_rowI (w : World) (x : Int) : Row (w.alloc (.cells #[.int .i64 x] 3)) (w.alloc (.cells #[.int .i64 x] 3)).heap.size (.slice (some ⟨w.heap.size, 0, none⟩) 1 1) [x] := by
  refine ⟨_, 1, rfl, fun _ => ⟨w.heap.size, 0, rfl, by simp, fun i hi => ?_⟩⟩
  simp at hi
  subst hi
  exact cell_new _ _ _
end Go.Proofs.Ytcadlfljlobjjaa
