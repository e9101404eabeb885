/- FnSetOf: the order of points does not matter. -/
import Derived.Test.YtofiibmpindajaaDraw
import Derived.Test.YtofiibmpindajaaLawsF
import Derived.Test.YtofiibmpindajaaSizeL
namespace Go.Proofs.Ytofiibmpindajaa
open Go.ChangeShapes Go.WideShapes Go.ChangeAt Go.RowKit

/-- what a draw of a number and a list of numbers gives. -/
def DrawnList (N : Nat) (w : World) (e : Ending) (w' : World) : Prop := ∃ n u xs, e = .returned (.tuple #[.int .i64 n, u]) ∧ drawnPts n ∧ xs.length ≤ N ∧ Own w' w.heap.size w'.heap.size u xs ∧ Below w.heap.size w w'
/-- the points of a list, put together. -/
def orN : List Int → Nat
  | [] => 0
  | x :: xs => orN xs ||| 2 ^ x.toNat
theorem orN_append (a b : List Int) : orN (a ++ b) = orN a ||| orN b := by
  induction a with
  | nil => simp [orN]
  | cons x xs ih => simp only [List.cons_append, orN, ih]; rw [Nat.or_assoc, Nat.or_comm (orN b), ← Nat.or_assoc]
theorem orN_reverse (a : List Int) : orN a.reverse = orN a := by
  induction a with
  | nil => rfl
  | cons x xs ih => rw [List.reverse_cons, orN_append, ih]; simp [orN]
theorem take_snoc' (xs : List Int) (k : Nat) (h : k < xs.length) : xs.take (k + 1) = xs.take k ++ [xs.getD k 0] := by
  rw [List.take_succ_eq_append_getElem h]; simp [List.getD_eq_getElem?_getD, h]
theorem sofTo_eq (n : Int) (xs : List Int) : ∀ k, k ≤ xs.length → sofTo n xs k = if (xs.take k).all (ptB n) then some ((orN (xs.take k) : Nat) : Int) else none := by
  intro k
  induction k with
  | zero => intro _; simp [sofTo, orN]
  | succ k ih =>
    intro hk
    unfold sofTo
    rw [ih (by omega), take_snoc' xs k (by omega), List.all_append]
    by_cases h : (xs.take k).all (ptB n) = true
    · rw [if_pos h]
      simp only [h, Bool.true_and]
      by_cases h2 : ptB n (xs.getD k 0) = true
      · rw [if_pos h2, if_pos (by simp only [List.all_cons, List.all_nil, h2]; rfl), orN_append]
        simp [withI, orN]
      · rw [if_neg h2, if_neg (by simp only [List.all_cons, List.all_nil, Bool.and_true]; exact h2)]
    · rw [if_neg h, if_neg (by simp only [Bool.and_eq_true]; exact fun x => h x.1)]
theorem sof_reverse (n : Int) (xs : List Int) : sofV n xs.reverse = sofV n xs ∧ sofB n xs.reverse = sofB n xs := by
  have e : sofTo n xs.reverse xs.reverse.length = sofTo n xs xs.length := by
    rw [sofTo_eq n _ _ (Nat.le_refl _), sofTo_eq n _ _ (Nat.le_refl _), List.take_length, List.take_length, List.all_reverse, orN_reverse]
  unfold sofV sofB
  rw [e]
  exact ⟨rfl, rfl⟩
theorem cnt_with : ∀ s : Fin 256, ∀ p : Fin 8, cntI (withI s.val p.val) ≤ cntI s.val + 1 := by decide +kernel
theorem sof_cnt {n : Int} (hn : n ≤ 8) (xs : List Int) : ∀ (k : Nat) (s : Int), sofTo n xs k = some s → cntI s ≤ k := by
  intro k
  induction k with
  | zero => intro s h; simp [sofTo] at h; subst h; decide +kernel
  | succ k ih =>
    intro s h
    unfold sofTo at h
    cases hr : sofTo n xs k with
    | none => rw [hr] at h; cases h
    | some y =>
      rw [hr] at h
      have a := ih y hr
      have b := sofTo_lt hn xs k y hr
      simp only at h
      split at h
      · rename_i hp
        have c := ptB_yes hp
        injection h with h
        subst h
        have := all256_8 (P := fun s p => cntI (withI s p) ≤ cntI s + 1) cnt_with b.1 b.2 c.1 (by omega : xs.getD k 0 ≤ 7)
        omega
      · cases h
theorem sof_fits {n : Int} {xs : List Int} (h : sofB n xs = true) : 0 ≤ sofV n xs ∧ sofV n xs < 256 ∧ cntI (sofV n xs) ≤ xs.length := by
  unfold sofB at h
  simp only [Bool.and_eq_true] at h
  obtain ⟨s, hs⟩ := Option.isSome_iff_exists.1 h.2
  have hn := ptsB_yes h.1
  have e : sofV n xs = s := by unfold sofV; rw [if_pos h.1, hs]; rfl
  rw [e]
  have a := sofTo_lt hn.2 xs _ s hs
  have b := sof_cnt hn.2 xs _ s hs
  exact ⟨a.1, a.2, b⟩
theorem drop_rev (xs : List Int) (k : Nat) (h : k < xs.length) : (xs.drop k).reverse = (xs.drop (k + 1)).reverse ++ [xs.getD k 0] := by
  rw [List.drop_eq_getElem_cons h, List.reverse_cons]
  simp [List.getD_eq_getElem?_getD, h]
end Go.Proofs.Ytofiibmpindajaa
