/- The exact laws of AntichainTop, AntichainBottom, ClosedDown, ClosedUp, AntichainIn. -/
import Derived.Test.YtoglcinfnhhkhaaAc2
import Derived.Test.YtoglcinfnhhkhaaAs2
import Derived.Test.YtoglcinfnhhkhaaLawBool
import Derived.Test.YtoglcinfnhhkhaaFLaws2
namespace Go.Proofs.Ytoglcinfnhhkhaa
open Go.ChangeShapes Go.WideShapes Go.ChangeAt Go.RowKit Go.Proofs
theorem ifL_len7 {b : Bool} {ys : List Int} (h : b = true → ys.length ≤ 1000000) : (ifL b ys).length ≤ 1000000 := by
  unfold ifL
  cases b with
  | true => simpa using h rfl
  | false => simp
theorem ifL_eq7 {b : Bool} {ys zs : List Int} (h : b = true → ys = zs) : ifL b ys = ifL b zs := by
  cases b with
  | true => rw [h rfl]
  | false => rfl
theorem top_eq {xs : List Int} (hA : Asc xs) : sortL (xs.filter (fun s => !xs.any (partO s))) = endL true xs xs := sortL_asc (asc_filter hA _)
theorem bot_eq {xs : List Int} (hA : Asc xs) : sortL (xs.filter (fun s => !xs.any (fun x => partO x s))) = endL false xs xs := sortL_asc (asc_filter hA _)
theorem down_eq (N : Nat) (xs : List Int) : sortL ((sortL (upI N)).filter (fun s => xs.any (partB s))) = clL true xs N := by
  rw [sortL_asc (asc_upI N)]; exact sortL_asc (asc_filter (asc_upI N) _)
theorem up_eq (N : Nat) (xs : List Int) : sortL ((sortL (upI N)).filter (fun s => xs.any (fun x => partB x s))) = clL false xs N := by
  rw [sortL_asc (asc_upI N)]; exact sortL_asc (asc_filter (asc_upI N) _)
theorem end_len {n : Int} {xs : List Int} (top : Bool) (h : famB n xs = true) : (endL top xs xs).length ≤ 1000000 := by
  have h1 := famB_len h
  have h2 := List.length_filter_le (fun x => !xs.any (endB top x)) xs
  unfold endL; omega
theorem cl_len {n : Int} {xs : List Int} (down : Bool) (h : famB n xs = true) : (clL down xs (2 ^ n.toNat)).length ≤ 1000000 := by
  obtain ⟨n1, n2, _⟩ := famB_all h
  have := (pow_nat n1 n2).1
  have := clL_len down xs (2 ^ n.toNat)
  omega
theorem filter_all_iff {p : Int → Bool} : ∀ (xs : List Int), ((xs.filter p).length = xs.length) ↔ xs.any (fun x => !p x) = false
  | [] => by simp
  | x :: xs => by
    have ih := filter_all_iff (p := p) xs
    have hle := List.length_filter_le p xs
    rw [List.any_cons]
    rcases (by cases p x <;> simp : p x = true ∨ p x = false) with h | h
    · rw [List.filter_cons_of_pos h, List.length_cons, List.length_cons, h, Bool.not_true, Bool.false_or, ← ih]; omega
    · rw [List.filter_cons_of_neg (by rw [h]; simp), List.length_cons, h, Bool.not_false, Bool.true_or]
      constructor
      · intro e; omega
      · intro e; simp at e
theorem anti_eq {xs : List Int} : decide ((endL true xs xs).length = xs.length) = antiB xs := by
  unfold endL antiB
  have h := filter_all_iff (p := fun x => !xs.any (endB true x)) xs
  have e : (xs.any fun x => !!xs.any (endB true x)) = xs.any (fun x => xs.any (endB true x)) := by congr; funext x; simp
  rw [e] at h
  cases hb : xs.any (fun x => xs.any (endB true x)) with
  | true => rw [hb] at h; exact decide_eq_false (fun hh => by have := h.1 hh; cases this)
  | false => exact decide_eq_true (h.2 hb)
theorem fld0s (x y : Value) (w : World) : (Instr.field 35 (.agg #[x, y]) 0).run Try.prog w = .ok x w := by kernel_rfl
end Go.Proofs.Ytoglcinfnhhkhaa
