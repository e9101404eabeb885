/- Plain mathematics of families: ascending lists of numbers: no program in it. -/
import Derived.Test.YtojfamjgghikoaaGreatDoorBase
namespace Go.Proofs.YtojfamjgghikoaaGreatDoor
open Go.RowKit

/-- the list ascends. -/
def Asc (xs : List Int) : Prop := xs.Pairwise (· < ·)
/-- x stands in the list. -/
def memB (x : Int) (xs : List Int) : Bool := decide (x ∈ xs)
theorem memB_yes {x : Int} {xs : List Int} (h : memB x xs = true) : x ∈ xs := of_decide_eq_true h
theorem memB_no {x : Int} {xs : List Int} (h : memB x xs = false) : x ∉ xs := of_decide_eq_false h
theorem memB_mk {x : Int} {xs : List Int} (h : x ∈ xs) : memB x xs = true := decide_eq_true h
theorem memB_mk0 {x : Int} {xs : List Int} (h : x ∉ xs) : memB x xs = false := decide_eq_false h
/-- how many stand at the head that are less than x. -/
def plN (x : Int) : List Int → Nat
  | [] => 0
  | y :: ys => if y < x then plN x ys + 1 else 0
/-- x put in its place. -/
def insI (x : Int) (xs : List Int) : List Int := if memB x xs then xs else xs.take (plN x xs) ++ x :: xs.drop (plN x xs)
theorem plN_le (x : Int) (xs : List Int) : plN x xs ≤ xs.length := by
  induction xs with
  | nil => exact Nat.le_refl _
  | cons y ys ih => unfold plN; split <;> simp <;> omega
theorem take_lt (x : Int) (xs : List Int) : ∀ a ∈ xs.take (plN x xs), a < x := by
  induction xs with
  | nil => intro a h; simp at h
  | cons y ys ih =>
    unfold plN
    split
    · intro a h
      simp only [List.take_succ_cons, List.mem_cons] at h
      rcases h with rfl | h
      · assumption
      · exact ih a h
    · intro a h; simp at h
theorem drop_ge {x : Int} {xs : List Int} (hA : Asc xs) : ∀ a ∈ xs.drop (plN x xs), x ≤ a := by
  induction xs with
  | nil => intro a h; simp at h
  | cons y ys ih =>
    have hA' := List.pairwise_cons.1 hA
    unfold plN
    split
    · intro a h
      simp only [List.drop_succ_cons] at h
      exact ih hA'.2 a h
    · intro a h
      simp only [List.drop_zero, List.mem_cons] at h
      rcases h with rfl | h
      · omega
      · have := hA'.1 a h; omega
theorem mem_insI {x z : Int} {xs : List Int} : z ∈ insI x xs ↔ z = x ∨ z ∈ xs := by
  unfold insI
  split
  · rename_i h
    have := memB_yes h
    constructor
    · exact .inr
    · rintro (rfl | h)
      · exact this
      · exact h
  · have : z ∈ xs ↔ z ∈ xs.take (plN x xs) ∨ z ∈ xs.drop (plN x xs) := by
      rw [← List.mem_append, List.take_append_drop]
    rw [List.mem_append, List.mem_cons, this]
    constructor <;> (intro h; rcases h with h | h | h <;> simp [h])
theorem asc_insI {x : Int} {xs : List Int} (hA : Asc xs) : Asc (insI x xs) := by
  unfold insI
  split
  · exact hA
  · rename_i h
    have hn := memB_no (by simpa using h)
    unfold Asc at *
    rw [List.pairwise_append]
    refine ⟨hA.sublist (List.take_sublist _ _), List.pairwise_cons.2 ⟨fun a ha => ?_, hA.sublist (List.drop_sublist _ _)⟩, fun a ha b hb => ?_⟩
    · have := drop_ge hA a ha
      have hne : a ≠ x := fun e => hn (e ▸ List.mem_of_mem_drop ha)
      omega
    · have h1 := take_lt x xs a ha
      rcases List.mem_cons.1 hb with rfl | hb
      · exact h1
      · have := drop_ge hA b hb; omega
theorem ins_len {x : Int} {xs : List Int} (h : memB x xs = false) : (insI x xs).length = xs.length + 1 := by
  unfold insI; rw [if_neg (by simp [h])]
  have := plN_le x xs
  simp [List.length_append, List.length_take, List.length_drop]; omega
theorem ins_yes {x : Int} {xs : List Int} (h : memB x xs = true) : insI x xs = xs := by unfold insI; rw [if_pos h]
theorem ins_no {x : Int} {xs : List Int} (h : memB x xs = false) : insI x xs = xs.take (plN x xs) ++ x :: xs.drop (plN x xs) := by unfold insI; rw [if_neg (by simp [h])]
theorem asc_ext {xs ys : List Int} (hx : Asc xs) (hy : Asc ys) (h : ∀ z, z ∈ xs ↔ z ∈ ys) : xs = ys := by
  induction xs generalizing ys with
  | nil =>
    cases ys with
    | nil => rfl
    | cons y ys => exact absurd ((h y).2 (List.mem_cons_self ..)) (by simp)
  | cons x xs ih =>
    cases ys with
    | nil => exact absurd ((h x).1 (List.mem_cons_self ..)) (by simp)
    | cons y ys =>
      have hx' := List.pairwise_cons.1 hx
      have hy' := List.pairwise_cons.1 hy
      have e : x = y := by
        rcases List.mem_cons.1 ((h x).1 (List.mem_cons_self ..)) with e | h1
        · exact e
        · rcases List.mem_cons.1 ((h y).2 (List.mem_cons_self ..)) with e | h2
          · exact e.symm
          · have := hx'.1 y h2; have := hy'.1 x h1; omega
      subst e
      refine congrArg _ (ih hx'.2 hy'.2 fun z => ?_)
      have := h z
      simp only [List.mem_cons] at this
      constructor
      · intro hz
        rcases this.1 (.inr hz) with rfl | h
        · exact absurd (hx'.1 _ hz) (by omega)
        · exact h
      · intro hz
        rcases this.2 (.inr hz) with rfl | h
        · exact absurd (hy'.1 _ hz) (by omega)
        · exact h
theorem asc_len {xs : List Int} (hA : Asc xs) : ∀ (lo : Int) (k : Nat), (∀ z ∈ xs, lo ≤ z ∧ z < lo + k) → xs.length ≤ k := by
  induction xs with
  | nil => intro lo k _; simp
  | cons x xs ih =>
    intro lo k h
    have hA' := List.pairwise_cons.1 hA
    have hx := h x (List.mem_cons_self ..)
    have := ih hA'.2 (x + 1) (lo + k - (x + 1)).toNat (fun z hz => by
      have h1 := hA'.1 z hz
      have h2 := h z (List.mem_cons_of_mem _ hz)
      omega)
    simp only [List.length_cons]
    omega
theorem asc_len256 {xs : List Int} (hA : Asc xs) (h : ∀ z ∈ xs, 0 ≤ z ∧ z < 256) : xs.length ≤ 256 := asc_len hA 0 256 (fun z hz => by have := h z hz; omega)
theorem getD_mem {xs : List Int} {i : Nat} (h : i < xs.length) : xs.getD i 0 ∈ xs := by
  rw [List.getD_eq_getElem?_getD, List.getElem?_eq_getElem h]; exact List.getElem_mem h
theorem asc_get {xs : List Int} (hA : Asc xs) {i j : Nat} (hij : i < j) (hj : j < xs.length) : xs.getD i 0 < xs.getD j 0 := by
  rw [List.getD_eq_getElem?_getD, List.getD_eq_getElem?_getD, List.getElem?_eq_getElem hj, List.getElem?_eq_getElem (by omega)]
  exact List.pairwise_iff_getElem.1 hA i j (by omega) hj hij
theorem plN_lo (x : Int) (xs : List Int) : ∀ j, j < plN x xs → xs.getD j 0 < x := by
  induction xs with
  | nil => intro j h; simp [plN] at h
  | cons y ys ih =>
    intro j h
    unfold plN at h
    split at h
    · cases j with
      | zero => simpa
      | succ j => simpa using ih j (by omega)
    · omega
theorem plN_at {x : Int} {xs : List Int} (h : plN x xs < xs.length) : x ≤ xs.getD (plN x xs) 0 := by
  induction xs with
  | nil => simp at h
  | cons y ys ih =>
    unfold plN at h ⊢
    split
    · rename_i hy
      rw [if_pos hy] at h
      simpa using ih (by simpa using h)
    · simp; omega
theorem plN_hi {x : Int} {xs : List Int} (hA : Asc xs) : ∀ j, plN x xs ≤ j → j < xs.length → x ≤ xs.getD j 0 := by
  intro j h1 h2
  have h0 := plN_at (x := x) (xs := xs) (by omega)
  by_cases e : j = plN x xs
  · subst e; exact h0
  · have := asc_get hA (i := plN x xs) (j := j) (by omega) h2; omega
theorem plN_eq {x : Int} {xs : List Int} {i : Nat} (hi : i ≤ xs.length) (h1 : ∀ j, j < i → xs.getD j 0 < x) (h2 : ∀ j, i ≤ j → j < xs.length → x ≤ xs.getD j 0) : i = plN x xs := by
  have hl := plN_le x xs
  rcases Nat.lt_trichotomy i (plN x xs) with h | h | h
  · have := plN_lo x xs i h; have := h2 i (Nat.le_refl _) (by omega); omega
  · exact h
  · have := plN_at (x := x) (xs := xs) (by omega); have := h1 _ h; omega
theorem mem_at {x : Int} {xs : List Int} (hA : Asc xs) : memB x xs = (decide (plN x xs < xs.length) && decide (xs.getD (plN x xs) 0 = x)) := by
  by_cases h : plN x xs < xs.length
  · by_cases e : xs.getD (plN x xs) 0 = x
    · rw [memB_mk (by have := getD_mem h; rwa [e] at this), decide_eq_true h, decide_eq_true e]; rfl
    · have hn : x ∉ xs := by
        intro hm
        obtain ⟨j, hj, ej⟩ := List.getElem_of_mem hm
        have ej' : xs.getD j 0 = x := by rw [List.getD_eq_getElem?_getD, List.getElem?_eq_getElem hj]; exact ej
        rcases Nat.lt_trichotomy j (plN x xs) with h3 | h3 | h3
        · have := plN_lo x xs j h3; omega
        · subst h3; exact e ej'
        · have h4 := plN_at (x := x) (xs := xs) h; have := asc_get hA h3 hj; omega
      rw [memB_mk0 hn, decide_eq_false e, Bool.and_false]
  · have hn : x ∉ xs := by
      intro hm
      obtain ⟨j, hj, ej⟩ := List.getElem_of_mem hm
      have ej' : xs.getD j 0 = x := by rw [List.getD_eq_getElem?_getD, List.getElem?_eq_getElem hj]; exact ej
      have := plN_lo x xs j (by omega); omega
    rw [memB_mk0 hn, decide_eq_false h, Bool.false_and]

/-- the numbers of a list in ascending order, each once. -/
def sortL (xs : List Int) : List Int := xs.foldl (fun a x => insI x a) []
theorem fold_mem (xs : List Int) : ∀ (a : List Int) (z : Int), z ∈ xs.foldl (fun a x => insI x a) a ↔ z ∈ a ∨ z ∈ xs := by
  induction xs with
  | nil => intro a z; simp
  | cons x xs ih =>
    intro a z
    rw [List.foldl_cons, ih, mem_insI, List.mem_cons]
    constructor
    · rintro ((h | h) | h) <;> simp [h]
    · rintro (h | h | h) <;> simp [h]
theorem mem_sortL {xs : List Int} {z : Int} : z ∈ sortL xs ↔ z ∈ xs := by unfold sortL; rw [fold_mem]; simp
theorem fold_asc (xs : List Int) : ∀ (a : List Int), Asc a → Asc (xs.foldl (fun a x => insI x a) a) := by
  induction xs with
  | nil => intro a h; exact h
  | cons x xs ih => intro a h; exact ih _ (asc_insI h)
theorem asc_sortL (xs : List Int) : Asc (sortL xs) := fold_asc xs [] List.Pairwise.nil
theorem sortL_snoc (xs : List Int) (x : Int) : sortL (xs ++ [x]) = insI x (sortL xs) := by unfold sortL; rw [List.foldl_append]; rfl
theorem sortL_eq {xs ys : List Int} (hy : Asc ys) (h : ∀ z, z ∈ xs ↔ z ∈ ys) : sortL xs = ys := asc_ext (asc_sortL xs) hy (fun z => by rw [mem_sortL]; exact h z)
theorem sortL_asc {xs : List Int} (h : Asc xs) : sortL xs = xs := sortL_eq h (fun _ => Iff.rfl)
theorem take_snoc {xs : List Int} {k : Nat} (h : k < xs.length) : xs.take (k + 1) = xs.take k ++ [xs.getD k 0] := by
  rw [List.take_succ_eq_append_getElem h, List.getD_eq_getElem?_getD, List.getElem?_eq_getElem h]; rfl
theorem sortL_take {xs : List Int} {k : Nat} (h : k < xs.length) : sortL (xs.take (k + 1)) = insI (xs.getD k 0) (sortL (xs.take k)) := by rw [take_snoc h, sortL_snoc]

/-- all numbers of a list are sets of n points. -/
def allB (n : Int) (xs : List Int) : Bool := xs.all (setB n)
theorem allB_yes {n : Int} {xs : List Int} (h : allB n xs = true) : ∀ z ∈ xs, setB n z = true := List.all_eq_true.1 h
/-- all numbers of a list are sets, and n is in its range. -/
def colB (n : Int) (xs : List Int) : Bool := ptsB n && allB n xs
/-- the list is a family. -/
def famB (n : Int) (xs : List Int) : Bool := colB n xs && decide (sortL xs = xs)
theorem famB_asc {n : Int} {xs : List Int} (h : famB n xs = true) : Asc xs := by
  unfold famB at h
  simp only [Bool.and_eq_true, decide_eq_true_eq] at h
  rw [← h.2]; exact asc_sortL xs
theorem famB_all {n : Int} {xs : List Int} (h : famB n xs = true) : 1 ≤ n ∧ n ≤ 8 ∧ ∀ z ∈ xs, setB n z = true := by
  unfold famB colB at h
  simp only [Bool.and_eq_true, decide_eq_true_eq] at h
  have := ptsB_yes h.1.1
  exact ⟨this.1, this.2, allB_yes h.1.2⟩
theorem famB_lt {n : Int} {xs : List Int} (h : famB n xs = true) : ∀ z ∈ xs, 0 ≤ z ∧ z < 256 := fun z hz => setB_lt ((famB_all h).2.2 z hz)
theorem famB_len {n : Int} {xs : List Int} (h : famB n xs = true) : xs.length ≤ 256 := asc_len256 (famB_asc h) (famB_lt h)
theorem famB_mk {n : Int} {xs : List Int} (h1 : ptsB n = true) (h2 : ∀ z ∈ xs, setB n z = true) (h3 : Asc xs) : famB n xs = true := by
  unfold famB colB allB
  simp only [Bool.and_eq_true, decide_eq_true_eq]
  exact ⟨⟨h1, List.all_eq_true.2 h2⟩, sortL_asc h3⟩
theorem famB_mk0 {n : Int} {xs : List Int} (h : ¬ (ptsB n = true ∧ (∀ z ∈ xs, setB n z = true) ∧ Asc xs)) : famB n xs = false := by
  cases hf : famB n xs with
  | false => rfl
  | true =>
    have a := famB_all hf
    exact absurd ⟨ptsB_mk a.1 a.2.1, a.2.2, famB_asc hf⟩ h
theorem colB_lt {n : Int} {xs : List Int} (h : colB n xs = true) : 1 ≤ n ∧ n ≤ 8 ∧ ∀ z ∈ xs, setB n z = true := by
  unfold colB at h
  simp only [Bool.and_eq_true] at h
  have := ptsB_yes h.1
  exact ⟨this.1, this.2, allB_yes h.2⟩
theorem colB_len {n : Int} {xs : List Int} (h : colB n xs = true) : (sortL xs).length ≤ 256 := asc_len256 (asc_sortL xs) (fun z hz => setB_lt ((colB_lt h).2.2 z (mem_sortL.1 hz)))
theorem asc_filter {xs : List Int} (h : Asc xs) (p : Int → Bool) : Asc (xs.filter p) := h.sublist List.filter_sublist

/-- all numbers below m, in order. -/
def upI (m : Nat) : List Int := (List.range m).map fun (k : Nat) => (k : Int)
theorem mem_upI {m : Nat} {z : Int} : z ∈ upI m ↔ 0 ≤ z ∧ z < m := by
  unfold upI
  rw [List.mem_map]
  constructor
  · rintro ⟨k, hk, rfl⟩; have := List.mem_range.1 hk; omega
  · rintro ⟨h1, h2⟩; exact ⟨z.toNat, List.mem_range.2 (by omega), by omega⟩
theorem upI_succ (m : Nat) : upI (m + 1) = upI m ++ [(m : Int)] := by unfold upI; rw [List.range_succ, List.map_append]; rfl
theorem asc_snoc {xs : List Int} {z : Int} (h : Asc xs) (hz : ∀ a ∈ xs, a < z) : Asc (xs ++ [z]) := by
  unfold Asc
  rw [List.pairwise_append]
  exact ⟨h, List.pairwise_singleton .., fun a ha b hb => by rw [List.mem_singleton.1 hb]; exact hz a ha⟩
theorem asc_upI (m : Nat) : Asc (upI m) := by
  induction m with
  | zero => unfold Asc; exact List.Pairwise.nil
  | succ m ih => rw [upI_succ]; exact asc_snoc ih (fun a ha => (mem_upI.1 ha).2)
theorem upI_len (m : Nat) : (upI m).length = m := by simp [upI]
theorem filter_snoc (xs : List Int) (x : Int) (p : Int → Bool) : (xs ++ [x]).filter p = xs.filter p ++ (if p x then [x] else []) := by
  rw [List.filter_append]; congr 1; cases h : p x <;> simp [h]
end Go.Proofs.YtojfamjgghikoaaGreatDoor
