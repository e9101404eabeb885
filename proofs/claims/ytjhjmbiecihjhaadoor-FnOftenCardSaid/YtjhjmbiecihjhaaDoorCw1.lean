/- Greatest antichains of a list: plain mathematics. -/
import Derived.Test.YtjhjmbiecihjhaaDoorAs1
namespace Go.Proofs.YtjhjmbiecihjhaaDoor

/-- no member is a part of a later one. -/
def NP (c : List Int) : Prop := c.Pairwise (fun a b => partB a b = false)
/-- m is the greatest number of members of which none is a part of a later one. -/
def IsW (xs : List Int) (m : Nat) : Prop := (∀ c : List Int, c.Sublist xs → NP c → c.length ≤ m) ∧ ∃ c : List Int, c.Sublist xs ∧ NP c ∧ c.length = m
theorem IsW.unique {xs : List Int} {m k : Nat} (h1 : IsW xs m) (h2 : IsW xs k) : m = k := by
  obtain ⟨a1, c, b1, b2, b3⟩ := h1
  obtain ⟨a2, d, d1, d2, d3⟩ := h2
  have := a1 d d1 d2
  have := a2 c b1 b2
  omega
theorem isW_nil : IsW [] 0 := ⟨fun c h _ => by rw [List.sublist_nil.1 h]; exact Nat.le_refl _, [], List.Sublist.refl _, List.Pairwise.nil, rfl⟩
theorem isW_le {xs : List Int} {m : Nat} (h : IsW xs m) : m ≤ xs.length := by
  obtain ⟨_, c, c1, _, c3⟩ := h
  have := c1.length_le
  omega

/-- the members that the bits of m name. -/
def pick : Nat → List Int → List Int
  | _, [] => []
  | m, x :: r => if m % 2 = 1 then x :: pick (m / 2) r else pick (m / 2) r
theorem pick_sub : ∀ (xs : List Int) (m : Nat), (pick m xs).Sublist xs
  | [], _ => List.Sublist.refl _
  | x :: r, m => by
    unfold pick
    split
    · exact (pick_sub r (m / 2)).cons_cons _
    · exact (pick_sub r (m / 2)).cons _
theorem pick_any : ∀ (xs c : List Int), c.Sublist xs → ∃ m, m < 2 ^ xs.length ∧ pick m xs = c
  | [], c, h => ⟨0, by decide, by rw [List.sublist_nil.1 h]; rfl⟩
  | x :: r, c, h => by
    rw [List.length_cons, Nat.pow_succ]
    cases h with
    | cons _ h =>
      obtain ⟨m, h1, h2⟩ := pick_any r c h
      refine ⟨2 * m, by omega, ?_⟩
      unfold pick
      rw [if_neg (by omega), show 2 * m / 2 = m by omega]
      exact h2
    | cons_cons _ h =>
      rename_i c'
      obtain ⟨m, h1, h2⟩ := pick_any r c' h
      refine ⟨2 * m + 1, by omega, ?_⟩
      unfold pick
      rw [if_pos (by omega), show (2 * m + 1) / 2 = m by omega, h2]
theorem pick_nil (m : Nat) : pick m [] = [] := rfl
theorem pick_snoc (x : Int) : ∀ (ys : List Int) (m : Nat), pick m (ys ++ [x]) = pick m ys ++ (if m.testBit ys.length then [x] else [])
  | [], m => by
    show pick m [x] = [] ++ (if m.testBit 0 then [x] else [])
    unfold pick pick
    rw [Nat.testBit_zero]
    by_cases h : m % 2 = 1
    · rw [if_pos h, if_pos (by simp [h])]; rfl
    · rw [if_neg h, if_neg (by simp [h])]; rfl
  | y :: ys, m => by
    rw [List.cons_append, List.length_cons, Nat.testBit_succ]
    have h := pick_snoc x ys (m / 2)
    unfold pick
    split
    · rw [h]; rfl
    · exact h
theorem pick_len (m : Nat) (xs : List Int) : (pick m xs).length ≤ xs.length := (pick_sub xs m).length_le
/-- the best of the first m choices. -/
def bst (xs : List Int) (A : List Int → Bool) : Nat → Nat
  | 0 => 0
  | m + 1 => if bst xs A m < (pick m xs).length ∧ A (pick m xs) = true then (pick m xs).length else bst xs A m
theorem bst_ge (xs : List Int) (A : List Int → Bool) : ∀ m j, j < m → A (pick j xs) = true → (pick j xs).length ≤ bst xs A m
  | 0, j, h, _ => by omega
  | m + 1, j, h, ha => by
    by_cases e : j = m
    · subst e
      unfold bst
      split
      · exact Nat.le_refl _
      · rename_i hn
        have : ¬ bst xs A j < (pick j xs).length := fun hh => hn ⟨hh, ha⟩
        omega
    · have := bst_ge xs A m j (by omega) ha
      unfold bst
      split <;> omega
theorem bst_is (xs : List Int) (A : List Int → Bool) : ∀ m, bst xs A m = 0 ∨ ∃ j, j < m ∧ A (pick j xs) = true ∧ (pick j xs).length = bst xs A m
  | 0 => .inl rfl
  | m + 1 => by
    by_cases h : bst xs A m < (pick m xs).length ∧ A (pick m xs) = true
    · refine .inr ⟨m, by omega, h.2, ?_⟩
      rw [bst, if_pos h]
    · rw [bst, if_neg h]
      rcases bst_is xs A m with h0 | ⟨j, a, b, c⟩
      · exact .inl h0
      · exact .inr ⟨j, by omega, b, c⟩
theorem bst_len (xs : List Int) (A : List Int → Bool) (m : Nat) : bst xs A m ≤ xs.length := by
  rcases bst_is xs A m with h | ⟨j, _, _, h⟩
  · omega
  · have := pick_len j xs; omega
theorem bst_isW {xs : List Int} {A : List Int → Bool} (hA : ∀ c : List Int, c.Sublist xs → (A c = true ↔ NP c)) : IsW xs (bst xs A (2 ^ xs.length)) := by
  refine ⟨fun c hc hn => ?_, ?_⟩
  · obtain ⟨m, h1, rfl⟩ := pick_any xs c hc
    exact bst_ge xs A _ m h1 ((hA _ hc).2 hn)
  · rcases bst_is xs A (2 ^ xs.length) with h | ⟨j, _, b, c⟩
    · exact ⟨[], List.nil_sublist _, List.Pairwise.nil, by rw [h]; rfl⟩
    · exact ⟨pick j xs, pick_sub xs j, (hA _ (pick_sub xs j)).1 b, c⟩
/-- the greatest number itself. -/
def wI (xs : List Int) : Nat := bst xs (fun c => decide (c.Pairwise (fun a b => partB a b = false))) (2 ^ xs.length)
theorem wI_is (xs : List Int) : IsW xs (wI xs) := bst_isW (fun _ _ => decide_eq_true_iff)
theorem wI_eq {xs : List Int} {m : Nat} (h : IsW xs m) : m = wI xs := h.unique (wI_is xs)
theorem np_lt : ∀ {c : List Int}, NP c → Asc c → ∀ x ∈ c, ∀ z ∈ c, x < z → partB x z = false
  | [], _, _, _, h, _, _, _ => by simp at h
  | a :: c, hn, hA, x, hx, z, hz, h => by
    obtain ⟨n1, n2⟩ := List.pairwise_cons.1 hn
    obtain ⟨a1, a2⟩ := List.pairwise_cons.1 hA
    rcases List.mem_cons.1 hx with rfl | hx'
    · rcases List.mem_cons.1 hz with rfl | hz'
      · omega
      · exact n1 z hz'
    · rcases List.mem_cons.1 hz with rfl | hz'
      · have := a1 x hx'; omega
      · exact np_lt n2 a2 x hx' z hz' h
theorem anti_np {c : List Int} (hA : Asc c) (hz : ∀ z ∈ c, 0 ≤ z ∧ z < 256) : antiB c = true ↔ NP c := by
  unfold antiB
  rw [Bool.not_eq_true', List.any_eq_false]
  constructor
  · intro h
    refine List.pairwise_iff_forall_sublist.2 fun {a b} hs => ?_
    have ha : a ∈ c := hs.subset (by simp)
    have hb : b ∈ c := hs.subset (by simp)
    have hlt : a < b := by have := List.pairwise_iff_forall_sublist.1 hA hs; exact this
    have h1 := h a ha
    rw [Bool.not_eq_true, List.any_eq_false] at h1
    have h2 := h1 b hb
    rw [Bool.not_eq_true, end_yes (by omega)] at h2
    simpa using h2
  · intro hn x hx
    rw [Bool.not_eq_true, List.any_eq_false]
    intro z hzc
    rw [Bool.not_eq_true]
    by_cases e : z = x
    · rw [e]; exact end_same true x
    · rw [end_yes e]
      show partB x z = false
      rcases Int.lt_or_gt_of_ne e with hl | hl
      · rcases hp : partB x z with _ | _
        · rfl
        · have := part_le (hz x hx).1 (hz z hzc).1 hp; omega
      · exact np_lt hn hA x hx z hzc hl
end Go.Proofs.YtjhjmbiecihjhaaDoor
