/- Longest chains of a list: plain mathematics. -/
import Derived.Test.YtjhjmbiecihjhaaDoorAs1
namespace Go.Proofs.YtjhjmbiecihjhaaDoor

/-- the greatest number of members of a list of which each is above the one ahead of it, and the first above s. -/
def upM (R : Int → Int → Bool) : Int → List Int → Nat
  | _, [] => 0
  | s, x :: xs => max (upM R s xs) (if R s x then 1 + upM R x xs else 0)
theorem upM_len (R : Int → Int → Bool) : ∀ (xs : List Int) (s : Int), upM R s xs ≤ xs.length
  | [], _ => Nat.le_refl _
  | x :: xs, s => by
    have h1 := upM_len R xs s
    have h2 := upM_len R xs x
    unfold upM
    rw [List.length_cons]
    split <;> omega
theorem upM_ge (R : Int → Int → Bool) : ∀ (xs : List Int) (s : Int) (c : List Int), c.Sublist xs → c.Pairwise (fun a b => R a b = true) → (∀ y ∈ c, R s y = true) → c.length ≤ upM R s xs
  | [], _, c, h, _, _ => by rw [List.sublist_nil.1 h]; exact Nat.le_refl _
  | x :: xs, s, c, h, hp, hs => by
    unfold upM
    cases h with
    | cons _ h =>
      have := upM_ge R xs s c h hp hs
      omega
    | cons_cons _ h =>
      rename_i c'
      have := upM_ge R xs x c' h (List.pairwise_cons.1 hp).2 (List.pairwise_cons.1 hp).1
      rw [if_pos (hs x (List.mem_cons_self ..)), List.length_cons]
      omega
theorem upM_is (R : Int → Int → Bool) (G : Int → Prop) (ht : ∀ a b c, G a → G b → G c → R a b = true → R b c = true → R a c = true) :
    ∀ (xs : List Int) (s : Int), G s → (∀ x ∈ xs, G x) → ∃ c : List Int, c.Sublist xs ∧ c.Pairwise (fun a b => R a b = true) ∧ (∀ y ∈ c, R s y = true) ∧ c.length = upM R s xs
  | [], _, _, _ => ⟨[], List.Sublist.refl _, List.Pairwise.nil, by simp, rfl⟩
  | x :: xs, s, gs, gx => by
    have g0 := gx x (List.mem_cons_self ..)
    have g1 := fun y h => gx y (List.mem_cons_of_mem _ h)
    unfold upM
    obtain ⟨c, c1, c2, c3, c4⟩ := upM_is R G ht xs s gs g1
    by_cases hx : R s x = true
    · rw [if_pos hx]
      obtain ⟨d, d1, d2, d3, d4⟩ := upM_is R G ht xs x g0 g1
      by_cases hm : 1 + upM R x xs ≤ upM R s xs
      · exact ⟨c, c1.trans (List.sublist_cons_self ..), c2, c3, by omega⟩
      · refine ⟨x :: d, d1.cons_cons _, List.pairwise_cons.2 ⟨d3, d2⟩, ?_, by rw [List.length_cons]; omega⟩
        intro y hy
        rcases List.mem_cons.1 hy with rfl | hy
        · exact hx
        · exact ht _ _ _ gs g0 (g1 y (d1.subset hy)) hx (d3 y hy)
    · rw [if_neg hx]
      exact ⟨c, c1.trans (List.sublist_cons_self ..), c2, c3, by omega⟩
/-- from above and from below: the same number. -/
theorem up_down (R : Int → Int → Bool) (G : Int → Prop) (ht : ∀ a b c, G a → G b → G c → R a b = true → R b c = true → R a c = true) (xs : List Int) (s t : Int) (gs : G s) (gt : G t) (gx : ∀ x ∈ xs, G x)
    (hs : ∀ x ∈ xs, R s x = true) (hh : ∀ x ∈ xs, R x t = true) : upM R s xs = upM (fun a b => R b a) t xs.reverse := by
  obtain ⟨c, c1, c2, c3, c4⟩ := upM_is R G ht xs s gs gx
  obtain ⟨d, d1, d2, d3, d4⟩ := upM_is (fun a b => R b a) G (fun a b c ga gb gc h1 h2 => ht c b a gc gb ga h2 h1) xs.reverse t gt (fun x hx => gx x (List.mem_reverse.1 hx))
  have e1 : d.reverse.length ≤ upM R s xs := by
    refine upM_ge R xs s _ ?_ ?_ ?_
    · have := d1.reverse; rwa [List.reverse_reverse] at this
    · rw [List.pairwise_reverse]; exact d2
    · exact fun y hy => hs y (List.mem_reverse.1 (d1.subset (List.mem_reverse.1 hy)))
  have e2 : c.reverse.length ≤ upM (fun a b => R b a) t xs.reverse := by
    refine upM_ge (fun a b => R b a) xs.reverse t _ c1.reverse ?_ ?_
    · rw [List.pairwise_reverse]; exact c2
    · exact fun y hy => hh y (c1.subset (List.mem_reverse.1 hy))
  rw [List.length_reverse] at e1 e2
  omega
theorem part_zero (y : Int) : partB 0 y = true := decide_eq_true (by unfold andI; simp)
theorem part_top_nat : ∀ x : Fin 256, partB (x.val : Nat) 255 = true := by decide +kernel
theorem part_top {x : Int} (h1 : 0 ≤ x) (h2 : x < 256) : partB x 255 = true := by
  have := part_top_nat ⟨x.toNat, by omega⟩
  simpa only [Int.toNat_of_nonneg h1] using this
/-- the longest chain of a family. -/
def longI (xs : List Int) : Nat := upM partB 0 xs
/-- the longest chain of some sets that ends below t. -/
def dnM (t : Int) (xs : List Int) : Nat := upM (fun a b => partB b a) t xs
theorem long_down {xs : List Int} (hz : ∀ z ∈ xs, 0 ≤ z ∧ z < 256) : longI xs = dnM 255 xs.reverse :=
  up_down partB (fun z => 0 ≤ z) (fun _ _ _ ga gb _ h1 h2 => part_trans ga gb h1 h2) xs 0 255 (by decide) (by decide) (fun x hx => (hz x hx).1) (fun x _ => part_zero x) (fun x hx => part_top (hz x hx).1 (hz x hx).2)
theorem dn_cons (t x : Int) (xs : List Int) : dnM t (x :: xs) = max (dnM t xs) (if partB x t then 1 + dnM x xs else 0) := rfl
theorem dn_len (t : Int) (xs : List Int) : dnM t xs ≤ xs.length := upM_len _ xs t
end Go.Proofs.YtjhjmbiecihjhaaDoor
