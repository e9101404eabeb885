/- No set of a family in another one: the weights (LYM): plain mathematics. -/
import Derived.Test.YtilkcfikmlkeaaaCk1
import Derived.Test.YtilkcfikmlkeaaaFams13
namespace Go.Proofs.Ytilkcfikmlkeaaa
open Go.ChangeShapes Go.WideShapes Go.ChangeAt Go.RowKit Go.Proofs

/-- all points of s are points of G. -/
def PartP (s G : Int) : Prop := ∀ p : Nat, p < 8 → hasB s (p : Nat) = true → hasB G (p : Nat) = true
/-- the share of a set of k points of N. -/
def mW (N k : Nat) : Nat := 840 / chN N k
theorem mW_dec : ∀ N : Fin 8, ∀ k : Fin 9, k.val ≤ N.val → (N.val + 1) * mW (N.val + 1) k.val = (N.val + 1 - k.val) * mW N.val k.val := by decide +kernel
theorem mW_full : ∀ N : Fin 9, mW N.val N.val = 840 := by decide +kernel
def lyS (N : Nat) (xs : List Int) : Nat := (xs.map (fun x => mW N (cntTo x 8))).sum
theorem cnt_free {s G : Int} (h : PartP s G) : ∀ k, k ≤ 8 → cntTo s k + (List.range k).countP (fun p => hasB G (p : Nat) && !hasB s (p : Nat)) = cntTo G k
  | 0, _ => rfl
  | k + 1, hk => by
    have ih := cnt_free h k (by omega)
    rw [List.range_succ, List.countP_append]
    simp only [cntTo, List.countP_cons, List.countP_nil]
    rcases (by cases hasB s (k : Nat) <;> simp : hasB s (k : Nat) = true ∨ hasB s (k : Nat) = false) with hs | hs
    · rw [hs, h k (by omega) hs]; simp; omega
    · rw [hs]; cases hasB G (k : Nat) <;> simp <;> omega
theorem cnt_range (G : Int) : ∀ k, (List.range k).countP (fun p => hasB G (p : Nat)) = cntTo G k
  | 0 => rfl
  | k + 1 => by
    rw [List.range_succ, List.countP_append, cnt_range G k]
    simp only [cntTo, List.countP_cons, List.countP_nil]
    omega
theorem sum_add (a b : Nat → Nat) : ∀ l : List Nat, (l.map (fun p => a p + b p)).sum = (l.map a).sum + (l.map b).sum
  | [] => rfl
  | p :: l => by
    have ih := sum_add a b l
    simp only [List.map_cons, List.sum_cons]
    omega
theorem sum_if (c : Nat → Bool) (t : Nat) : ∀ l : List Nat, (l.map (fun p => if c p then t else 0)).sum = l.countP c * t
  | [] => by simp
  | p :: l => by
    have ih := sum_if c t l
    simp only [List.map_cons, List.sum_cons, List.countP_cons]
    rw [ih]
    cases c p <;> simp [Nat.add_mul] <;> omega
theorem sum_le {a b : Nat → Nat} : ∀ {l : List Nat}, (∀ p ∈ l, a p ≤ b p) → (l.map a).sum ≤ (l.map b).sum
  | [], _ => Nat.le_refl _
  | p :: l, h => by
    have ih := sum_le (l := l) (fun q hq => h q (List.mem_cons_of_mem _ hq))
    have := h p (List.mem_cons_self ..)
    simp only [List.map_cons, List.sum_cons]
    omega
/-- a sum over the sets and the points that they lack, both ways. -/
theorem dbl_sum (G : Int) (f : Int → Nat) : ∀ xs : List Int, (∀ x ∈ xs, PartP x G) →
    (xs.map (fun x => (cntTo G 8 - cntTo x 8) * f x)).sum = ((List.range 8).map (fun p => if hasB G (p : Nat) then ((xs.filter (fun x => !hasB x (p : Nat))).map f).sum else 0)).sum
  | [], _ => by
    have e : ((List.range 8).map (fun p => if hasB G (p : Nat) then ((([] : List Int).filter (fun x => !hasB x (p : Nat))).map f).sum else 0)) = (List.range 8).map (fun p => if (fun q : Nat => hasB G (q : Nat)) p then 0 else 0) := rfl
    rw [e, sum_if]
    simp
  | x :: xs, h => by
    have ih := dbl_sum G f xs (fun y hy => h y (List.mem_cons_of_mem _ hy))
    have e : ((List.range 8).map (fun p => if hasB G (p : Nat) then (((x :: xs).filter (fun x => !hasB x (p : Nat))).map f).sum else 0)) = (List.range 8).map (fun p => (fun q : Nat => if (fun r : Nat => hasB G (r : Nat) && !hasB x (r : Nat)) q then f x else 0) p + (fun q : Nat => if hasB G (q : Nat) then ((xs.filter (fun x => !hasB x (q : Nat))).map f).sum else 0) p) := by
      refine List.map_congr_left (fun p _ => ?_)
      rw [List.filter_cons]
      cases hg : hasB G (p : Nat) <;> cases hb : hasB x (p : Nat) <;> simp [hg, hb]
    rw [e, sum_add, sum_if, ← ih, List.map_cons, List.sum_cons]
    have := cnt_free (h x (List.mem_cons_self ..)) 8 (Nat.le_refl _)
    rw [show cntTo G 8 - cntTo x 8 = (List.range 8).countP (fun r : Nat => hasB G (r : Nat) && !hasB x (r : Nat)) by omega]
theorem bits_ext {x y : Int} (h1 : 0 ≤ x) (h2 : x < 256) (h3 : 0 ≤ y) (h4 : y < 256) (h : ∀ p : Nat, p < 8 → hasB x (p : Nat) = hasB y (p : Nat)) : x = y := by
  have : x.toNat = y.toNat := by
    refine Nat.eq_of_testBit_eq (fun p => ?_)
    by_cases hp : p < 8
    · have := h p hp
      unfold hasB at this
      simpa using this
    · have a : x.toNat < 2 ^ p := Nat.lt_of_lt_of_le (show x.toNat < 2 ^ 8 by omega) (Nat.pow_le_pow_right (by omega) (by omega))
      have b : y.toNat < 2 ^ p := Nat.lt_of_lt_of_le (show y.toNat < 2 ^ 8 by omega) (Nat.pow_le_pow_right (by omega) (by omega))
      rw [Nat.testBit_lt_two_pow a, Nat.testBit_lt_two_pow b]
  omega
theorem part_lt {x G : Int} (h1 : 0 ≤ x) (h2 : x < 256) (h3 : 0 ≤ G) (h4 : G < 256) (h : PartP x G) (hne : x ≠ G) : cntTo x 8 < cntTo G 8 := by
  refine Classical.byContradiction fun hc => hne ?_
  have e := cnt_free h 8 (Nat.le_refl _)
  have z : (List.range 8).countP (fun p => hasB G (p : Nat) && !hasB x (p : Nat)) = 0 := by omega
  rw [List.countP_eq_zero] at z
  refine bits_ext h1 h2 h3 h4 (fun p hp => ?_)
  have := z p (List.mem_range.2 hp)
  have k := h p hp
  cases ha : hasB x (p : Nat) <;> cases hb : hasB G (p : Nat) <;> simp_all
theorem less_bits : ∀ s : Fin 256, ∀ p : Fin 8, ∀ q : Fin 8, hasB (lessI (s.val : Nat) (p.val : Nat)) (q.val : Nat) = (hasB (s.val : Nat) (q.val : Nat) && decide (q.val ≠ p.val)) := by decide +kernel
theorem less_cnt : ∀ s : Fin 256, ∀ p : Fin 8, hasB (s.val : Nat) (p.val : Nat) = true → cntTo (lessI (s.val : Nat) (p.val : Nat)) 8 + 1 = cntTo (s.val : Nat) 8 := by decide +kernel
theorem lym : ∀ (N : Nat) (G : Int), N ≤ 8 → 0 ≤ G → G < 256 → cntTo G 8 = N → ∀ xs : List Int, xs.Nodup → (∀ x ∈ xs, 0 ≤ x ∧ x < 256 ∧ PartP x G) → (∀ x ∈ xs, ∀ y ∈ xs, PartP x y → x = y) → lyS N xs ≤ 840 := by
  intro N
  induction N with
  | zero =>
    intro G _ g1 g2 hG xs hn hx ha
    match xs, hn, hx, ha with
    | [], _, _, _ => simp [lyS]
    | [x], _, _, _ => 
      unfold lyS
      simp only [List.map_cons, List.map_nil, List.sum_cons, List.sum_nil]
      unfold mW
      have := Nat.div_le_self 840 (chN 0 (cntTo x 8))
      omega
    | x :: y :: r, hn, hx, ha =>
      exfalso
      have z : ∀ t ∈ (x :: y :: r), t = G := fun t ht => Classical.byContradiction fun hne => by
        obtain ⟨a, b, c⟩ := hx t ht
        have := part_lt a b g1 g2 c hne
        omega
      rw [List.nodup_cons] at hn
      have e1 := z x (by simp)
      have e2 := z y (by simp)
      exact hn.1 (by rw [e1, ← e2]; simp)
  | succ N ih =>
    intro G h8 g1 g2 hG xs hn hx ha
    by_cases hm : G ∈ xs
    · have z : ∀ t ∈ xs, t = G := fun t ht => ha t ht G hm (hx t ht).2.2
      match xs, hn, z with
      | [], _, _ => simp [lyS]
      | [x], _, z =>
        have e1 := z x (by simp)
        unfold lyS
        simp only [List.map_cons, List.map_nil, List.sum_cons, List.sum_nil]
        rw [e1, hG]
        have := mW_full ⟨N + 1, by omega⟩
        simp only at this
        omega
      | x :: y :: r, hn, z =>
        exfalso
        rw [List.nodup_cons] at hn
        have e1 := z x (by simp)
        have e2 := z y (by simp)
        exact hn.1 (by rw [e1, ← e2]; simp)
    · have hlt : ∀ x ∈ xs, cntTo x 8 ≤ N := fun x h => by
        obtain ⟨a, b, c⟩ := hx x h
        have := part_lt a b g1 g2 c (fun e => hm (e ▸ h))
        omega
      have e1 : (N + 1) * lyS (N + 1) xs = (xs.map (fun x => (cntTo G 8 - cntTo x 8) * mW N (cntTo x 8))).sum := by
        unfold lyS
        clear hn hx ha hm
        induction xs with
        | nil => rfl
        | cons x xs ihx =>
          have h1 := ihx (fun y hy => hlt y (List.mem_cons_of_mem _ hy))
          have h2 := mW_dec ⟨N, by omega⟩ ⟨cntTo x 8, by have := hlt x (List.mem_cons_self ..); omega⟩ (hlt x (List.mem_cons_self ..))
          simp only at h2
          simp only [List.map_cons, List.sum_cons]
          rw [Nat.mul_add, h1, h2, hG]
      have e2 := dbl_sum G (fun x => mW N (cntTo x 8)) xs (fun x h => (hx x h).2.2)
      have e3 : ((List.range 8).map (fun p => if hasB G (p : Nat) then ((xs.filter (fun x => !hasB x (p : Nat))).map (fun x => mW N (cntTo x 8))).sum else 0)).sum ≤ ((List.range 8).map (fun p => if (fun q : Nat => hasB G (q : Nat)) p then 840 else 0)).sum := by
        refine sum_le (fun p hp => ?_)
        have hp8 := List.mem_range.1 hp
        rcases (by cases hasB G (p : Nat) <;> simp : hasB G (p : Nat) = true ∨ hasB G (p : Nat) = false) with hg | hg
        · rw [if_pos hg]
          have hg' : (fun q : Nat => hasB G (q : Nat)) p = true := hg
          rw [if_pos hg']
          have eG : ((G.toNat : Nat) : Int) = G := Int.toNat_of_nonneg g1
          have hl := less_lt (s := G) (p := (p : Nat)) g1 g2 (by omega) (by omega)
          have hc := less_cnt ⟨G.toNat, by omega⟩ ⟨p, hp8⟩
          simp only [eG] at hc
          have hc := hc hg
          refine ih (lessI G (p : Nat)) (by omega) hl.1 hl.2 (by omega) _ (hn.filter _) (fun x h => ?_) (fun x h1 y h2 h3 => ha x (List.mem_filter.1 h1).1 y (List.mem_filter.1 h2).1 h3)
          obtain ⟨h1, h2⟩ := List.mem_filter.1 h
          obtain ⟨a, b, c⟩ := hx x h1
          refine ⟨a, b, fun q hq hxq => ?_⟩
          have lb := less_bits ⟨G.toNat, by omega⟩ ⟨p, hp8⟩ ⟨q, hq⟩
          simp only [eG] at lb
          rw [lb, c q hq hxq, Bool.true_and]
          refine decide_eq_true (fun e => ?_)
          subst e
          rw [hxq] at h2
          cases h2
        · rw [if_neg (by rw [hg]; simp), if_neg (by show ¬ hasB G (p : Nat) = true; rw [hg]; simp)]
          exact Nat.le_refl _
      rw [sum_if, cnt_range, hG] at e3
      have e4 : (N + 1) * lyS (N + 1) xs ≤ (N + 1) * 840 := by rw [e1, e2]; exact e3
      exact Nat.le_of_mul_le_mul_left e4 (by omega)
end Go.Proofs.Ytilkcfikmlkeaaa
