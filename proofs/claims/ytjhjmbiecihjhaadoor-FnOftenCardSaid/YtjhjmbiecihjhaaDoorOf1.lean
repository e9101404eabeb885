/- Union closed families of at most six points have a point in half of their sets. Plain mathematics. -/
import Derived.Test.YtjhjmbiecihjhaaDoorDegB
import Derived.Test.YtjhjmbiecihjhaaDoorAllKn
namespace Go.Proofs.YtjhjmbiecihjhaaDoor
open Go.ChangeShapes Go.WideShapes Go.ChangeAt Go.RowKit Go.Proofs

theorem inj_len {φ : Int → Int} : ∀ (l1 l2 : List Int), l1.Nodup → (∀ x ∈ l1, φ x ∈ l2) → (∀ x ∈ l1, ∀ y ∈ l1, φ x = φ y → x = y) → l1.length ≤ l2.length
  | [], _, _, _, _ => by simp
  | x :: l1, l2, hn, hm, hi => by
    obtain ⟨hx, hn2⟩ := List.nodup_cons.1 hn
    have h1 := hm x (by simp)
    have ih := inj_len (φ := φ) l1 (l2.erase (φ x)) hn2 (fun y hy => (List.mem_erase_of_ne (fun e => hx (by rw [← hi y (by simp [hy]) x (by simp) e]; exact hy))).2 (hm y (by simp [hy]))) (fun a ha b hb => hi a (by simp [ha]) b (by simp [hb]))
    rw [List.length_erase_of_mem h1] at ih
    have := List.length_pos_of_mem h1
    rw [List.length_cons]
    omega
theorem bits_eq {a b : Int} (ha : 0 ≤ a) (hb : 0 ≤ b) (h : ∀ i, a.toNat.testBit i = b.toNat.testBit i) : a = b := by
  have := Nat.eq_of_testBit_eq h
  omega
theorem or_bits (x y : Int) (i : Nat) : (orI x y).toNat.testBit i = (x.toNat.testBit i || y.toNat.testBit i) := by
  unfold orI; rw [Int.toNat_natCast, Nat.testBit_or]
theorem len_split (P Q : Int → Bool) : ∀ xs : List Int, xs.length + (xs.filter fun x => P x && Q x).length = (xs.filter fun x => !P x && !Q x).length + (xs.filter P).length + (xs.filter Q).length
  | [] => rfl
  | x :: xs => by
    have ih := len_split P Q xs
    simp only [List.filter_cons, List.length_cons]
    cases P x <;> cases Q x <;> simp <;> omega
theorem pair_half {xs : List Int} (hnd : xs.Nodup) (h0 : ∀ z ∈ xs, 0 ≤ z) (hc : ClosedU orI xs) {A : Int} (hA : A ∈ xs) {p q : Nat} (hp : A.toNat.testBit p = true) (hq : A.toNat.testBit q = true)
    (ho : ∀ i, A.toNat.testBit i = true → i = p ∨ i = q) : (xs.length : Int) ≤ dgP xs p + dgP xs q := by
  have h1 := len_split (fun x => hasB x ((p : Nat) : Int)) (fun x => hasB x ((q : Nat) : Int)) xs
  have h2 : (xs.filter fun x => !hasB x ((p : Nat) : Int) && !hasB x ((q : Nat) : Int)).length ≤ (xs.filter fun x => hasB x ((p : Nat) : Int) && hasB x ((q : Nat) : Int)).length := by
    refine inj_len (φ := fun x => orI x A) _ _ (List.Nodup.sublist List.filter_sublist hnd) (fun x hx => ?_) (fun x hx y hy e => ?_)
    · obtain ⟨x1, _⟩ := List.mem_filter.1 hx
      refine List.mem_filter.2 ⟨hc x x1 A hA, ?_⟩
      unfold hasB
      simp only [Int.toNat_natCast, or_bits, hp, hq, Bool.or_true, Bool.and_self]
    · obtain ⟨x1, x2⟩ := List.mem_filter.1 hx
      obtain ⟨y1, y2⟩ := List.mem_filter.1 hy
      unfold hasB at x2 y2
      simp only [Int.toNat_natCast, Bool.and_eq_true, Bool.not_eq_true'] at x2 y2
      refine bits_eq (h0 x x1) (h0 y y1) (fun i => ?_)
      have h3 := congrArg (fun z : Int => z.toNat.testBit i) e
      simp only [or_bits] at h3
      cases ha : A.toNat.testBit i with
      | false => rw [ha, Bool.or_false, Bool.or_false] at h3; exact h3
      | true =>
        rcases ho i ha with rfl | rfl
        · rw [x2.1, y2.1]
        · rw [x2.2, y2.2]
  unfold dgP
  omega
theorem two_dec : ∀ A : Fin 64, A.val ≠ 0 → cntTo (A.val : Nat) 6 ≤ 2 → ∃ p : Fin 6, ∃ q : Fin 6, A.val.testBit p.val = true ∧ A.val.testBit q.val = true ∧ ∀ i : Fin 6, A.val.testBit i.val = true → i = p ∨ i = q := by decide +kernel
/-- the sum of f below a place. -/
def sumTo (f : Nat → Int) : Nat → Int
  | 0 => 0
  | k + 1 => sumTo f k + f k
theorem sumTo_add (f g : Nat → Int) : ∀ k, sumTo (fun j => f j + g j) k = sumTo f k + sumTo g k
  | 0 => rfl
  | k + 1 => by simp only [sumTo]; rw [sumTo_add f g k]; omega
theorem sumTo_zero : ∀ k, sumTo (fun _ => 0) k = 0
  | 0 => rfl
  | k + 1 => by simp only [sumTo]; rw [sumTo_zero k]; rfl
theorem sumTo_le {f g : Nat → Int} : ∀ k, (∀ j, j < k → f j ≤ g j) → sumTo f k ≤ sumTo g k
  | 0, _ => Int.le_refl _
  | k + 1, h => by
    simp only [sumTo]
    have := sumTo_le (f := f) (g := g) k (fun j hj => h j (by omega))
    have := h k (by omega)
    omega
theorem sumTo_mul (f : Nat → Int) (c : Int) : ∀ k, sumTo (fun j => f j * c) k = sumTo f k * c
  | 0 => by simp [sumTo]
  | k + 1 => by simp only [sumTo]; rw [sumTo_mul f c k, Int.add_mul]
theorem sumTo_cnt (x : Int) : ∀ k, sumTo (hb1 x) k = (cntTo x k : Nat)
  | 0 => rfl
  | k + 1 => by
    simp only [sumTo, cntTo]
    rw [sumTo_cnt x k]
    unfold hb1
    split <;> simp
theorem dgP_cons (x : Int) (xs : List Int) (j : Nat) : dgP (x :: xs) j = hb1 x j + dgP xs j := by
  unfold dgP hb1
  rw [List.filter_cons]
  split <;> simp <;> omega
/-- the sets' sizes, added. -/
def sizesL : List Int → Int
  | [] => 0
  | x :: xs => (cntTo x 6 : Nat) + sizesL xs
theorem dg_sum : ∀ xs : List Int, sumTo (dgP xs) 6 = sizesL xs
  | [] => by
    have : dgP [] = fun _ => 0 := rfl
    rw [this, sumTo_zero]; rfl
  | x :: xs => by
    have : dgP (x :: xs) = fun j => hb1 x j + dgP xs j := funext (dgP_cons x xs)
    rw [this, sumTo_add, sumTo_cnt, dg_sum xs]; rfl
theorem sizes_ge {u : Int} (hu : u ≠ 0) (hu3 : 3 ≤ cntTo u 6) : ∀ xs : List Int, xs.Nodup → (∀ x ∈ xs, x = 0 ∨ 3 ≤ cntTo x 6) →
    3 * (xs.length : Int) - (if 0 ∈ xs then 3 else 0) + (if u ∈ xs then (cntTo u 6 : Int) - 3 else 0) ≤ sizesL xs ∧ (if (0 : Int) ∈ xs then 1 else 0) + (if u ∈ xs then 1 else 0) ≤ (xs.length : Int)
  | [], _, _ => by simp [sizesL]
  | x :: xs, hn, h => by
    obtain ⟨hx, hn2⟩ := List.nodup_cons.1 hn
    obtain ⟨i1, i2⟩ := sizes_ge hu hu3 xs hn2 (fun y hy => h y (by simp [hy]))
    have h3 := h x (by simp)
    simp only [sizesL, List.length_cons, List.mem_cons]
    by_cases e : x = 0
    · subst e
      have hz : (0 : Int) ∉ xs := hx
      simp only [hz, hu, if_false, or_false, false_or, if_true] at i1 i2 ⊢
      have : (0 : Int) ≤ (cntTo 0 6 : Nat) := by omega
      constructor <;> omega
    · have h4 : 3 ≤ cntTo x 6 := h3.resolve_left e
      have e2 : ¬ (0 : Int) = x := fun h => e h.symm
      by_cases e3 : u = x
      · subst e3
        simp only [hx, e2, if_false, false_or, or_false, if_true] at i1 i2 ⊢
        constructor <;> omega
      · simp only [e2, e3, false_or] at i1 i2 ⊢
        constructor <;> omega
theorem fold_or_in {xs : List Int} (hc : ClosedU orI xs) : ∀ (l : List Int) (a : Int), (∀ x ∈ l, x ∈ xs) → a ∈ xs → l.foldl orI a ∈ xs
  | [], _, _, h => h
  | x :: l, a, hl, h => fold_or_in hc l _ (fun y hy => hl y (by simp [hy])) (hc a h x (hl x (by simp)))
theorem fold_or_bits (i : Nat) : ∀ (l : List Int) (a : Int), (l.foldl orI a).toNat.testBit i = (a.toNat.testBit i || l.any fun x => x.toNat.testBit i)
  | [], a => by simp
  | x :: l, a => by rw [List.foldl_cons, fold_or_bits i l, or_bits, List.any_cons, Bool.or_assoc]
theorem dg_none {xs : List Int} {j : Nat} (h : ∀ x ∈ xs, x.toNat.testBit j = false) : dgP xs j = 0 := by
  unfold dgP
  rw [List.filter_eq_nil_iff.2 (fun x hx => by unfold hasB; rw [Int.toNat_natCast, h x hx]; simp)]
  rfl
theorem often_half {n : Int} {xs : List Int} (n6 : n ≤ 6) (hf : famB n xs = true) (hc : ClosedU orI xs) (hne : ∃ z ∈ xs, z ≠ 0) : ∃ j : Nat, j < n.toNat ∧ (xs.length : Int) ≤ 2 * dgP xs j := by
  obtain ⟨n1, n2, hset⟩ := famB_all hf
  have hnd : xs.Nodup := List.Pairwise.imp (fun {a b} hab => by omega) (famB_asc hf)
  obtain ⟨z, hz, hz0⟩ := hne
  have hlen := List.length_pos_of_mem hz
  have h0 : ∀ z ∈ xs, 0 ≤ z := fun z hz => (setB_lt (hset z hz)).1
  have hM : ((2 ^ n.toNat : Nat) : Int) = 2 ^ n.toNat := by simp
  have hlt : ∀ x ∈ xs, x.toNat < 2 ^ n.toNat := fun x hx => by
    obtain ⟨_, _, h3, h4⟩ := setB_yes (hset x hx)
    omega
  have h64 : (2 : Nat) ^ n.toNat ≤ 64 := by
    have : 2 ^ n.toNat ≤ 2 ^ 6 := Nat.pow_le_pow_right (by omega) (by omega)
    omega
  apply Classical.byContradiction
  intro hno
  have hall : ∀ j : Nat, 2 * dgP xs j ≤ (xs.length : Int) - 1 := fun j => by
    by_cases hj : j < n.toNat
    · have : ¬ (xs.length : Int) ≤ 2 * dgP xs j := fun h => hno ⟨j, hj, h⟩
      omega
    · rw [dg_none (fun x hx => Nat.testBit_lt_two_pow (Nat.lt_of_lt_of_le (hlt x hx) (Nat.pow_le_pow_right (by omega) (by omega))))]
      omega
  have big : ∀ x ∈ xs, x = 0 ∨ 3 ≤ cntTo x 6 := fun x hx => by
    by_cases e : x = 0
    · exact .inl e
    · refine .inr (Nat.lt_of_not_le (fun h2 => ?_))
      obtain ⟨A, rfl⟩ := Int.eq_ofNat_of_zero_le (h0 x hx)
      have hA : A < 64 := by have := hlt _ hx; rw [Int.toNat_natCast] at this; omega
      obtain ⟨p, q, h3, h4, h5⟩ := two_dec ⟨A, hA⟩ (fun e2 => e (by show ((A : Nat) : Int) = 0; have : A = 0 := e2; omega)) h2
      have h6 := pair_half hnd h0 hc hx (p := p.val) (q := q.val) (by rw [Int.toNat_natCast]; exact h3) (by rw [Int.toNat_natCast]; exact h4) (fun i hi => by
        rw [Int.toNat_natCast] at hi
        by_cases hi6 : i < 6
        · rcases h5 ⟨i, hi6⟩ hi with h | h
          · exact .inl (congrArg Fin.val h)
          · exact .inr (congrArg Fin.val h)
        · rw [Nat.testBit_lt_two_pow (Nat.lt_of_lt_of_le hA (show 2 ^ 6 ≤ 2 ^ i from Nat.pow_le_pow_right (by omega) (by omega)))] at hi
          cases hi)
      have := hall p.val
      have := hall q.val
      omega
  obtain ⟨u, hue⟩ : ∃ u, xs.foldl orI z = u := ⟨_, rfl⟩
  have hu : u ∈ xs := by rw [← hue]; exact fold_or_in hc xs z (fun _ h => h) hz
  have hub : ∀ i, u.toNat.testBit i = (z.toNat.testBit i || xs.any fun x => x.toNat.testBit i) := fun i => by rw [← hue]; exact fold_or_bits i xs z
  have hu0 : u ≠ 0 := fun e => hz0 (by
    refine bits_eq (h0 z hz) (Int.le_refl _) (fun i => ?_)
    have h3 := hub i
    rw [e] at h3
    cases hzi : z.toNat.testBit i with
    | false => simp
    | true => rw [hzi, Bool.true_or] at h3; simp at h3)
  have hu3 : 3 ≤ cntTo u 6 := (big u hu).resolve_left hu0
  have hdu : ∀ j : Nat, 2 * dgP xs j ≤ hb1 u j * ((xs.length : Int) - 1) := fun j => by
    unfold hb1 hasB
    rw [Int.toNat_natCast]
    cases hb : u.toNat.testBit j with
    | true => rw [if_pos rfl, Int.one_mul]; exact hall j
    | false =>
      rw [hub j, Bool.or_eq_false_iff] at hb
      rw [dg_none (fun x hx => by
        have h3 := List.any_eq_false.1 hb.2 x hx
        simpa using h3)]
      simp
  have hsum : sumTo (fun j => dgP xs j * 2) 6 ≤ sumTo (fun j => hb1 u j * ((xs.length : Int) - 1)) 6 := sumTo_le 6 (fun j _ => by have := hdu j; omega)
  rw [sumTo_mul, sumTo_mul, dg_sum, sumTo_cnt] at hsum
  obtain ⟨g1, g2⟩ := sizes_ge hu0 hu3 xs hnd big
  rw [if_pos hu] at g1 g2
  have hc6 : cntTo u 6 ≤ 6 := by
    simp only [cntTo]
    repeat' split
    all_goals omega
  obtain ⟨c, hcc⟩ : ∃ c, cntTo u 6 = c := ⟨_, rfl⟩
  rw [hcc] at hsum g1 hu3 hc6
  obtain ⟨m, hm⟩ : ∃ m : Nat, xs.length = m := ⟨_, rfl⟩
  rw [hm] at hsum g1 g2 hlen
  by_cases hz9 : (0 : Int) ∈ xs
  · rw [if_pos hz9] at g1 g2
    rcases (by omega : c = 3 ∨ c = 4 ∨ c = 5 ∨ c = 6) with rfl | rfl | rfl | rfl <;> omega
  · rw [if_neg hz9] at g1 g2
    rcases (by omega : c = 3 ∨ c = 4 ∨ c = 5 ∨ c = 6) with rfl | rfl | rfl | rfl <;> omega
end Go.Proofs.YtjhjmbiecihjhaaDoor
