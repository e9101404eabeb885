/- Kernels of sets by a family, from the greatest set down. Plain mathematics. -/
import Derived.Test.YtjhjmbiecihjhaaDoorAllKn
import Derived.Test.YtjhjmbiecihjhaaDoorIter
import Derived.Test.YtjhjmbiecihjhaaDoorAllSp
namespace Go.Proofs.YtjhjmbiecihjhaaDoor
open Go.ChangeShapes Go.WideShapes Go.ChangeAt Go.RowKit Go.Proofs

/-- the common part of all sets of a family of which s is a part. -/
def kerI (n : Int) (xs : List Int) (s : Int) : Int := xs.foldl (fun a x => if partB s x then andI a x else a) (2 ^ n.toNat - 1)
/-- the common part of the kernels of the sets with one of these points more. -/
def accK (n : Int) (K : Nat → Int) (s : Int) (ps : List Int) : Int := ps.foldl (fun a p => andI a (K (withI s p).toNat)) (2 ^ n.toNat - 1)
/-- what one more set writes. -/
def stepK (n : Int) (xs : List Int) (K : Nat → Int) (s : Int) : Nat → Int := fun j => if (j : Int) = s then (if memB s xs then s else accK n K s (ptsI (difI (2 ^ n.toNat - 1) s))) else K j
/-- what is kept behind these sets. -/
def keptK (n : Int) (xs pre : List Int) : Nat → Int := pre.foldl (stepK n xs) (fun _ => 0)
theorem kept_snoc (n : Int) (xs pre : List Int) (s : Int) : keptK n xs (pre ++ [s]) = stepK n xs (keptK n xs pre) s := by unfold keptK; rw [List.foldl_append]; rfl
theorem acc_snoc (n : Int) (K : Nat → Int) (s : Int) (ps : List Int) (p : Int) : accK n K s (ps ++ [p]) = andI (accK n K s ps) (K (withI s p).toNat) := by unfold accK; rw [List.foldl_append]; rfl
theorem and_le (a b : Int) (h : 0 ≤ a) : 0 ≤ andI a b ∧ andI a b ≤ a := by
  have h2 : a.toNat &&& b.toNat ≤ a.toNat := Nat.and_le_left
  unfold andI; omega
theorem all_pow {n : Int} (n1 : 1 ≤ n) (n2 : n ≤ 8) : (0 : Int) ≤ 2 ^ n.toNat - 1 ∧ (2 : Int) ^ n.toNat - 1 < 256 := by
  obtain ⟨p1, p2, _⟩ := pow_nat n1 n2
  have h : ((2 ^ n.toNat : Nat) : Int) = 2 ^ n.toNat := by simp
  omega
theorem acc_bd {n : Int} (n1 : 1 ≤ n) (n2 : n ≤ 8) (K : Nat → Int) (s : Int) (ps : List Int) : 0 ≤ accK n K s ps ∧ accK n K s ps < 256 := by
  have key : ∀ (ps : List Int) (a : Int), 0 ≤ a ∧ a < 256 → 0 ≤ ps.foldl (fun a p => andI a (K (withI s p).toNat)) a ∧ ps.foldl (fun a p => andI a (K (withI s p).toNat)) a < 256 := by
    intro ps
    induction ps with
    | nil => intro a h; exact h
    | cons p ps ih => intro a h; rw [List.foldl_cons]; exact ih _ (by have := and_le a (K (withI s p).toNat) h.1; omega)
  exact key ps _ (all_pow n1 n2)
theorem step_bd {n : Int} (n1 : 1 ≤ n) (n2 : n ≤ 8) {xs : List Int} {K : Nat → Int} {s : Int} (h1 : 0 ≤ s) (h2 : s < 256) (hK : ∀ j, 0 ≤ K j ∧ K j < 256) : ∀ j, 0 ≤ stepK n xs K s j ∧ stepK n xs K s j < 256 := fun j => by
  unfold stepK
  split
  · split
    · exact ⟨h1, h2⟩
    · exact acc_bd n1 n2 K s _
  · exact hK j
theorem kept_bd {n : Int} (n1 : 1 ≤ n) (n2 : n ≤ 8) (xs : List Int) : ∀ (pre : List Int), (∀ s ∈ pre, 0 ≤ s ∧ s < 256) → ∀ j, 0 ≤ keptK n xs pre j ∧ keptK n xs pre j < 256 := by
  have key : ∀ (pre : List Int) (K : Nat → Int), (∀ s ∈ pre, 0 ≤ s ∧ s < 256) → (∀ j, 0 ≤ K j ∧ K j < 256) → ∀ j, 0 ≤ pre.foldl (stepK n xs) K j ∧ pre.foldl (stepK n xs) K j < 256 := by
    intro pre
    induction pre with
    | nil => intro K _ h; exact h
    | cons s pre ih => intro K h hK; rw [List.foldl_cons]; exact ih _ (fun z hz => h z (by simp [hz])) (step_bd n1 n2 (h s (by simp)).1 (h s (by simp)).2 hK)
  exact fun pre h => key pre _ h (fun _ => ⟨by omega, by omega⟩)
/-! Bit by bit. -/
theorem part_bits {s x : Int} (hs : 0 ≤ s) : partB s x = true ↔ ∀ i, s.toNat.testBit i = true → x.toNat.testBit i = true := by
  unfold partB
  rw [decide_eq_true_iff]
  unfold andI
  constructor
  · intro h i hi
    have h2 : s.toNat &&& x.toNat = s.toNat := by omega
    have h3 := congrArg (fun z => z.testBit i) h2
    simp only [Nat.testBit_and, hi, Bool.true_and] at h3
    exact h3
  · intro h
    have h2 : s.toNat &&& x.toNat = s.toNat := Nat.eq_of_testBit_eq fun i => by
      rw [Nat.testBit_and]
      cases e : s.toNat.testBit i with
      | false => rfl
      | true => rw [h i e]; rfl
    omega
theorem fold_bits {β : Type} (c : β → Bool) (f : β → Int) (i : Nat) : ∀ (l : List β) (a : Int), (l.foldl (fun a x => if c x then andI a (f x) else a) a).toNat.testBit i = (a.toNat.testBit i && l.all (fun x => !c x || (f x).toNat.testBit i))
  | [], a => by simp
  | x :: l, a => by
    rw [List.foldl_cons, fold_bits c f i l, List.all_cons]
    cases hc : c x with
    | false => simp
    | true =>
      have : (andI a (f x)).toNat.testBit i = (a.toNat.testBit i && (f x).toNat.testBit i) := by unfold andI; rw [Int.toNat_natCast, Nat.testBit_and]
      simp only [if_true, this, Bool.not_true, Bool.false_or, Bool.and_assoc]
theorem all_bits (n : Int) (i : Nat) : ((2 : Int) ^ n.toNat - 1).toNat.testBit i = decide (i < n.toNat) := by
  have h : ((2 ^ n.toNat : Nat) : Int) = 2 ^ n.toNat := by simp
  have h2 : ((2 : Int) ^ n.toNat - 1).toNat = 2 ^ n.toNat - 1 := by rw [← h]; omega
  rw [h2, Nat.testBit_two_pow_sub_one]
theorem ker_bits (n : Int) (xs : List Int) (s : Int) (i : Nat) : (kerI n xs s).toNat.testBit i = (decide (i < n.toNat) && xs.all (fun x => !partB s x || x.toNat.testBit i)) := by
  unfold kerI
  rw [fold_bits (fun x => partB s x) (fun x => x) i xs, all_bits]
theorem acc_bits (n : Int) (K : Nat → Int) (s : Int) (ps : List Int) (i : Nat) : (accK n K s ps).toNat.testBit i = (decide (i < n.toNat) && ps.all (fun p => (K (withI s p).toNat).toNat.testBit i)) := by
  have h := fold_bits (fun _ => true) (fun p => K (withI s p).toNat) i ps (2 ^ n.toNat - 1)
  simp only [if_true, Bool.not_true, Bool.false_or] at h
  unfold accK
  rw [h, all_bits]
theorem ker_pos (n : Int) (xs : List Int) (s : Int) (hn : (0 : Int) ≤ 2 ^ n.toNat - 1) : 0 ≤ kerI n xs s := by
  have key : ∀ (xs : List Int) (a : Int), 0 ≤ a → 0 ≤ xs.foldl (fun a x => if partB s x then andI a x else a) a := by
    intro xs
    induction xs with
    | nil => intro a h; exact h
    | cons x xs ih =>
      intro a h
      rw [List.foldl_cons]
      refine ih _ ?_
      split
      · exact (and_le a x h).1
      · exact h
  exact key xs _ hn
theorem eq_bits {a b : Int} (ha : 0 ≤ a) (hb : 0 ≤ b) (h : ∀ i, a.toNat.testBit i = b.toNat.testBit i) : a = b := by
  have := Nat.eq_of_testBit_eq h
  omega
theorem bit_small {N i : Nat} {x : Int} (h0 : 0 ≤ x) (h : x < (2 ^ N : Nat)) (hi : x.toNat.testBit i = true) : i < N := by
  apply Classical.byContradiction
  intro hno
  have h1 : x.toNat < 2 ^ N := by omega
  rw [Nat.testBit_lt_two_pow (Nat.lt_of_lt_of_le h1 (Nat.pow_le_pow_right (by omega) (by omega)))] at hi
  cases hi
theorem ker_self {n : Int} {xs : List Int} (hf : famB n xs = true) {s : Int} (hs : s ∈ xs) : kerI n xs s = s := by
  obtain ⟨n1, n2, hset⟩ := famB_all hf
  obtain ⟨_, _, s1, s2⟩ := setB_yes (hset s hs)
  have hM : ((2 ^ n.toNat : Nat) : Int) = 2 ^ n.toNat := by simp
  refine eq_bits (ker_pos n xs s (all_pow n1 n2).1) s1 (fun i => ?_)
  rw [ker_bits]
  cases e : s.toNat.testBit i with
  | false =>
    have : xs.all (fun x => !partB s x || x.toNat.testBit i) = false := by
      rw [List.all_eq_false]
      exact ⟨s, hs, by rw [part_refl s1, e]; simp⟩
    rw [this, Bool.and_false]
  | true =>
    rw [decide_eq_true (bit_small s1 (by rw [hM]; exact s2) e), Bool.true_and, List.all_eq_true]
    intro x hx
    cases hp : partB s x with
    | false => rfl
    | true => rw [(part_bits s1).1 hp i e]; rfl
theorem with_bits {s p : Int} (i : Nat) : (withI s p).toNat.testBit i = (s.toNat.testBit i || decide (p.toNat = i)) := by
  unfold withI
  rw [Int.toNat_natCast, Nat.testBit_or, Nat.testBit_two_pow]
theorem with_pos (s p : Int) : 0 ≤ withI s p := by unfold withI; omega
theorem dif_bits {x y : Int} (i : Nat) : (difI x y).toNat.testBit i = (x.toNat.testBit i && !y.toNat.testBit i) := by
  unfold difI
  rw [Int.toNat_natCast, Nat.testBit_xor, Nat.testBit_and]
  cases x.toNat.testBit i <;> cases y.toNat.testBit i <;> rfl
theorem dif_bd {x y : Int} (hx : 0 ≤ x) : 0 ≤ difI x y ∧ difI x y ≤ x := by
  have h1 : (x.toNat ^^^ (x.toNat &&& y.toNat)) &&& x.toNat = x.toNat ^^^ (x.toNat &&& y.toNat) := Nat.eq_of_testBit_eq fun i => by
    simp only [Nat.testBit_and, Nat.testBit_xor]
    cases x.toNat.testBit i <;> cases y.toNat.testBit i <;> rfl
  have h : (x.toNat ^^^ (x.toNat &&& y.toNat)) &&& x.toNat ≤ x.toNat := Nat.and_le_right
  unfold difI; omega
theorem ker_acc {n : Int} {xs : List Int} (hf : famB n xs = true) {s : Int} (hs : setB n s = true) (hno : s ∉ xs) (K : Nat → Int) (hK : ∀ p ∈ ptsI (difI (2 ^ n.toNat - 1) s), K (withI s p).toNat = kerI n xs (withI s p))
    (hp : ∀ p, p ∈ ptsI (difI (2 ^ n.toNat - 1) s) ↔ 0 ≤ p ∧ p ≤ 7 ∧ hasB (difI (2 ^ n.toNat - 1) s) p = true) :
    accK n K s (ptsI (difI (2 ^ n.toNat - 1) s)) = kerI n xs s := by
  obtain ⟨n1, n2, hset⟩ := famB_all hf
  obtain ⟨_, _, s1, s2⟩ := setB_yes hs
  have hM : ((2 ^ n.toNat : Nat) : Int) = 2 ^ n.toNat := by simp
  refine eq_bits (acc_bd n1 n2 K s _).1 (ker_pos n xs s (all_pow n1 n2).1) (fun i => ?_)
  rw [acc_bits, ker_bits]
  cases hi : decide (i < n.toNat) with
  | false => rfl
  | true =>
    rw [Bool.true_and, Bool.true_and, Bool.eq_iff_iff, List.all_eq_true, List.all_eq_true]
    constructor
    · intro h x hx
      cases hpx : partB s x with
      | false => rfl
      | true =>
        have hb := (part_bits s1).1 hpx
        obtain ⟨_, _, x1, x2⟩ := setB_yes (hset x hx)
        have hne : x ≠ s := fun e => hno (e ▸ hx)
        have hex : ∃ p, x.toNat.testBit p = true ∧ s.toNat.testBit p = false := by
          apply Classical.byContradiction
          intro hno2
          refine hne (eq_bits x1 s1 fun j => ?_)
          cases ha : s.toNat.testBit j with
          | true => exact hb j ha
          | false =>
            cases hc : x.toNat.testBit j with
            | false => rfl
            | true => exact absurd ⟨j, hc, ha⟩ hno2
        obtain ⟨p, p1, p2⟩ := hex
        have hpn := bit_small x1 (by rw [hM]; exact x2) p1
        have hpm : ((p : Nat) : Int) ∈ ptsI (difI (2 ^ n.toNat - 1) s) := (hp _).2 ⟨by omega, by omega, by
          unfold hasB
          rw [Int.toNat_natCast, dif_bits, all_bits, decide_eq_true hpn, p2]; rfl⟩
        have h2 := h _ hpm
        rw [hK _ hpm, ker_bits, Bool.and_eq_true, List.all_eq_true] at h2
        have h3 := h2.2 x hx
        have h4 : partB (withI s (p : Nat)) x = true := (part_bits (with_pos _ _)).2 (fun j hj => by
          rw [with_bits, Bool.or_eq_true] at hj
          rcases hj with hj | hj
          · exact hb j hj
          · have : p = j := by simpa using hj
            rw [← this]; exact p1)
        rw [h4] at h3
        exact h3
    · intro h p hpm
      rw [hK p hpm, ker_bits, hi, Bool.true_and, List.all_eq_true]
      intro x hx
      cases hpx : partB (withI s p) x with
      | false => rfl
      | true =>
        have h4 : partB s x = true := (part_bits s1).2 (fun j hj => (part_bits (with_pos _ _)).1 hpx j (by rw [with_bits, hj]; rfl))
        have h5 := h x hx
        rw [h4] at h5
        exact h5
theorem with_up {s p : Int} (h0 : 0 ≤ s) (h : s.toNat.testBit p.toNat = false) : s < withI s p := by
  have h1 : s.toNat ≤ s.toNat ||| 2 ^ p.toNat := Nat.left_le_or
  have h2 : s.toNat ≠ s.toNat ||| 2 ^ p.toNat := fun e => by
    have h3 := congrArg (fun z => z.testBit p.toNat) e
    simp only [Nat.testBit_or, Nat.testBit_two_pow, h, Bool.false_or, decide_true] at h3
    cases h3
  unfold withI; omega
theorem mem_ptsTo (s : Int) : ∀ (k : Nat) (p : Int), p ∈ ptsTo s k ↔ 0 ≤ p ∧ p < k ∧ hasB s p = true
  | 0, p => by
    constructor
    · intro h; simp [ptsTo] at h
    · rintro ⟨a, b, _⟩; omega
  | k + 1, p => by
    show p ∈ ptsTo s k ++ (if hasB s (k : Nat) then [((k : Nat) : Int)] else []) ↔ _
    rw [List.mem_append, mem_ptsTo s k p]
    constructor
    · rintro (⟨a, b, c⟩ | h)
      · exact ⟨a, by omega, c⟩
      · cases hb : hasB s (k : Nat) with
        | false => rw [hb] at h; simp at h
        | true =>
          rw [hb, if_pos rfl, List.mem_singleton] at h
          subst h
          exact ⟨by omega, by omega, hb⟩
    · rintro ⟨a, b, c⟩
      by_cases e : p = (k : Int)
      · subst e; rw [c]; right; simp
      · exact .inl ⟨a, by omega, c⟩
theorem mem_ptsI (x p : Int) : p ∈ ptsI x ↔ 0 ≤ p ∧ p ≤ 7 ∧ hasB x p = true := by
  unfold ptsI
  rw [mem_ptsTo]
  constructor
  · rintro ⟨a, b, c⟩; exact ⟨a, by omega, c⟩
  · rintro ⟨a, b, c⟩; exact ⟨a, by omega, c⟩
theorem kept_ker {n : Int} {xs : List Int} (hf : famB n xs = true) :
    ∀ (d m : Nat), m + d = 2 ^ n.toNat → ∀ j, keptK n xs (((upI (2 ^ n.toNat)).drop m).reverse) j = if m ≤ j ∧ j < 2 ^ n.toNat then kerI n xs j else 0 := by
  obtain ⟨n1, n2, hset⟩ := famB_all hf
  have hM : ((2 ^ n.toNat : Nat) : Int) = 2 ^ n.toNat := by simp
  obtain ⟨a1, a2⟩ := all_pow n1 n2
  have hul := upI_len (2 ^ n.toNat)
  intro d
  induction d with
  | zero =>
    intro m hm j
    rw [List.drop_of_length_le (by omega), if_neg (by omega)]
    rfl
  | succ d ih =>
    intro m hm j
    have hlt : m < (upI (2 ^ n.toNat)).length := by omega
    have hg : (upI (2 ^ n.toNat)).getD m 0 = (m : Int) := by
      rw [List.getD_eq_getElem?_getD]
      unfold upI
      rw [List.getElem?_map, List.getElem?_range (by omega)]
      rfl
    rw [drop_step hlt hg, kept_snoc]
    have ih2 := ih (m + 1) (by omega)
    unfold stepK
    by_cases hj : (j : Int) = (m : Int)
    · obtain rfl : j = m := by omega
      have hsm : setB n (j : Int) = true := setB_mk ⟨n1, n2, by omega, by rw [← hM]; omega⟩
      rw [if_pos rfl, if_pos (show j ≤ j ∧ j < 2 ^ n.toNat from ⟨Nat.le_refl _, by omega⟩)]
      cases hmem : memB (j : Int) xs with
      | true => exact (ker_self hf (memB_yes hmem)).symm
      | false =>
        refine ker_acc hf hsm (memB_no hmem) _ (fun p hpp => ?_) (fun p => mem_ptsI _ p)
        obtain ⟨p1, p2, p3⟩ := (mem_ptsI _ p).1 hpp
        unfold hasB at p3
        rw [dif_bits, all_bits, Bool.and_eq_true] at p3
        have p4 : (j : Int).toNat.testBit p.toNat = false := by simpa using p3.2
        have p5 : p.toNat < n.toNat := of_decide_eq_true p3.1
        have hw := with_up (s := (j : Int)) (by omega) p4
        have hw2 : withI (j : Int) p < (2 ^ n.toNat : Nat) := by
          unfold withI
          rw [Int.toNat_natCast]
          exact Int.ofNat_lt.2 (Nat.or_lt_two_pow (by omega) (Nat.pow_lt_pow_right (by omega) p5))
        have hwp := with_pos (j : Int) p
        rw [ih2, if_pos (by omega), Int.toNat_of_nonneg hwp]
    · rw [if_neg hj, ih2]
      by_cases h1 : m + 1 ≤ j ∧ j < 2 ^ n.toNat
      · rw [if_pos h1, if_pos (by omega)]
      · rw [if_neg h1, if_neg (by omega)]
end Go.Proofs.YtjhjmbiecihjhaaDoor
