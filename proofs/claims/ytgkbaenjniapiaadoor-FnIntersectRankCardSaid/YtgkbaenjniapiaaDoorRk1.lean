/- The least number of points that meet a family: plain mathematics. -/
import Derived.Test.YtgkbaenjniapiaaDoorIs1
import Derived.Test.YtgkbaenjniapiaaDoorIter
namespace Go.Proofs.YtgkbaenjniapiaaDoor
open Go.ChangeShapes Go.WideShapes Go.ChangeAt Go.RowKit Go.Proofs

/-- each point of s is one of t. -/
def Sub (s t : Int) : Prop := ∀ p : Nat, p < 8 → hasB s (p : Nat) = true → hasB t (p : Nat) = true
theorem cnt_sub {s t : Int} (h : Sub s t) : ∀ k, k ≤ 8 → cntTo s k ≤ cntTo t k
  | 0, _ => by simp [cntTo]
  | k + 1, hk => by
    have ih := cnt_sub h k (by omega)
    have h1 := h k (by omega)
    unfold cntTo
    rcases (by cases hasB s (k : Nat) <;> simp : hasB s (k : Nat) = true ∨ hasB s (k : Nat) = false) with hs | hs
    · rw [hs, h1 hs]; simp; omega
    · rw [hs]; simp; omega
theorem cnt_8 (s : Int) : cntTo s 8 ≤ 8 := cnt_le s 8
theorem with_has : ∀ s : Fin 256, ∀ p : Fin 8, ∀ q : Fin 8, hasB (withI (s.val : Nat) (p.val : Nat)) (q.val : Nat) = (hasB (s.val : Nat) (q.val : Nat) || decide (q.val = p.val)) := by decide +kernel
theorem with_cnt : ∀ s : Fin 256, ∀ p : Fin 8, hasB (s.val : Nat) (p.val : Nat) = false → cntTo (withI (s.val : Nat) (p.val : Nat)) 8 = cntTo (s.val : Nat) 8 + 1 := by decide +kernel
theorem cnt_full : ∀ s : Fin 256, cntTo (s.val : Nat) 8 = 8 → s.val = 255 := by decide +kernel
theorem meets_full : ∀ z : Fin 256, z.val ≠ 0 → meetB 255 (z.val : Nat) = true := by decide +kernel
theorem all_full : ∀ n : Fin 9, ∀ z : Fin 256, z.val < 2 ^ n.val → z.val ≠ 0 → meetB (2 ^ n.val - 1) (z.val : Nat) = true := by decide +kernel
theorem cnt_all : ∀ n : Fin 9, cntTo (2 ^ n.val - 1) 8 = n.val := by decide +kernel
theorem pts_nn : ∀ x : Fin 256, x.val ≠ 0 → ptsI (x.val : Nat) ≠ [] := by decide +kernel
theorem pts_mem : ∀ x : Fin 256, ∀ p : Fin 8, hasB (x.val : Nat) (p.val : Nat) = true → ((p.val : Nat) : Int) ∈ ptsI (x.val : Nat) := by decide +kernel
/-- two sets with a common point have one. -/
theorem meet_pt {t x : Int} (hx : 0 ≤ x) (hx2 : x < 256) (h : meetB t x = true) : ∃ p : Nat, p < 8 ∧ hasB x (p : Nat) = true ∧ hasB t (p : Nat) = true := by
  unfold meetB andI at h
  have h1 : t.toNat &&& x.toNat ≠ 0 := by
    intro e; rw [e] at h; simp at h
  obtain ⟨i, hi⟩ := Nat.exists_testBit_of_ne_zero h1
  rw [Nat.testBit_and, Bool.and_eq_true] at hi
  refine ⟨i, ?_, ?_, ?_⟩
  · rcases Nat.lt_or_ge i 8 with h2 | h2
    · exact h2
    · have h3 : x.toNat < 2 ^ i := Nat.lt_of_lt_of_le (show x.toNat < 2 ^ 8 by omega) (Nat.pow_le_pow_right (by omega) h2)
      rw [Nat.testBit_lt_two_pow h3] at hi
      exact absurd hi.2 (by simp)
  · unfold hasB; rw [Int.toNat_natCast]; exact hi.2
  · unfold hasB; rw [Int.toNat_natCast]; exact hi.1
/-- what leastMeeting says, with d points left. -/
def lmI (f : List Int) : Nat → Int → Nat
  | 0, s => cntTo s 8
  | d + 1, s => match missL s f with
    | none => cntTo s 8
    | some x => (ptsI x).foldl (fun a p => min a (lmI f d (withI s p))) 8
theorem fold_le {g : Int → Nat} {p : Int} : ∀ (l : List Int) (a : Nat), l.foldl (fun a p => min a (g p)) a ≤ a ∧ (p ∈ l → l.foldl (fun a p => min a (g p)) a ≤ g p)
  | [], a => ⟨Nat.le_refl _, fun h => by simp at h⟩
  | x :: l, a => by
    obtain ⟨h1, h2⟩ := fold_le (g := g) (p := p) l (min a (g x))
    refine ⟨Nat.le_trans h1 (Nat.min_le_left _ _), fun h => ?_⟩
    rcases List.mem_cons.1 h with h | h
    · subst h; exact Nat.le_trans h1 (Nat.min_le_right _ _)
    · exact h2 h
theorem fold_at {g : Int → Nat} : ∀ (l : List Int) (a : Nat), l.foldl (fun a p => min a (g p)) a = a ∨ ∃ p ∈ l, l.foldl (fun a p => min a (g p)) a = g p
  | [], a => .inl rfl
  | x :: l, a => by
    rcases fold_at (g := g) l (min a (g x)) with h | ⟨p, hp, h⟩
    · rcases Nat.le_total a (g x) with h2 | h2
      · left; show l.foldl _ (min a (g x)) = a; rw [h, Nat.min_eq_left h2]
      · right; exact ⟨x, by simp, by show l.foldl _ (min a (g x)) = _; rw [h, Nat.min_eq_right h2]⟩
    · exact .inr ⟨p, by simp [hp], h⟩
/-- t meets each set of the list. -/
def MeetAll (t : Int) (f : List Int) : Prop := ∀ z ∈ f, meetB t z = true
theorem has_apart {s x : Int} {p : Nat} (h : meetB s x = false) (hx : hasB x (p : Nat) = true) : hasB s (p : Nat) = false := by
  rcases (by cases hasB s (p : Nat) <;> simp : hasB s (p : Nat) = true ∨ hasB s (p : Nat) = false) with hs | hs
  · exfalso
    unfold meetB at h
    have h2 : andI s x = 0 := by simpa using h
    unfold andI at h2
    have h3 : s.toNat &&& x.toNat = 0 := by omega
    have h4 : (s.toNat &&& x.toNat).testBit (p : Int).toNat = false := by rw [h3]; exact Nat.zero_testBit _
    rw [Nat.testBit_and] at h4
    unfold hasB at hs hx
    rw [hs, hx] at h4
    cases h4
  · exact hs
theorem with_facts {s : Int} {p : Nat} (h1 : 0 ≤ s) (h2 : s < 256) (hp : p < 8) (h : hasB s (p : Nat) = false) : 0 ≤ withI s (p : Nat) ∧ withI s (p : Nat) < 256 ∧ cntTo (withI s (p : Nat)) 8 = cntTo s 8 + 1 ∧ ∀ q : Nat, q < 8 → hasB (withI s (p : Nat)) (q : Nat) = (hasB s (q : Nat) || decide (q = p)) := by
  obtain ⟨y, rfl⟩ := Int.eq_ofNat_of_zero_le h1
  obtain ⟨a, b⟩ := with_lt (s := (y : Int)) (p := (p : Nat)) h1 h2 (by omega) (by omega)
  exact ⟨a, b, with_cnt ⟨y, by omega⟩ ⟨p, hp⟩ h, fun q hq => with_has ⟨y, by omega⟩ ⟨p, hp⟩ ⟨q, hq⟩⟩
theorem miss_facts {f : List Int} {s x : Int} (hz : ∀ z ∈ f, 0 ≤ z ∧ z < 256) (h : missL s f = some x) : 0 ≤ x ∧ x < 256 ∧ meetB s x = false ∧ x ∈ f := by
  obtain ⟨a, b, _⟩ := miss_some h
  exact ⟨(hz x a).1, (hz x a).2, b, a⟩
theorem lm_le {f : List Int} {t : Int} (hz : ∀ z ∈ f, 0 ≤ z ∧ z < 256) (ht : MeetAll t f) : ∀ (d : Nat) (s : Int), 0 ≤ s → s < 256 → Sub s t → lmI f d s ≤ cntTo t 8
  | 0, s, _, _, hs => cnt_sub hs 8 (Nat.le_refl _)
  | d + 1, s, h1, h2, hs => by
    unfold lmI
    cases hm : missL s f with
    | none => exact cnt_sub hs 8 (Nat.le_refl _)
    | some x =>
      obtain ⟨x1, x2, x3, x4⟩ := miss_facts hz hm
      obtain ⟨p, p8, px, pt⟩ := meet_pt x1 x2 (ht x x4)
      obtain ⟨a, b, _, hq⟩ := with_facts h1 h2 p8 (has_apart x3 px)
      have ih := lm_le hz ht d (withI s (p : Nat)) a b (fun q q8 h => by
        rw [hq q q8, Bool.or_eq_true] at h
        rcases h with h | h
        · exact hs q q8 h
        · have : q = p := of_decide_eq_true h
          subst this; exact pt)
      have hpm : ((p : Nat) : Int) ∈ ptsI x := by
        obtain ⟨y, rfl⟩ := Int.eq_ofNat_of_zero_le x1
        exact pts_mem ⟨y, by omega⟩ ⟨p, p8⟩ px
      exact Nat.le_trans ((fold_le (g := fun p => lmI f d (withI s p)) (ptsI x) 8).2 hpm) ih
theorem with_pow {s : Int} {p n : Nat} (h1 : 0 ≤ s) (h2 : s < ((2 ^ n : Nat) : Int)) (hp : p < n) : withI s (p : Nat) < ((2 ^ n : Nat) : Int) := by
  unfold withI
  rw [Int.toNat_natCast]
  have : s.toNat ||| 2 ^ p < 2 ^ n := Nat.or_lt_two_pow (by omega) (Nat.pow_lt_pow_right (by omega) hp)
  omega
theorem has_lt {x : Int} {p n : Nat} (h1 : 0 ≤ x) (h2 : x < ((2 ^ n : Nat) : Int)) (h : hasB x (p : Nat) = true) : p < n := by
  rcases Nat.lt_or_ge p n with h3 | h3
  · exact h3
  · exfalso
    unfold hasB at h
    rw [Int.toNat_natCast, Nat.testBit_lt_two_pow (Nat.lt_of_lt_of_le (show x.toNat < 2 ^ n by omega) (Nat.pow_le_pow_right (by omega) h3))] at h
    cases h
/-- some set of n points meets all and has so many points. -/
theorem lm_at {f : List Int} {n : Nat} (hn : n ≤ 8) (hz : ∀ z ∈ f, 0 ≤ z ∧ z < ((2 ^ n : Nat) : Int)) (h0 : ∀ z ∈ f, z ≠ 0) : ∀ (d : Nat) (s : Int), 0 ≤ s → s < ((2 ^ n : Nat) : Int) → cntTo s 8 + d = 8 → ∃ t, 0 ≤ t ∧ t < ((2 ^ n : Nat) : Int) ∧ MeetAll t f ∧ lmI f d s = cntTo t 8 := by
  have hp : 2 ^ n ≤ 2 ^ 8 := Nat.pow_le_pow_right (by omega) hn
  have hp8 : (2 : Nat) ^ 8 = 256 := by decide
  have hz2 : ∀ z ∈ f, 0 ≤ z ∧ z < 256 := fun z h => by have := hz z h; omega
  intro d
  induction d with
  | zero =>
    intro s h1 h2 hc
    refine ⟨s, h1, h2, fun z hzm => ?_, rfl⟩
    obtain ⟨y, rfl⟩ := Int.eq_ofNat_of_zero_le h1
    have := cnt_full ⟨y, by omega⟩ (by dsimp only; omega)
    dsimp only at this
    subst this
    obtain ⟨a, b⟩ := hz2 z hzm
    have h3 := h0 z hzm
    obtain ⟨u, rfl⟩ := Int.eq_ofNat_of_zero_le a
    exact meets_full ⟨u, by omega⟩ (by dsimp only; omega)
  | succ d ih =>
    intro s h1 h2 hc
    have h256 : s < 256 := by omega
    unfold lmI
    cases hm : missL s f with
    | none => exact ⟨s, h1, h2, fun z hzm => List.all_eq_true.1 (miss_none.1 hm) z hzm, rfl⟩
    | some x =>
      obtain ⟨x1, x2, x3, x4⟩ := miss_facts hz2 hm
      have hxn := (hz x x4).2
      have hbr : ∀ p ∈ ptsI x, ∃ t, 0 ≤ t ∧ t < ((2 ^ n : Nat) : Int) ∧ MeetAll t f ∧ lmI f d (withI s p) = cntTo t 8 := fun p hpm => by
        obtain ⟨a, b, c⟩ := mem_pts x1 x2 hpm
        obtain ⟨q, rfl⟩ := Int.eq_ofNat_of_zero_le a
        obtain ⟨e1, e2, e3, _⟩ := with_facts h1 h256 (show q < 8 by omega) (has_apart x3 c)
        exact ih _ e1 (with_pow h1 h2 (has_lt x1 hxn c)) (by omega)
      rcases fold_at (g := fun p => lmI f d (withI s p)) (ptsI x) 8 with h | ⟨p, hpm, h⟩
      · obtain ⟨y, rfl⟩ := Int.eq_ofNat_of_zero_le x1
        have hne := pts_nn ⟨y, by omega⟩ (fun e => h0 _ x4 (by dsimp only at e; omega))
        obtain ⟨p, hpm⟩ := List.exists_mem_of_ne_nil _ hne
        obtain ⟨t, t1, t2, t3, t4⟩ := hbr p hpm
        refine ⟨t, t1, t2, t3, ?_⟩
        have h5 := (fold_le (g := fun p => lmI f d (withI s p)) (p := p) (ptsI (y : Nat)) 8).2 hpm
        have h6 := cnt_8 t
        have h7 := Nat.le_antisymm h6 (t4 ▸ (h ▸ h5 : 8 ≤ lmI f d (withI s p)))
        exact h.trans h7.symm
      · obtain ⟨t, t1, t2, t3, t4⟩ := hbr p hpm
        exact ⟨t, t1, t2, t3, h.trans t4⟩
/-- the model's search over all sets below k. -/
def bsI (n : Nat) (f : List Int) : Nat → Nat
  | 0 => n
  | k + 1 => if decide (cntTo (k : Nat) 8 < bsI n f k) && f.all (meetB (k : Nat)) then cntTo (k : Nat) 8 else bsI n f k
theorem bs_le (n : Nat) (f : List Int) : ∀ k, bsI n f k ≤ n ∧ ∀ t : Nat, t < k → f.all (meetB (t : Nat)) = true → bsI n f k ≤ cntTo (t : Nat) 8
  | 0 => ⟨Nat.le_refl _, fun t h => by omega⟩
  | k + 1 => by
    obtain ⟨h1, h2⟩ := bs_le n f k
    unfold bsI
    by_cases hc : cntTo (k : Nat) 8 < bsI n f k
    · rw [decide_eq_true hc, Bool.true_and]
      rcases (by cases f.all (meetB (k : Nat)) <;> simp : f.all (meetB (k : Nat)) = true ∨ f.all (meetB (k : Nat)) = false) with ha | ha
      · rw [ha, if_pos rfl]
        refine ⟨by omega, fun t ht hm => ?_⟩
        by_cases e : t = k
        · subst e; exact Nat.le_refl _
        · have := h2 t (by omega) hm; omega
      · rw [ha, if_neg (by simp)]
        refine ⟨h1, fun t ht hm => ?_⟩
        by_cases e : t = k
        · subst e; rw [ha] at hm; cases hm
        · exact h2 t (by omega) hm
    · rw [decide_eq_false hc, Bool.false_and, if_neg (by simp)]
      refine ⟨h1, fun t ht hm => ?_⟩
      by_cases e : t = k
      · subst e; omega
      · exact h2 t (by omega) hm
theorem bs_at (n : Nat) (f : List Int) : ∀ k, bsI n f k = n ∨ ∃ t : Nat, t < k ∧ f.all (meetB (t : Nat)) = true ∧ bsI n f k = cntTo (t : Nat) 8
  | 0 => .inl rfl
  | k + 1 => by
    have ih := bs_at n f k
    unfold bsI
    rcases (by cases (decide (cntTo (k : Nat) 8 < bsI n f k) && f.all (meetB (k : Nat))) <;> simp : (decide (cntTo (k : Nat) 8 < bsI n f k) && f.all (meetB (k : Nat))) = true ∨ (decide (cntTo (k : Nat) 8 < bsI n f k) && f.all (meetB (k : Nat))) = false) with h | h
    · rw [if_pos h]
      rw [Bool.and_eq_true] at h
      exact .inr ⟨k, by omega, h.2, rfl⟩
    · rw [if_neg (by rw [h]; simp)]
      rcases ih with h | ⟨t, h1, h2, h3⟩
      · exact .inl h
      · exact .inr ⟨t, by omega, h2, h3⟩
theorem rank_eq {f : List Int} {n : Nat} (hn : n ≤ 8) (hz : ∀ z ∈ f, 0 ≤ z ∧ z < ((2 ^ n : Nat) : Int)) (h0 : ∀ z ∈ f, z ≠ 0) : lmI f 8 0 = bsI n f (2 ^ n) := by
  have hp : 2 ^ n ≤ 2 ^ 8 := Nat.pow_le_pow_right (by omega) hn
  have hp8 : (2 : Nat) ^ 8 = 256 := by decide
  have hpp : 0 < 2 ^ n := Nat.two_pow_pos n
  have hz2 : ∀ z ∈ f, 0 ≤ z ∧ z < 256 := fun z h => by have := hz z h; omega
  have hsub : ∀ t, Sub 0 t := fun t p _ h => by unfold hasB at h; simp at h
  have hle := fun t (ht : MeetAll t f) => lm_le hz2 ht 8 0 (by omega) (by omega) (hsub t)
  obtain ⟨t, t1, t2, t3, t4⟩ := lm_at hn hz h0 8 0 (by omega) (by omega) (by decide)
  obtain ⟨b1, b2⟩ := bs_le n f (2 ^ n)
  refine Nat.le_antisymm ?_ ?_
  · rcases bs_at n f (2 ^ n) with h | ⟨u, u1, u2, u3⟩
    · have hc : cntTo (2 ^ n - 1) 8 = n := cnt_all ⟨n, by omega⟩
      rw [h]
      refine Nat.le_trans (hle (2 ^ n - 1) fun z hzm => ?_) (Nat.le_of_eq hc)
      obtain ⟨a, b⟩ := hz z hzm
      have h3 := h0 z hzm
      obtain ⟨u, rfl⟩ := Int.eq_ofNat_of_zero_le a
      exact all_full ⟨n, by omega⟩ ⟨u, by omega⟩ (by dsimp only; omega) (by dsimp only; omega)
    · rw [u3]
      exact hle _ fun z hzm => List.all_eq_true.1 u2 z hzm
  · obtain ⟨y, rfl⟩ := Int.eq_ofNat_of_zero_le t1
    rw [t4]
    exact b2 y (by omega) (List.all_eq_true.2 fun z hzm => t3 z hzm)
end Go.Proofs.YtgkbaenjniapiaaDoor
