/- All shifts, plain mathematics: they end, keep sizes, do not raise sums, keep meeting. -/
import Derived.Test.YtgkbaenjniapiaaDoorMa0
import Derived.Test.YtgkbaenjniapiaaDoorSumB
import Derived.Test.YtgkbaenjniapiaaDoorAllTn
import Derived.Test.YtgkbaenjniapiaaDoorIs2
import Derived.Test.YtgkbaenjniapiaaDoorFams14
namespace Go.Proofs.YtgkbaenjniapiaaDoor
open Go.ChangeShapes Go.WideShapes Go.ChangeAt Go.RowKit Go.Proofs

theorem it_end {n : Int} {φs : List (Int → Int)} (h : TurnsT n φs) : ∀ (m : Nat) {xs : List Int}, famB n xs = true → smI xs ≤ m → ∃ j, rdL φs (itR φs j xs) = itR φs j xs
  | m, xs, hf, hm => by
    by_cases hr : rdL φs xs = xs
    · exact ⟨0, hr⟩
    · have hx : ∃ φ ∈ φs, tnL φ xs ≠ xs := Classical.byContradiction fun hc => hr (rd_same fun φ hφ => Classical.byContradiction fun hn => hc ⟨φ, hφ, hn⟩)
      have hlt := rd_lt h hf hx
      have hf2 := rd_fam (fun φ hφ => (h φ hφ).1) hf
      have hnn := smI_nonneg (fun x hx => (setB_lt ((famB_all hf2).2.2 x hx)).1)
      cases m with
      | zero => omega
      | succ m =>
        obtain ⟨j, hj⟩ := it_end h m hf2 (by omega)
        have hcomm : ∀ j ys, itR φs (j + 1) ys = itR φs j (rdL φs ys) := fun j ys => by
          induction j with
          | zero => rfl
          | succ j ih => show rdL φs (itR φs (j + 1) ys) = rdL φs (itR φs j (rdL φs ys)); rw [ih]
        exact ⟨j + 1, by rw [hcomm]; exact hj⟩
theorem st_is {n : Int} {φs : List (Int → Int)} (h : TurnsT n φs) {xs : List Int} (hf : famB n xs = true) : ∃ j, stL φs xs = itR φs j xs ∧ rdL φs (stL φs xs) = stL φs xs := by
  have hnn := smI_nonneg (fun x hx => (setB_lt ((famB_all hf).2.2 x hx)).1)
  obtain ⟨j, hj⟩ := it_end h (smI xs).toNat hf (by omega)
  have := st_eq hj
  exact ⟨j, this.symm, by rw [← this]; exact hj⟩
/-- what each turn keeps all turns keep. -/
theorem rd_keep {n : Int} (Q : List Int → Prop) : ∀ {φs : List (Int → Int)} {xs : List Int}, (∀ φ ∈ φs, SetT n φ) → (∀ φ ∈ φs, ∀ ys, famB n ys = true → Q ys → Q (tnL φ ys)) → famB n xs = true → Q xs → Q (rdL φs xs)
  | [], _, _, _, _, hq => hq
  | φ :: φs, xs, hs, hk, hf, hq => by
    rw [rd_cons]
    exact rd_keep Q (fun ψ hψ => hs ψ (List.mem_cons_of_mem _ hψ)) (fun ψ hψ => hk ψ (List.mem_cons_of_mem _ hψ)) (tn_fam (hs φ List.mem_cons_self) hf) (hk φ List.mem_cons_self xs hf hq)
theorem st_keep {n : Int} (Q : List Int → Prop) {φs : List (Int → Int)} {xs : List Int} (h : TurnsT n φs) (hk : ∀ φ ∈ φs, ∀ ys, famB n ys = true → Q ys → Q (tnL φ ys)) (hf : famB n xs = true) (hq : Q xs) : Q (stL φs xs) := by
  obtain ⟨j, hj, _⟩ := st_is h hf
  rw [hj]
  clear hj
  induction j with
  | zero => exact hq
  | succ j ih => exact rd_keep Q (fun φ hφ => (h φ hφ).1) hk (it_fam h hf j) ih
theorem stays_st {n : Int} {φs : List (Int → Int)} (h : TurnsT n φs) {xs : List Int} (hf : famB n xs = true) : staysB n φs (stL φs xs) = true := by
  obtain ⟨j, hj, hr⟩ := st_is h hf
  have hf2 := st_in h hf
  unfold staysB
  rw [hf2, Bool.true_and]
  have h1 := rd_one h hf2 hr
  have h2 : φs.any (fun φ => !sameB (tnL φ (stL φs xs)) (stL φs xs)) = false := List.any_eq_false.2 fun φ hφ => by rw [h1 φ hφ]; simp [sameB]
  rw [h2]; rfl
theorem shL_is {n : Int} {φ : Int → Int} (h : φ ∈ shL n) : ∃ a b : Nat, (a : Int) < n ∧ b < a ∧ φ = fun x => movedI x a b := by
  obtain ⟨a, b, h1, h2, h3, h4⟩ := mem_shTo h (Nat.zero_le _)
  exact ⟨a, b, by have := h2 rfl; omega, h3, h4⟩
/-! sums -/
theorem smP_perm {l l' : List Int} (h : l.Perm l') : smP l = smP l' := by
  induction h with
  | nil => rfl
  | cons x _ ih => simp only [smP, ih]
  | swap x y l => simp only [smP]; omega
  | trans _ _ h1 h2 => exact h1.trans h2
theorem dgP_sm (j : Nat) : ∀ xs : List Int, dgP xs j = smP (xs.map (fun x => hb1 x j))
  | [] => rfl
  | x :: xs => by
    have ih := dgP_sm j xs
    unfold dgP at ih ⊢
    rw [List.filter_cons, List.map_cons, smP, ← ih]
    unfold hb1
    split <;> simp <;> omega
theorem smP_add (f g : Int → Int) : ∀ xs : List Int, smP (xs.map (fun x => f x + g x)) = smP (xs.map f) + smP (xs.map g)
  | [] => rfl
  | x :: xs => by simp only [List.map_cons, smP, smP_add f g xs]; omega
theorem smP_mul (m : Int) (f : Int → Int) : ∀ xs : List Int, smP (xs.map (fun x => m * f x)) = m * smP (xs.map f)
  | [] => by simp [smP]
  | x :: xs => by simp only [List.map_cons, smP, smP_mul m f xs, Int.mul_add]
theorem sumP_sm (xs : List Int) : ∀ m, sumP xs m = smP (xs.map (fun x => sumH x m))
  | 0 => by
    show 0 = _
    induction xs with
    | nil => rfl
    | cons x xs ih =>
      show (0 : Int) = 0 + smP (xs.map (fun x => sumH x 0))
      rw [← ih]; rfl
  | m + 1 => by
    show sumP xs m + m * dgP xs m = smP (xs.map (fun x => sumH x m + m * hb1 x m))
    rw [smP_add (fun x => sumH x m) (fun x => (m : Int) * hb1 x m), smP_mul (m : Int) (fun x => hb1 x m), sumP_sm xs m, dgP_sm m xs]
theorem smP_le {f g : Int → Int} : ∀ {xs : List Int}, (∀ x ∈ xs, f x ≤ g x) → smP (xs.map f) ≤ smP (xs.map g)
  | [], _ => Int.le_refl _
  | x :: xs, h => by
    have h1 := h x List.mem_cons_self
    have h2 := smP_le (xs := xs) (fun y hy => h y (List.mem_cons_of_mem _ hy))
    simp only [List.map_cons, smP]; omega
theorem sumH_mv : ∀ n : Fin 9, ∀ x : Fin 256, ∀ a b : Fin 8, b.val < a.val → a.val < n.val → sumH (movedI (x.val : Nat) (a.val : Nat) (b.val : Nat)) n.val ≤ sumH (x.val : Nat) n.val := by decide +kernel
theorem sum_turn {n : Int} {a b : Nat} (ha : (a : Int) < n) (hb : b < a) {xs : List Int} (hf : famB n xs = true) : sumP (tnL (fun x => movedI x a b) xs) n.toNat ≤ sumP xs n.toNat := by
  obtain ⟨n1, n2, hs⟩ := famB_all hf
  have hn := map_nodup (f := rpI (fun x => movedI x a b) xs) (asc_nodup (famB_asc hf)) (fun x hx y hy e => rp_inj hx hy e)
  have hp : (tnL (fun x => movedI x a b) xs).Perm (xs.map (rpI (fun x => movedI x a b) xs)) := (List.perm_ext_iff_of_nodup (asc_nodup (asc_sortL _)) hn).2 fun z => mem_sortL
  rw [sumP_sm, sumP_sm, smP_perm (hp.map _), List.map_map]
  refine smP_le fun x hx => ?_
  show sumH (rpI _ xs x) n.toNat ≤ _
  unfold rpI
  split
  · exact Int.le_refl _
  · obtain ⟨x1, x2⟩ := setB_lt (hs x hx)
    obtain ⟨X, rfl⟩ := nat_of x1
    exact sumH_mv ⟨n.toNat, by omega⟩ ⟨X, by omega⟩ ⟨a, by omega⟩ ⟨b, by omega⟩ hb (by dsimp only; omega)
/-! meeting -/
theorem mv_bit : ∀ x : Fin 256, ∀ a b p : Fin 8, hasB (movedI (x.val : Nat) (a.val : Nat) (b.val : Nat)) (p.val : Nat) = if hasB (x.val : Nat) (a.val : Nat) && !hasB (x.val : Nat) (b.val : Nat) then (if p = b then true else if p = a then false else hasB (x.val : Nat) (p.val : Nat)) else hasB (x.val : Nat) (p.val : Nat) := by decide +kernel
theorem mv_has {x : Int} {a b p : Nat} (x1 : 0 ≤ x) (x2 : x < 256) (ha : a < 8) (hb : b < 8) (hp : p < 8) : hasB (movedI x a b) (p : Nat) = if hasB x (a : Nat) && !hasB x (b : Nat) then (if p = b then true else if p = a then false else hasB x (p : Nat)) else hasB x (p : Nat) := by
  obtain ⟨X, rfl⟩ := nat_of x1
  have := mv_bit ⟨X, by omega⟩ ⟨a, ha⟩ ⟨b, hb⟩ ⟨p, hp⟩
  simpa only [Fin.mk.injEq] using this
theorem mt_pt {t x : Int} (hx : 0 ≤ x) (hx2 : x < 256) (h : meetB t x = true) : ∃ p : Nat, p < 8 ∧ hasB x (p : Nat) = true ∧ hasB t (p : Nat) = true := by
  unfold meetB andI at h
  have h1 : t.toNat &&& x.toNat ≠ 0 := by
    intro e; rw [e] at h; simp at h
  obtain ⟨i, hi⟩ := Nat.exists_testBit_of_ne_zero h1
  rw [Nat.testBit_and, Bool.and_eq_true] at hi
  refine ⟨i, ?_, ?_, ?_⟩
  · rcases Nat.lt_or_ge i 8 with h2 | h2
    · exact h2
    · have h3 : x.toNat < 2 ^ i := Nat.lt_of_lt_of_le (show x.toNat < 2 ^ 8 by omega) (Nat.pow_le_pow_right (by omega) h2)
      rw [Nat.testBit_lt_two_pow h3] at hi
      exact absurd hi.2 (by simp)
  · unfold hasB; rw [Int.toNat_natCast]; exact hi.2
  · unfold hasB; rw [Int.toNat_natCast]; exact hi.1
theorem mt_mk {t x : Int} {p : Nat} (h1 : hasB x (p : Nat) = true) (h2 : hasB t (p : Nat) = true) : meetB t x = true := by
  unfold hasB at h1 h2
  rw [Int.toNat_natCast] at h1 h2
  unfold meetB andI
  have h3 : (t.toNat &&& x.toNat).testBit p = true := by rw [Nat.testBit_and, h1, h2]; rfl
  have h4 : t.toNat &&& x.toNat ≠ 0 := fun e => by rw [e, Nat.zero_testBit] at h3; cases h3
  rw [bne_iff_ne]
  omega
theorem mv_moves {x : Int} {a b : Nat} (h : movedI x a b ≠ x) : hasB x (a : Nat) = true ∧ hasB x (b : Nat) = false := by
  unfold movedI at h
  split at h
  · next hc => rw [Bool.and_eq_true, Bool.not_eq_true'] at hc; exact hc
  · exact absurd rfl h
/-- one set moved, the other one left though it is not yet there. -/
theorem meet_one {x y : Int} {a b : Nat} (x1 : 0 ≤ x) (x2 : x < 256) (y1 : 0 ≤ y) (y2 : y < 256) (ha : a < 8) (hb : b < 8) (hm : movedI x a b ≠ x) (h : meetB x (movedI y a b) = true) (hy : meetB x y = true) : meetB (movedI x a b) y = true := by
  obtain ⟨xa, xb⟩ := mv_moves hm
  have hφ : ∀ p, p < 8 → hasB (movedI x a b) (p : Nat) = if p = b then true else if p = a then false else hasB x (p : Nat) := fun p hp => by
    have := mv_has (b := b) x1 x2 ha hb hp
    rw [xa, xb] at this
    simpa using this
  by_cases hmy : movedI y a b = y
  · obtain ⟨p, p8, q1, q2⟩ := mt_pt y1 y2 hy
    by_cases hpa : p = a
    · subst hpa
      have hyb : hasB y (b : Nat) = true := by
        rcases (by cases hasB y (b : Nat) <;> simp : hasB y (b : Nat) = true ∨ hasB y (b : Nat) = false) with hc | hc
        · exact hc
        · exfalso
          have h1 := mv_has (b := b) (p := b) y1 y2 ha hb hb
          rw [q1, hc, hmy, hc] at h1
          simp at h1
      exact mt_mk hyb (by rw [hφ b hb, if_pos rfl])
    · by_cases hpb : p = b
      · exact mt_mk q1 (by rw [hφ p p8, if_pos hpb])
      · exact mt_mk q1 (by rw [hφ p p8, if_neg hpb, if_neg hpa]; exact q2)
  · obtain ⟨ya, yb⟩ := mv_moves hmy
    obtain ⟨z1, z2⟩ : 0 ≤ movedI y a b ∧ movedI y a b < 256 := by
      have hd : ∀ y : Fin 256, ∀ a b : Fin 8, 0 ≤ movedI (y.val : Nat) (a.val : Nat) (b.val : Nat) ∧ movedI (y.val : Nat) (a.val : Nat) (b.val : Nat) < 256 := by decide +kernel
      obtain ⟨Y, rfl⟩ := nat_of y1
      exact hd ⟨Y, by omega⟩ ⟨a, ha⟩ ⟨b, hb⟩
    obtain ⟨p, p8, q1, q2⟩ := mt_pt z1 z2 h
    have h1 := mv_has (b := b) y1 y2 ha hb p8
    rw [ya, yb, q1] at h1
    have hpb : p ≠ b := fun e => by subst e; rw [xb] at q2; cases q2
    have hpa : p ≠ a := fun e => by
      subst e
      rw [if_pos (by rfl), if_neg hpb, if_pos rfl] at h1
      cases h1
    rw [if_pos (by rfl), if_neg hpb, if_neg hpa] at h1
    exact mt_mk h1.symm (by rw [hφ p p8, if_neg hpb, if_neg hpa]; exact q2)
theorem cr_out {L zs : List Int} (h : crossB L zs = true) : ∀ x ∈ L, ∀ y ∈ zs, meetB x y = true := fun x hx y hy => by
  unfold crossB at h
  rw [List.all_eq_true] at h
  exact List.all_eq_true.1 (h x hx) y hy
theorem cross_turn {n : Int} {a b : Nat} (ha : (a : Int) < n) (hb : b < a) {xs : List Int} (hf : famB n xs = true) (hc : crossB xs xs = true) : crossB (tnL (fun x => movedI x a b) xs) (tnL (fun x => movedI x a b) xs) = true := by
  obtain ⟨n1, n2, hs⟩ := famB_all hf
  have hM := cr_out hc
  have hin : ∀ x ∈ xs, 0 ≤ x ∧ x < 256 := fun x hx => setB_lt (hs x hx)
  have ha8 : a < 8 := by omega
  have hb8 : b < 8 := by omega
  have key : ∀ x ∈ xs, ∀ y ∈ xs, meetB (rpI (fun x => movedI x a b) xs x) (rpI (fun x => movedI x a b) xs y) = true := fun x hx y hy => by
    obtain ⟨x1, x2⟩ := hin x hx
    obtain ⟨y1, y2⟩ := hin y hy
    have one : ∀ u v, u ∈ xs → v ∈ xs → movedI u a b ∉ xs → movedI v a b ∈ xs → meetB (movedI u a b) v = true := fun u v hu hv h1 h2 => by
      obtain ⟨u1, u2⟩ := hin u hu
      obtain ⟨v1, v2⟩ := hin v hv
      exact meet_one u1 u2 v1 v2 ha8 hb8 (fun e => h1 (e.symm ▸ hu)) (hM u hu _ h2) (hM u hu v hv)
    by_cases h1 : movedI x a b ∈ xs
    · by_cases h2 : movedI y a b ∈ xs
      · unfold rpI
        rw [if_pos (memB_mk h1), if_pos (memB_mk h2)]
        exact hM x hx y hy
      · unfold rpI
        rw [if_pos (memB_mk h1), if_neg (by rw [memB_mk0 h2]; simp), meet_comm]
        exact one y x hy hx h2 h1
    · by_cases h2 : movedI y a b ∈ xs
      · unfold rpI
        rw [if_neg (by rw [memB_mk0 h1]; simp), if_pos (memB_mk h2)]
        exact one x y hx hy h1 h2
      · unfold rpI
        rw [if_neg (by rw [memB_mk0 h1]; simp), if_neg (by rw [memB_mk0 h2]; simp)]
        have f : ∀ u, u ∈ xs → movedI u a b ∉ xs → hasB (movedI u a b) (b : Nat) = true := fun u hu h => by
          obtain ⟨u1, u2⟩ := hin u hu
          obtain ⟨ua, ub⟩ := mv_moves (a := a) (b := b) (fun e => h (e.symm ▸ hu))
          rw [mv_has u1 u2 ha8 hb8 hb8, ua, ub]
          simp
        exact mt_mk (f y hy h2) (f x hx h1)
  unfold crossB
  refine List.all_eq_true.2 fun s hs' => List.all_eq_true.2 fun t ht => ?_
  obtain ⟨x, hx, rfl⟩ := List.mem_map.1 (mem_sortL.1 hs')
  obtain ⟨y, hy, rfl⟩ := List.mem_map.1 (mem_sortL.1 ht)
  exact key x hx y hy
end Go.Proofs.YtgkbaenjniapiaaDoor
