/- The sunflower lemma: plain mathematics. -/
import Derived.Test.YtilkcfikmlkeaaaSf1
namespace Go.Proofs.Ytilkcfikmlkeaaa
open Go.ChangeShapes Go.WideShapes Go.ChangeAt Go.RowKit Go.Proofs

theorem has_and (x y : Int) (p : Nat) : hasB (andI x y) (p : Nat) = (hasB x (p : Nat) && hasB y (p : Nat)) := by
  unfold hasB andI
  simp [Nat.testBit_and]
theorem has_or (x y : Int) (p : Nat) : hasB (orI x y) (p : Nat) = (hasB x (p : Nat) || hasB y (p : Nat)) := by
  unfold hasB orI
  simp [Nat.testBit_or]
theorem or_bd {x y : Int} (h1 : 0 ≤ x) (h2 : x < 256) (h3 : 0 ≤ y) (h4 : y < 256) : 0 ≤ orI x y ∧ orI x y < 256 := by
  have h : x.toNat ||| y.toNat < 2 ^ 8 := Nat.or_lt_two_pow (by omega) (by omega)
  unfold orI
  omega
theorem cnt_or (x y : Int) : ∀ k, cntTo (orI x y) k ≤ cntTo x k + cntTo y k
  | 0 => Nat.le_refl _
  | k + 1 => by
    have ih := cnt_or x y k
    simp only [cntTo]
    rw [has_or]
    cases hasB x (k : Nat) <;> cases hasB y (k : Nat) <;> simp <;> omega
theorem cnt_zero {x : Int} (h1 : 0 ≤ x) (h2 : x < 256) (h : cntTo x 8 = 0) : x = 0 := by
  refine Classical.byContradiction fun hne => ?_
  have hp : PartP 0 x := fun p _ hb => by unfold hasB at hb; simp at hb
  have := part_lt (x := 0) (G := x) (by omega) (by omega) h1 h2 hp (fun e => hne e.symm)
  omega
/-- sets, each without a common point with those ahead, taken one by one. -/
def grd : Int → List Int → List Int
  | _, [] => []
  | u, x :: xs => if andI x u = 0 then x :: grd (orI u x) xs else grd u xs
/-- their union. -/
def grU : Int → List Int → Int
  | u, [] => u
  | u, x :: xs => if andI x u = 0 then grU (orI u x) xs else grU u xs
theorem grd_sub : ∀ (xs : List Int) (u : Int), (grd u xs).Sublist xs
  | [], _ => List.Sublist.refl _
  | x :: xs, u => by
    unfold grd
    by_cases h : andI x u = 0
    · rw [if_pos h]; exact (grd_sub xs _).cons_cons x
    · rw [if_neg h]; exact (grd_sub xs _).cons x
theorem grd_off : ∀ (xs : List Int) (u : Int) (y : Int), y ∈ grd u xs → ∀ p : Nat, hasB u (p : Nat) = true → hasB y (p : Nat) = false
  | [], _, y, hy, _, _ => by simp [grd] at hy
  | x :: xs, u, y, hy, p, hp => by
    unfold grd at hy
    by_cases h : andI x u = 0
    · rw [if_pos h] at hy
      rcases List.mem_cons.1 hy with rfl | hy
      · have e := has_and y u p
        rw [h, hp, Bool.and_true] at e
        rw [← e]
        unfold hasB
        simp
      · exact grd_off xs _ y hy p (by rw [has_or, hp]; rfl)
    · rw [if_neg h] at hy
      exact grd_off xs u y hy p hp
theorem and_zero {x y : Int} (h : ∀ p : Nat, hasB x (p : Nat) = true → hasB y (p : Nat) = false) : andI y x = 0 := by
  unfold andI
  have : y.toNat &&& x.toNat = 0 := by
    refine Nat.eq_of_testBit_eq (fun p => ?_)
    rw [Nat.testBit_and, Nat.zero_testBit]
    have := h p
    unfold hasB at this
    rw [Int.toNat_natCast] at this
    cases hx : x.toNat.testBit p
    · simp
    · rw [this hx]; rfl
  rw [this]
  rfl
theorem grd_pair : ∀ (xs : List Int) (u : Int), (grd u xs).Pairwise (fun x y => andI y x = 0)
  | [], _ => List.Pairwise.nil
  | x :: xs, u => by
    unfold grd
    by_cases h : andI x u = 0
    · rw [if_pos h, List.pairwise_cons]
      refine ⟨fun y hy => and_zero (fun p hp => grd_off xs _ y hy p (by rw [has_or, hp]; simp)), grd_pair xs _⟩
    · rw [if_neg h]; exact grd_pair xs u
theorem grU_up : ∀ (xs : List Int) (u : Int) (p : Nat), hasB u (p : Nat) = true → hasB (grU u xs) (p : Nat) = true
  | [], _, _, h => h
  | x :: xs, u, p, h => by
    unfold grU
    by_cases h0 : andI x u = 0
    · rw [if_pos h0]; exact grU_up xs _ p (by rw [has_or, h]; rfl)
    · rw [if_neg h0]; exact grU_up xs u p h
theorem has_some {x : Int} (h1 : 0 ≤ x) (h2 : x < 256) (h : x ≠ 0) : ∃ p : Nat, p < 8 ∧ hasB x (p : Nat) = true := by
  refine Classical.byContradiction fun hc => h ?_
  refine bits_ext h1 h2 (Int.le_refl 0) (by omega) (fun p hp => ?_)
  rcases (by cases hasB x (p : Nat) <;> simp : hasB x (p : Nat) = true ∨ hasB x (p : Nat) = false) with hh | hh
  · exact absurd ⟨p, hp, hh⟩ hc
  · rw [hh]; unfold hasB; simp
/-- each set meets the union. -/
theorem grU_meet : ∀ (xs : List Int) (u : Int), (∀ x ∈ xs, 0 ≤ x ∧ x < 256 ∧ x ≠ 0) → ∀ x ∈ xs, ∃ p : Nat, p < 8 ∧ hasB x (p : Nat) = true ∧ hasB (grU u xs) (p : Nat) = true
  | [], _, _, x, hx => by cases hx
  | y :: xs, u, hz, x, hx => by
    have ih := fun u => grU_meet xs u (fun z hzz => hz z (List.mem_cons_of_mem _ hzz))
    obtain ⟨y1, y2, y3⟩ := hz y (List.mem_cons_self ..)
    unfold grU
    by_cases h : andI y u = 0
    · rw [if_pos h]
      rcases List.mem_cons.1 hx with rfl | hx
      · obtain ⟨p, hp, hb⟩ := has_some y1 y2 y3
        exact ⟨p, hp, hb, grU_up xs _ p (by rw [has_or, hb]; simp)⟩
      · exact ih _ x hx
    · rw [if_neg h]
      rcases List.mem_cons.1 hx with rfl | hx
      · have hb := andI_nn x u
        have hb2 : andI x u < 256 := by
          have : x.toNat &&& u.toNat ≤ x.toNat := Nat.and_le_left
          unfold andI
          omega
        obtain ⟨p, hp, hh⟩ := has_some hb hb2 h
        rw [has_and, Bool.and_eq_true] at hh
        exact ⟨p, hp, hh.1, grU_up xs u p hh.2⟩
      · exact ih _ x hx
theorem grU_cnt {s : Nat} : ∀ (xs : List Int) (u : Int), (∀ x ∈ xs, cntTo x 8 ≤ s) → cntTo (grU u xs) 8 ≤ cntTo u 8 + (grd u xs).length * s
  | [], _, _ => by simp [grU, grd]
  | x :: xs, u, h => by
    have ih := fun u => grU_cnt (s := s) xs u (fun z hz => h z (List.mem_cons_of_mem _ hz))
    unfold grU grd
    by_cases h0 : andI x u = 0
    · rw [if_pos h0, if_pos h0, List.length_cons, Nat.add_mul, Nat.one_mul]
      have a := ih (orI u x)
      have b := cnt_or u x 8
      have c := h x (List.mem_cons_self ..)
      omega
    · rw [if_neg h0, if_neg h0]; exact ih u
/-- how many sets at most, if each of some has one of the points. -/
theorem cover (U : Int) : ∀ xs : List Int, (∀ x ∈ xs, ∃ p : Nat, p < 8 ∧ hasB x (p : Nat) = true ∧ hasB U (p : Nat) = true) →
    xs.length ≤ ((List.range 8).map (fun p => if hasB U (p : Nat) then xs.countP (fun x => hasB x (p : Nat)) else 0)).sum
  | [], _ => Nat.zero_le _
  | x :: xs, h => by
    have ih := cover U xs (fun y hy => h y (List.mem_cons_of_mem _ hy))
    obtain ⟨p, hp, hx, hU⟩ := h x (List.mem_cons_self ..)
    have e : ((List.range 8).map (fun p => if hasB U (p : Nat) then (x :: xs).countP (fun x => hasB x (p : Nat)) else 0)) = (List.range 8).map (fun p => (fun q : Nat => if hasB U (q : Nat) then xs.countP (fun x => hasB x (q : Nat)) else 0) p + (fun q : Nat => if (fun r : Nat => hasB U (r : Nat) && hasB x (r : Nat)) q then 1 else 0) p) := by
      refine List.map_congr_left (fun p _ => ?_)
      rw [List.countP_cons]
      cases hg : hasB U (p : Nat) <;> cases hb : hasB x (p : Nat) <;> simp [hg, hb]
    rw [e, sum_add, sum_if, List.length_cons]
    have : 0 < (List.range 8).countP (fun r : Nat => hasB U (r : Nat) && hasB x (r : Nat)) := List.countP_pos_iff.2 ⟨p, List.mem_range.2 hp, by rw [hU, hx]; rfl⟩
    omega
def fctN : Nat → Nat
  | 0 => 1
  | s + 1 => (s + 1) * fctN s
theorem sun (k : Nat) (k1 : 1 ≤ k) : ∀ (s : Nat) (xs : List Int), xs.Nodup → (∀ x ∈ xs, 0 ≤ x ∧ x < 256 ∧ cntTo x 8 = s) → fctN s * (k - 1) ^ s < xs.length → ∃ (t : List Int) (c : Int), t.Sublist xs ∧ t.length = k ∧ t.Pairwise (fun x y => andI y x = c)
  | 0, xs, hn, hx, hl => by
    exfalso
    match xs, hn, hx, hl with
    | [], _, _, hl => simp [fctN] at hl
    | [x], _, _, hl => simp [fctN] at hl
    | x :: y :: r, hn, hx, _ =>
      rw [List.nodup_cons] at hn
      have a := hx x (by simp)
      have b := hx y (by simp)
      have e1 := cnt_zero a.1 a.2.1 a.2.2
      have e2 := cnt_zero b.1 b.2.1 b.2.2
      exact hn.1 (by rw [e1, ← e2]; simp)
  | s + 1, xs, hn, hx, hl => by
    have hne : ∀ x ∈ xs, 0 ≤ x ∧ x < 256 ∧ x ≠ 0 := fun x h => ⟨(hx x h).1, (hx x h).2.1, fun e => by
      have := (hx x h).2.2
      rw [e] at this
      have z : cntTo 0 8 = 0 := by decide
      omega⟩
    by_cases hk : k ≤ (grd 0 xs).length
    · exact ⟨(grd 0 xs).take k, 0, (List.take_sublist _ _).trans (grd_sub xs 0), by rw [List.length_take]; omega, (grd_pair xs 0).sublist (List.take_sublist _ _)⟩
    · have hU := grU_cnt (s := s + 1) xs 0 (fun x h => by rw [(hx x h).2.2]; exact Nat.le_refl _)
      have z : cntTo 0 8 = 0 := by decide
      have hm := cover (grU 0 xs) xs (grU_meet xs 0 hne)
      -- one point lies in many sets
      have hp : ∃ p : Nat, p < 8 ∧ fctN s * (k - 1) ^ s < xs.countP (fun x => hasB x (p : Nat)) := by
        refine Classical.byContradiction fun hc => ?_
        have hle : ((List.range 8).map (fun p => if hasB (grU 0 xs) (p : Nat) then xs.countP (fun x => hasB x (p : Nat)) else 0)).sum ≤ ((List.range 8).map (fun p => if (fun q : Nat => hasB (grU 0 xs) (q : Nat)) p then fctN s * (k - 1) ^ s else 0)).sum := by
          refine sum_le (fun p hp => ?_)
          have hp8 := List.mem_range.1 hp
          have h1 : xs.countP (fun x => hasB x (p : Nat)) ≤ fctN s * (k - 1) ^ s := Classical.byContradiction fun h => hc ⟨p, hp8, by omega⟩
          cases hg : hasB (grU 0 xs) (p : Nat) <;> simp [hg]
          exact h1
        rw [sum_if, cnt_range] at hle
        have h3 : cntTo (grU 0 xs) 8 ≤ (k - 1) * (s + 1) := by
          have : (grd 0 xs).length * (s + 1) ≤ (k - 1) * (s + 1) := Nat.mul_le_mul_right _ (by omega)
          omega
        have h4 : cntTo (grU 0 xs) 8 * (fctN s * (k - 1) ^ s) ≤ (k - 1) * (s + 1) * (fctN s * (k - 1) ^ s) := Nat.mul_le_mul_right _ h3
        have h5 : (k - 1) * (s + 1) * (fctN s * (k - 1) ^ s) = fctN (s + 1) * (k - 1) ^ (s + 1) := by
          show (k - 1) * (s + 1) * (fctN s * (k - 1) ^ s) = (s + 1) * fctN s * (k - 1) ^ (s + 1)
          rw [Nat.pow_succ]
          ac_rfl
        omega
      obtain ⟨p, hp8, hbig⟩ := hp
      have eq : ∀ x ∈ xs.filter (fun x => hasB x (p : Nat)), 0 ≤ x ∧ x < 256 ∧ cntTo x 8 = s + 1 ∧ hasB x (p : Nat) = true := fun x h => by
        obtain ⟨a, b⟩ := List.mem_filter.1 h
        exact ⟨(hx x a).1, (hx x a).2.1, (hx x a).2.2, b⟩
      have lb : ∀ x, 0 ≤ x → x < 256 → ∀ q : Nat, q < 8 → hasB (lessI x (p : Nat)) (q : Nat) = (hasB x (q : Nat) && decide (q ≠ p)) := fun x h1 h2 q hq => by
        have h := less_bits ⟨x.toNat, by omega⟩ ⟨p, hp8⟩ ⟨q, hq⟩
        have e : ((x.toNat : Nat) : Int) = x := Int.toNat_of_nonneg h1
        simp only [e] at h
        exact h
      have inj : ∀ x ∈ xs.filter (fun x => hasB x (p : Nat)), ∀ y ∈ xs.filter (fun x => hasB x (p : Nat)), lessI x (p : Nat) = lessI y (p : Nat) → x = y := fun x hx1 y hy1 e => by
        obtain ⟨a1, a2, _, a4⟩ := eq x hx1
        obtain ⟨b1, b2, _, b4⟩ := eq y hy1
        refine bits_ext a1 a2 b1 b2 (fun q hq => ?_)
        by_cases hqp : q = p
        · subst hqp; rw [a4, b4]
        · have h1 := lb x a1 a2 q hq
          have h2 := lb y b1 b2 q hq
          rw [e, h2] at h1
          simpa [hqp] using h1.symm
      have hn2 : ((xs.filter (fun x => hasB x (p : Nat))).map (fun x => lessI x (p : Nat))).Nodup := by
        unfold List.Nodup
        rw [List.pairwise_map]
        exact List.Pairwise.imp_of_mem (fun ha hb hne e => hne (inj _ ha _ hb e)) (hn.filter _)
      obtain ⟨t, c, ht, htk, htp⟩ := sun k k1 s _ hn2 (fun x h => by
        obtain ⟨y, hy, rfl⟩ := List.mem_map.1 h
        obtain ⟨a1, a2, a3, a4⟩ := eq y hy
        have hl := less_lt (s := y) (p := (p : Nat)) a1 a2 (by omega) (by omega)
        have hc := less_cnt ⟨y.toNat, by omega⟩ ⟨p, hp8⟩
        have e : ((y.toNat : Nat) : Int) = y := Int.toNat_of_nonneg a1
        simp only [e] at hc
        have := hc a4
        exact ⟨hl.1, hl.2, by omega⟩) (by rw [List.length_map, ← List.countP_eq_length_filter]; exact hbig)
      obtain ⟨t', ht', rfl⟩ := List.sublist_map_iff.1 ht
      rw [List.length_map] at htk
      rw [List.pairwise_map] at htp
      refine ⟨t', orI c (2 ^ p), ht'.trans List.filter_sublist, htk, ?_⟩
      refine List.Pairwise.imp_of_mem ?_ htp
      intro x y hx1 hy1 h
      obtain ⟨a1, a2, _, a4⟩ := eq x (ht'.subset hx1)
      obtain ⟨b1, b2, _, b4⟩ := eq y (ht'.subset hy1)
      have c1 : 0 ≤ c ∧ c < 256 := by
        rw [← h]
        have hl := less_lt (s := y) (p := (p : Nat)) b1 b2 (by omega) (by omega)
        have : (lessI y (p : Nat)).toNat &&& (lessI x (p : Nat)).toNat ≤ (lessI y (p : Nat)).toNat := Nat.and_le_left
        unfold andI
        omega
      have two : (0 : Int) ≤ 2 ^ p ∧ (2 : Int) ^ p < 256 := by
        have := pow8 (p := (p : Nat)) (by omega) (by omega)
        rw [Int.toNat_natCast] at this
        omega
      have ob := or_bd c1.1 c1.2 two.1 two.2
      have ab : andI y x < 256 := by
        have : y.toNat &&& x.toNat ≤ y.toNat := Nat.and_le_left
        unfold andI
        omega
      refine bits_ext (andI_nn _ _) ab ob.1 ob.2 (fun q hq => ?_)
      have h2 : hasB (2 ^ p) (q : Nat) = decide (q = p) := by
        unfold hasB
        rw [show ((2 : Int) ^ p) = ((2 ^ p : Nat) : Int) by simp, Int.toNat_natCast, Int.toNat_natCast, Nat.testBit_two_pow]
        exact decide_eq_decide.2 ⟨fun e => e.symm, fun e => e.symm⟩
      rw [has_and, has_or, h2, ← h, has_and, lb y b1 b2 q hq, lb x a1 a2 q hq]
      by_cases hqp : q = p
      · subst hqp; rw [a4, b4]; simp
      · simp [hqp]
end Go.Proofs.Ytilkcfikmlkeaaa
