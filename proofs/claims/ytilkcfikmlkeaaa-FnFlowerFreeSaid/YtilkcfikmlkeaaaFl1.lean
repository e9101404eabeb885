/- Flowers as plain mathematics. -/
import Derived.Test.YtilkcfikmlkeaaaIs1
namespace Go.Proofs.Ytilkcfikmlkeaaa
open Go.ChangeShapes Go.WideShapes Go.ChangeAt Go.RowKit Go.Proofs

theorem andI_comm (x y : Int) : andI x y = andI y x := by unfold andI; rw [Nat.and_comm]
theorem andI_absorb (x y : Int) : andI (andI x y) y = andI x y := by
  unfold andI
  simp only [Int.toNat_natCast]
  rw [Nat.and_assoc, Nat.and_self]
theorem andI_nn (x y : Int) : 0 ≤ andI x y := by unfold andI; omega
theorem foldl_bd {x : Int} (t : List Int) (h1 : 0 ≤ x) (h2 : x < 256) : 0 ≤ t.foldl andI x ∧ t.foldl andI x < 256 := by
  induction t generalizing x with
  | nil => exact ⟨h1, h2⟩
  | cons a t ih =>
    obtain ⟨a1, a2⟩ := andI_bd a h1 h2
    exact ih a1 a2
/-- the common part of all. -/
def coreI (L : List Int) : Int := (L.drop 1).foldl andI (L.getD 0 0)
theorem getD_app {L : List Int} {x : Int} {i : Nat} (h : i < L.length) : (L ++ [x]).getD i 0 = L.getD i 0 := by
  simp [List.getD, List.getElem?_append_left h]
theorem getD_end (L : List Int) (x : Int) : (L ++ [x]).getD L.length 0 = x := by
  simp [List.getD]
theorem core_snoc {L : List Int} (h : 0 < L.length) (x : Int) : coreI (L ++ [x]) = andI (coreI L) x := by
  unfold coreI
  rw [getD_app h, List.drop_append_of_le_length (by omega), List.foldl_append]
  rfl
/-- each two of the first k have the common part c. -/
def FlTo (c : Int) (L : List Int) (k : Nat) : Prop := ∀ i, i < k → ∀ j, j < i → andI (L.getD i 0) (L.getD j 0) = c
noncomputable def flowB (L : List Int) : Bool := @decide (FlTo (coreI L) L L.length) (Classical.propDecidable _)
theorem flow_yes {L : List Int} (h : FlTo (coreI L) L L.length) : flowB L = true := @decide_eq_true _ (Classical.propDecidable _) h
theorem flow_out {L : List Int} (h : flowB L = true) : FlTo (coreI L) L L.length := @of_decide_eq_true _ (Classical.propDecidable _) h
theorem flow_no {L : List Int} {i j : Nat} {x z : Int} (hi : i < L.length) (hj : j < i) (hx : L.getD i 0 = x) (hz : L.getD j 0 = z) (h : andI x z ≠ coreI L) : flowB L = false :=
  @decide_eq_false _ (Classical.propDecidable _) fun hh => h (by have := hh i hi j hj; rwa [hx, hz] at this)
/-- the i-th against those ahead of it, up to k. -/
def FlRow (c x : Int) (L : List Int) (k : Nat) : Prop := ∀ j, j < k → andI x (L.getD j 0) = c
theorem flrow_step {c x z : Int} {L : List Int} {k : Nat} (h : FlRow c x L k) (hz : L.getD k 0 = z) (hv : andI x z = c) : FlRow c x L (k + 1) := fun j hj => by
  by_cases e : j = k
  · subst e; rw [hz]; exact hv
  · exact h j (by omega)
theorem flto_step {c x : Int} {L : List Int} {k : Nat} (h : FlTo c L k) (hx : L.getD k 0 = x) (hr : FlRow c x L k) : FlTo c L (k + 1) := fun i hi => by
  by_cases e : i = k
  · subst e; rw [hx]; exact hr
  · exact h i (by omega)
/-- the model's test of one set more. -/
def OkTo (L : List Int) (x : Int) (k : Nat) : Prop := ∀ j, j < k → andI (L.getD j 0) x = andI (L.getD 0 0) x ∧ (0 < j → andI (L.getD j 0) x = andI (L.getD 0 0) (L.getD 1 0))
noncomputable def okTo (L : List Int) (x : Int) (k : Nat) : Bool := @decide (OkTo L x k) (Classical.propDecidable _)
theorem ok_yes {L : List Int} {x : Int} {k : Nat} (h : OkTo L x k) : okTo L x k = true := @decide_eq_true _ (Classical.propDecidable _) h
theorem ok_out {L : List Int} {x : Int} {k : Nat} (h : okTo L x k = true) : OkTo L x k := @of_decide_eq_true _ (Classical.propDecidable _) h
theorem ok_no {L : List Int} {x : Int} {k : Nat} (h : ¬ OkTo L x k) : okTo L x k = false := @decide_eq_false _ (Classical.propDecidable _) h
theorem ok_step {L : List Int} {x z : Int} {k : Nat} (hz : L.getD k 0 = z) : okTo L x (k + 1) = (okTo L x k && decide (andI z x = andI (L.getD 0 0) x) && (!decide (0 < k) || decide (andI z x = andI (L.getD 0 0) (L.getD 1 0)))) := by
  rw [Bool.eq_iff_iff]
  simp only [Bool.and_eq_true, decide_eq_true_eq, Bool.or_eq_true, Bool.not_eq_true', decide_eq_false_iff_not]
  constructor
  · intro h
    have h := ok_out h
    have h1 := h k (by omega)
    rw [hz] at h1
    refine ⟨⟨ok_yes fun j hj => h j (by omega), h1.1⟩, ?_⟩
    by_cases hk : 0 < k
    · exact .inr (h1.2 hk)
    · exact .inl hk
  · rintro ⟨⟨h, h1⟩, h2⟩
    refine ok_yes fun j hj => ?_
    by_cases e : j = k
    · subst e
      rw [hz]
      refine ⟨h1, fun hj0 => ?_⟩
      rcases h2 with h2 | h2
      · exact absurd hj0 h2
      · exact h2
    · exact ok_out h j (by omega)
noncomputable def okB (L : List Int) (x : Int) : Bool := okTo L x L.length
theorem flow_nil : flowB [] = true := flow_yes fun i hi => by simp at hi
theorem ok_eq {L : List Int} (x : Int) (h : flowB L = true) : flowB (L ++ [x]) = okB L x := by
  have hF := flow_out h
  unfold okB
  rw [Bool.eq_iff_iff]
  rcases (by omega : L.length = 0 ∨ L.length = 1 ∨ 2 ≤ L.length) with h0 | h1 | h2
  · have hL : L = [] := List.length_eq_zero_iff.1 h0
    subst hL
    refine ⟨fun _ => ok_yes fun j hj => by simp at hj, fun _ => flow_yes fun i hi j hj => ?_⟩
    simp at hi; omega
  · refine ⟨fun _ => ok_yes fun j hj => ?_, fun _ => flow_yes fun i hi j hj => ?_⟩
    · obtain rfl : j = 0 := by omega
      exact ⟨rfl, fun h => by omega⟩
    · rw [List.length_append, List.length_singleton] at hi
      obtain rfl : i = 1 := by omega
      obtain rfl : j = 0 := by omega
      have e1 : (L ++ [x]).getD 1 0 = x := by have := getD_end L x; rwa [h1] at this
      rw [e1, getD_app (by omega), core_snoc (by omega), andI_comm]
      congr 1
      unfold coreI
      rw [List.drop_of_length_le (by omega)]; rfl
  · have hc := hF 1 (by omega) 0 (by omega)
    have hlen : (L ++ [x]).length = L.length + 1 := by simp
    have hcs := core_snoc (L := L) (by omega) x
    constructor
    · intro hh
      have hh := flow_out hh
      rw [hlen, hcs] at hh
      have ha : ∀ j, j < L.length → andI (L.getD j 0) x = andI (coreI L) x := fun j hj => by
        have := hh L.length (by omega) j hj
        rw [getD_end, getD_app hj, andI_comm] at this
        exact this
      have hb := hh 1 (by omega) 0 (by omega)
      rw [getD_app (by omega), getD_app (by omega), hc] at hb
      refine ok_yes fun j hj => ⟨by rw [ha j hj, ha 0 (by omega)], fun _ => ?_⟩
      rw [ha j hj, ← hb, ← hc, andI_comm]
    · intro hh
      have hh := ok_out hh
      have h1 := hh 1 (by omega)
      have h3 := h1.2 (by omega)
      rw [andI_comm (L.getD 0 0), hc] at h3
      have hx0 : andI (L.getD 0 0) x = coreI L := h1.1.symm.trans h3
      have ha : ∀ j, j < L.length → andI (L.getD j 0) x = coreI L := fun j hj => (hh j hj).1.trans hx0
      have hcx : andI (coreI L) x = coreI L := by
        have := andI_absorb (L.getD 1 0) x
        rw [h3] at this
        exact this
      refine flow_yes fun i hi j hj => ?_
      rw [hlen] at hi
      rw [hcs, hcx]
      by_cases e : i = L.length
      · subst e
        rw [getD_end, getD_app (by omega), andI_comm]
        exact ha j (by omega)
      · rw [getD_app (by omega), getD_app (by omega)]
        exact hF i (by omega) j hj
/-- a search: sets of the rest, one behind the other, that go on with a list. -/
def stepS (g : List Int → List Int → Option (List Int)) (ok : List Int → Int → Bool) (L : List Int) : List Int → Option (List Int)
  | [] => none
  | x :: rest => if ok L x then (match g rest (L ++ [x]) with | some R => some R | none => stepS g ok L rest) else stepS g ok L rest
def srch (ok : List Int → Int → Bool) : Nat → List Int → List Int → Option (List Int)
  | 0, _, L => some L
  | d + 1, rest, L => stepS (srch ok d) ok L rest
theorem step_none (g : List Int → List Int → Option (List Int)) (ok : List Int → Int → Bool) (L : List Int) {ys : List Int} {k : Nat} (h : ys.length ≤ k) : stepS g ok L (ys.drop k) = none := by
  rw [List.drop_of_length_le h]; rfl
theorem drop_at {ys : List Int} {k : Nat} {x : Int} (hk : k < ys.length) (hx : ys.getD k 0 = x) : ys.drop k = x :: ys.drop (k + 1) := by
  rw [List.drop_eq_getElem_cons hk]
  congr 1
  rw [← hx]; simp [List.getD, hk]
theorem step_no {g : List Int → List Int → Option (List Int)} {ok : List Int → Int → Bool} {L ys : List Int} {k : Nat} {x : Int} (hk : k < ys.length) (hx : ys.getD k 0 = x) (h : ok L x = false) : stepS g ok L (ys.drop k) = stepS g ok L (ys.drop (k + 1)) := by
  rw [drop_at hk hx]
  conv => lhs; unfold stepS
  rw [h, if_neg (by simp)]
theorem step_miss {g : List Int → List Int → Option (List Int)} {ok : List Int → Int → Bool} {L ys : List Int} {k : Nat} {x : Int} (hk : k < ys.length) (hx : ys.getD k 0 = x) (h : ok L x = true) (hg : g (ys.drop (k + 1)) (L ++ [x]) = none) : stepS g ok L (ys.drop k) = stepS g ok L (ys.drop (k + 1)) := by
  rw [drop_at hk hx]
  conv => lhs; unfold stepS
  rw [h, if_pos rfl, hg]
theorem step_hit {g : List Int → List Int → Option (List Int)} {ok : List Int → Int → Bool} {L ys R : List Int} {k : Nat} {x : Int} (hk : k < ys.length) (hx : ys.getD k 0 = x) (h : ok L x = true) (hg : g (ys.drop (k + 1)) (L ++ [x]) = some R) : stepS g ok L (ys.drop k) = some R := by
  rw [drop_at hk hx]
  conv => lhs; unfold stepS
  rw [h, if_pos rfl, hg]
/-- the program's test. -/
noncomputable def pkB (L : List Int) (x : Int) : Bool := flowB (L ++ [x])
theorem srch_eq : ∀ (d : Nat) (rest L : List Int), flowB L = true → srch pkB d rest L = srch okB d rest L
  | 0, _, _, _ => rfl
  | d + 1, rest, L, h => by
    show stepS (srch pkB d) pkB L rest = stepS (srch okB d) okB L rest
    induction rest with
    | nil => rfl
    | cons x rest ih =>
      have e : pkB L x = okB L x := ok_eq x h
      unfold stepS
      rw [e, ih]
      rcases (by cases okB L x <;> simp : okB L x = true ∨ okB L x = false) with hk | hk
      · rw [hk, if_pos rfl, if_pos rfl, srch_eq d rest (L ++ [x]) (e.trans hk)]
      · rw [hk, if_neg (by simp), if_neg (by simp)]
/-- what a search finds. -/
structure Found (d : Nat) (rest L R : List Int) : Prop where
  flow : flowB R = true
  ex : ∃ t, R = L ++ t ∧ t.length = d ∧ t.Sublist rest
theorem found : ∀ (d : Nat) (rest L R : List Int), flowB L = true → srch pkB d rest L = some R → Found d rest L R
  | 0, rest, L, R, h, e => by
    have e : some L = some R := e
    injection e with e
    subst e
    exact ⟨h, [], by simp, rfl, List.nil_sublist _⟩
  | d + 1, rest, L, R, h, e => by
    replace e : stepS (srch pkB d) pkB L rest = some R := e
    induction rest with
    | nil => cases e
    | cons x rest ih =>
      unfold stepS at e
      rcases (by cases pkB L x <;> simp : pkB L x = true ∨ pkB L x = false) with hk | hk
      · rw [hk, if_pos rfl] at e
        cases hg : srch pkB d rest (L ++ [x]) with
        | some R' =>
          rw [hg] at e
          injection e with e
          subst e
          obtain ⟨hf, t, e1, e2, e3⟩ := found d rest (L ++ [x]) R' hk hg
          exact ⟨hf, x :: t, by rw [e1]; simp, by simp [e2], e3.cons_cons x⟩
        | none =>
          rw [hg] at e
          obtain ⟨hf, t, e1, e2, e3⟩ := ih e
          exact ⟨hf, t, e1, e2, e3.cons x⟩
      · rw [hk, if_neg (by simp)] at e
        obtain ⟨hf, t, e1, e2, e3⟩ := ih e
        exact ⟨hf, t, e1, e2, e3.cons x⟩
theorem core_one {R : List Int} (h : R.length = 1) : coreI R = R.getD 0 0 := by
  unfold coreI
  rw [List.drop_of_length_le (by omega)]; rfl
theorem core_two {R : List Int} (hf : flowB R = true) (h : 2 ≤ R.length) : coreI R = andI (R.getD 0 0) (R.getD 1 0) := by
  have := flow_out hf 1 (by omega) 0 (by omega)
  rw [andI_comm] at this
  exact this.symm
end Go.Proofs.Ytilkcfikmlkeaaa
