/- readFlower, FlowerOf, FlowerFree: the program. -/
import Derived.Test.YtilkcfikmlkeaaaFl4
namespace Go.Proofs.Ytilkcfikmlkeaaa
open Go.ChangeShapes Go.WideShapes Go.ChangeAt Go.RowKit Go.Proofs

def flR (k : Int) : Bool := decide (1 ≤ k ∧ k ≤ 4)
/-- the leaves of the first flower, if the list is a family and k in its range. -/
noncomputable def flO (n : Int) (xs : List Int) (k : Int) : Option (List Int) := if famB n xs && flR k then srch pkB k.toNat xs [] else none
noncomputable def flL (n : Int) (xs : List Int) (k : Int) : List Int := (flO n xs k).getD []
theorem flo_some {n : Int} {xs : List Int} {k : Int} {R : List Int} (h : flO n xs k = some R) : famB n xs = true ∧ 1 ≤ k ∧ k ≤ 4 ∧ R.length = k.toNat ∧ flowB R = true ∧ R.Sublist xs := by
  unfold flO at h
  rcases (by cases (famB n xs && flR k) <;> simp : (famB n xs && flR k) = true ∨ (famB n xs && flR k) = false) with hc | hc
  · rw [if_pos hc] at h
    rw [Bool.and_eq_true] at hc
    obtain ⟨k1, k2⟩ := of_decide_eq_true hc.2
    obtain ⟨hf, t, e1, e2, e3⟩ := found _ _ _ _ flow_nil h
    rw [List.nil_append] at e1
    subst e1
    exact ⟨hc.1, k1, k2, e2, hf, e3⟩
  · rw [if_neg (by rw [hc]; simp)] at h; cases h
theorem sub_asc {xs R : List Int} (h : R.Sublist xs) (hA : Asc xs) : Asc R := List.Pairwise.sublist h hA
theorem core_nil : coreI [] = 0 := rfl
theorem core_bd {L : List Int} (h : ∀ z ∈ L, 0 ≤ z ∧ z < 256) : 0 ≤ coreI L ∧ coreI L < 256 := by
  unfold coreI
  rcases Nat.eq_zero_or_pos L.length with h0 | h0
  · have : L = [] := List.length_eq_zero_iff.1 h0
    subst this; exact ⟨by decide, by decide⟩
  · obtain ⟨a, b⟩ := h _ (getD_mem h0)
    exact foldl_bd _ a b
/-- what readFlower leaves. -/
def ReadFl (ok : Bool) (R : List Int) (w : World) (e : Ending) (w' : World) : Prop := ∃ v, e = .returned (.tuple #[v, .bool ok]) ∧ SetL w' w.heap.size v R ∧ Below w.heap.size w w'
set_option maxHeartbeats 4000000 in
theorem read_flower (n k : Int) (lv : Value) (xs : List Int) (S : Nat) (w : World) (hx : Row w S lv xs) (hS : S ≤ w.heap.size) (hl : xs.length ≤ 100000000) :
    Calls Try.prog 10 #[.int .i64 n, lv, .int .i64 k] w (ReadFl (famB n xs && flR k) (flL n xs k) w) := by
  have hr := Lib.hid (read_any n lv xs S w hx hS hl)
  obtain ⟨la, lc, rfl, _⟩ := id hx
  clear hx
  go_enter Try.func10, Try.ntmps10
  go_wp2_with fail
  refine hr.out.mono ?_
  rintro e w1 (⟨hf, v, rfl, hS1, hb1⟩ | ⟨hf, rfl, hb1⟩)
  · obtain ⟨a', c', rfl⟩ := hS1.form
    have hz1 := hb1.size
    by_cases hk : 1 ≤ k ∧ k ≤ 4
    · obtain ⟨k1, k2⟩ := hk
      obtain ⟨K, rfl⟩ : ∃ K : Nat, k = (K : Nat) := ⟨k.toNat, by omega⟩
      have hR : flR (K : Nat) = true := decide_eq_true ⟨k1, k2⟩
      have hL := Lib.hid (show (srch pkB K xs []).getD [] = flL n xs (K : Nat) by unfold flL flO; rw [hf, hR, Int.toNat_natCast]; rfl)
      have hB := Lib.hid (show true = (famB n xs && flR (K : Nat)) by rw [hf, hR]; rfl)
      have hb2 := hb1.alloc hz1 (.cells #[.slice a' xs.length c', (Value.func (.func 45) #[] #[])] 38)
      have hS2 := hS1.alloc (.cells #[.slice a' xs.length c', (Value.func (.func 45) #[] #[])] 38)
      have hfi := Lib.hid (first_at _ xs K _ _ hS2.rrow (Nat.le_refl _) (by omega) (famB_len hf) (famB_lt hf))
      replace hb2 := Lib.hid hb2
      replace hf := Lib.hid hf
      replace hR := Lib.hid hR
      clear hr hS1 hS2 hb1
      go_wp2_with fail
      refine hfi.out.mono ?_
      rintro e w2 ⟨v2, rfl, hS3, hb3⟩
      obtain ⟨a3, c3, rfl⟩ := hS3.form
      rw [World.size_alloc] at hS3 hb3
      replace hS3 := Lib.hid (hS3.mono (show w.heap.size ≤ w1.heap.size + 1 by omega))
      replace hb3 := Lib.hid (hb2.out.trans (hb3.mono (show w.heap.size ≤ w1.heap.size + 1 by omega)))
      go_wp2_with fail
      go_ret2
      exact ⟨_, ret_vb hB.out, hL.out ▸ hS3.out, hb3.out⟩
    · have hR : flR k = false := decide_eq_false hk
      have hL := Lib.hid (show [] = flL n xs k by unfold flL flO; rw [hR, Bool.and_false]; rfl)
      have hB := Lib.hid (show false = (famB n xs && flR k) by rw [hR, Bool.and_false])
      have hb2 := Lib.hid (hb1.alloc hz1 (.cells #[.slice a' xs.length c', (Value.func (.func 45) #[] #[])] 38))
      replace hR := Lib.hid hR
      clear hr hS1 hb1
      by_cases k1 : k < 1
      · clear hk
        go_wp2_with fail
        go_ret2
        exact ⟨_, ret_vb hB.out, hL.out ▸ SetL.nil _ _, hb2.out⟩
      · have k2 : 4 < k := by omega
        clear hk
        go_wp2_with fail
        go_ret2
        exact ⟨_, ret_vb hB.out, hL.out ▸ SetL.nil _ _, hb2.out⟩
  · have hz1 := hb1.size
    have hL := Lib.hid (show [] = flL n xs k by unfold flL flO; rw [hf, Bool.false_and]; rfl)
    have hB := Lib.hid (show false = (famB n xs && flR k) by rw [hf, Bool.false_and])
    have hb2 := Lib.hid (hb1.alloc hz1 (.cells #[.slice none 0 0, .nilFunc] 38))
    clear hr hb1 hf
    go_wp2_with fail
    go_ret2
    exact ⟨_, ret_vb hB.out, hL.out ▸ SetL.nil _ _, hb2.out⟩
/-- what FlowerOf leaves. -/
def FlowPost (L : List Int) (c : Int) (b : Bool) (w : World) (e : Ending) (w' : World) : Prop := ∃ v, e = .returned (.tuple #[v, .int .i64 c, .bool b]) ∧ Own w' w.heap.size w'.heap.size v L ∧ Below w.heap.size w w'
theorem ret_vcb {v : Value} {c c' : Int} {b b' : Bool} (h1 : c = c') (h2 : b = b') : Ending.returned (.tuple #[v, .int .i64 c, .bool b]) = .returned (.tuple #[v, .int .i64 c', .bool b']) := by rw [h1, h2]
/-- what FlowerFree says. -/
noncomputable def freB (n : Int) (xs : List Int) (k : Int) : Bool := famB n xs && flR k && (flO n xs k).isNone
set_option maxHeartbeats 4000000 in
theorem im_FlowerFree (n k : Int) (lv : Value) (xs : List Int) (S : Nat) (w : World) (hx : Row w S lv xs) (hS : S ≤ w.heap.size) (hl : xs.length ≤ 100000000) :
    Calls Try.prog 5 #[.int .i64 n, lv, .int .i64 k] w fun e w' => e = .returned (.bool (freB n xs k)) ∧ Below w.heap.size w w' := by
  have hr := read_flower n k lv xs S w hx hS hl
  obtain ⟨la, lc, rfl, _⟩ := id hx
  clear hx
  obtain ⟨o, ho⟩ : ∃ o, flO n xs k = o := ⟨_, rfl⟩
  obtain ⟨R, hL⟩ : ∃ R, flL n xs k = R := ⟨_, rfl⟩
  obtain ⟨ok, hok⟩ : ∃ ok, (famB n xs && flR k) = ok := ⟨_, rfl⟩
  have hB : freB n xs k = (ok && o.isNone) := by unfold freB; rw [hok, ho]
  have hR : (((R.length : Nat) : Int) == 0) = o.isNone := by
    rw [← hL]
    unfold flL
    rw [ho]
    cases o with
    | none => rfl
    | some R =>
      have := (flo_some ho).2.2.2.1
      have := (flo_some ho).2.1
      exact beq_eq_false_iff_ne.2 (by show ((R.length : Nat) : Int) ≠ 0; omega)
  rw [hL, hok] at hr
  obtain ⟨q, hq⟩ : ∃ q, o.isNone = q := ⟨_, rfl⟩
  rw [hq] at hB hR
  rw [hB]
  replace hr := Lib.hid hr
  replace ho := Lib.hid ho
  replace hL := Lib.hid hL
  replace hok := Lib.hid hok
  replace hq := Lib.hid hq
  replace hB := Lib.hid hB
  go_enter Try.func5, Try.ntmps5
  go_wp2_with fail
  refine hr.out.mono ?_
  rintro e w1 ⟨v1, rfl, hS1, hb1⟩
  obtain ⟨a1, c1, rfl⟩ := hS1.form
  replace hb1 := Lib.hid hb1
  clear hS1 hr
  cases ok <;> cases q
  all_goals
    first
      | (have hR0 : ¬ ((R.length : Nat) : Int) = 0 := by simpa using hR)
      | (have hR0 : ((R.length : Nat) : Int) = 0 := by simpa using hR)
    go_wp2_with fail
    go_ret
    exact ⟨rfl, hb1.out⟩
end Go.Proofs.Ytilkcfikmlkeaaa
