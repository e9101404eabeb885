/- readFlower, FlowerOf, FlowerFree: the program. -/
import Derived.Test.YtgkbaenjniapiaaFl4
namespace Go.Proofs.Ytgkbaenjniapiaa
open Go.ChangeShapes Go.WideShapes Go.ChangeAt Go.RowKit Go.Proofs

def flR (k : Int) : Bool := decide (1 ≤ k ∧ k ≤ 4)
/-- the leaves of the first flower, if the list is a family and k in its range. -/
noncomputable def flO (n : Int) (xs : List Int) (k : Int) : Option (List Int) := if famB n xs && flR k then srch pkB k.toNat xs [] else none
noncomputable def flL (n : Int) (xs : List Int) (k : Int) : List Int := (flO n xs k).getD []
theorem flo_some {n : Int} {xs : List Int} {k : Int} {R : List Int} (h : flO n xs k = some R) : famB n xs = true ∧ 1 ≤ k ∧ k ≤ 4 ∧ R.length = k.toNat ∧ flowB R = true ∧ R.Sublist xs := by
  unfold flO at h
  rcases (by cases (famB n xs && flR k) <;> simp : (famB n xs && flR k) = true ∨ (famB n xs && flR k) = false) with hc | hc
  · rw [if_pos hc] at h
    rw [Bool.and_eq_true] at hc
    obtain ⟨k1, k2⟩ := of_decide_eq_true hc.2
    obtain ⟨hf, t, e1, e2, e3⟩ := found _ _ _ _ flow_nil h
    rw [List.nil_append] at e1
    subst e1
    exact ⟨hc.1, k1, k2, e2, hf, e3⟩
  · rw [if_neg (by rw [hc]; simp)] at h; cases h
theorem sub_asc {xs R : List Int} (h : R.Sublist xs) (hA : Asc xs) : Asc R := List.Pairwise.sublist h hA
theorem core_nil : coreI [] = 0 := rfl
theorem core_bd {L : List Int} (h : ∀ z ∈ L, 0 ≤ z ∧ z < 256) : 0 ≤ coreI L ∧ coreI L < 256 := by
  unfold coreI
  rcases Nat.eq_zero_or_pos L.length with h0 | h0
  · have : L = [] := List.length_eq_zero_iff.1 h0
    subst this; exact ⟨by decide, by decide⟩
  · obtain ⟨a, b⟩ := h _ (getD_mem h0)
    exact foldl_bd _ a b
/-- what readFlower leaves. -/
def ReadFl (ok : Bool) (R : List Int) (w : World) (e : Ending) (w' : World) : Prop := ∃ v, e = .returned (.tuple #[v, .bool ok]) ∧ SetL w' w.heap.size v R ∧ Below w.heap.size w w'
set_option maxHeartbeats 4000000 in
theorem read_flower (n k : Int) (lv : Value) (xs : List Int) (S : Nat) (w : World) (hx : Row w S lv xs) (hS : S ≤ w.heap.size) (hl : xs.length ≤ 100000000) :
    Calls Try.prog 36 #[.int .i64 n, lv, .int .i64 k] w (ReadFl (famB n xs && flR k) (flL n xs k) w) := by
  have hr := Lib.hid (read_any n lv xs S w hx hS hl)
  obtain ⟨la, lc, rfl, _⟩ := id hx
  clear hx
  go_enter Try.func36, Try.ntmps36
  go_wp2_with fail
  refine hr.out.mono ?_
  rintro e w1 (⟨hf, v, rfl, hS1, hb1⟩ | ⟨hf, rfl, hb1⟩)
  · obtain ⟨a', c', rfl⟩ := hS1.form
    have hz1 := hb1.size
    by_cases hk : 1 ≤ k ∧ k ≤ 4
    · obtain ⟨k1, k2⟩ := hk
      obtain ⟨K, rfl⟩ : ∃ K : Nat, k = (K : Nat) := ⟨k.toNat, by omega⟩
      have hR : flR (K : Nat) = true := decide_eq_true ⟨k1, k2⟩
      have hL := Lib.hid (show (srch pkB K xs []).getD [] = flL n xs (K : Nat) by unfold flL flO; rw [hf, hR, Int.toNat_natCast]; rfl)
      have hB := Lib.hid (show true = (famB n xs && flR (K : Nat)) by rw [hf, hR]; rfl)
      have hb2 := hb1.alloc hz1 (.cells #[.slice a' xs.length c', (Value.func (.func 71) #[] #[])] 43)
      have hS2 := hS1.alloc (.cells #[.slice a' xs.length c', (Value.func (.func 71) #[] #[])] 43)
      have hfi := Lib.hid (first_at _ xs K _ _ hS2.rrow (Nat.le_refl _) (by omega) (famB_len hf) (famB_lt hf))
      replace hb2 := Lib.hid hb2
      replace hf := Lib.hid hf
      replace hR := Lib.hid hR
      clear hr hS1 hS2 hb1
      go_wp2_with fail
      refine hfi.out.mono ?_
      rintro e w2 ⟨v2, rfl, hS3, hb3⟩
      obtain ⟨a3, c3, rfl⟩ := hS3.form
      rw [World.size_alloc] at hS3 hb3
      replace hS3 := Lib.hid (hS3.mono (show w.heap.size ≤ w1.heap.size + 1 by omega))
      replace hb3 := Lib.hid (hb2.out.trans (hb3.mono (show w.heap.size ≤ w1.heap.size + 1 by omega)))
      go_wp2_with fail
      go_ret2
      exact ⟨_, ret_vb hB.out, hL.out ▸ hS3.out, hb3.out⟩
    · have hR : flR k = false := decide_eq_false hk
      have hL := Lib.hid (show [] = flL n xs k by unfold flL flO; rw [hR, Bool.and_false]; rfl)
      have hB := Lib.hid (show false = (famB n xs && flR k) by rw [hR, Bool.and_false])
      have hb2 := Lib.hid (hb1.alloc hz1 (.cells #[.slice a' xs.length c', (Value.func (.func 71) #[] #[])] 43))
      replace hR := Lib.hid hR
      clear hr hS1 hb1
      by_cases k1 : k < 1
      · clear hk
        go_wp2_with fail
        go_ret2
        exact ⟨_, ret_vb hB.out, hL.out ▸ SetL.nil _ _, hb2.out⟩
      · have k2 : 4 < k := by omega
        clear hk
        go_wp2_with fail
        go_ret2
        exact ⟨_, ret_vb hB.out, hL.out ▸ SetL.nil _ _, hb2.out⟩
  · have hz1 := hb1.size
    have hL := Lib.hid (show [] = flL n xs k by unfold flL flO; rw [hf, Bool.false_and]; rfl)
    have hB := Lib.hid (show false = (famB n xs && flR k) by rw [hf, Bool.false_and])
    have hb2 := Lib.hid (hb1.alloc hz1 (.cells #[.slice none 0 0, .nilFunc] 43))
    clear hr hb1 hf
    go_wp2_with fail
    go_ret2
    exact ⟨_, ret_vb hB.out, hL.out ▸ SetL.nil _ _, hb2.out⟩
/-- what FlowerOf leaves. -/
def FlowPost (L : List Int) (c : Int) (b : Bool) (w : World) (e : Ending) (w' : World) : Prop := ∃ v, e = .returned (.tuple #[v, .int .i64 c, .bool b]) ∧ Own w' w.heap.size w'.heap.size v L ∧ Below w.heap.size w w'
theorem ret_vcb {v : Value} {c c' : Int} {b b' : Bool} (h1 : c = c') (h2 : b = b') : Ending.returned (.tuple #[v, .int .i64 c, .bool b]) = .returned (.tuple #[v, .int .i64 c', .bool b']) := by rw [h1, h2]
set_option maxHeartbeats 4000000 in
theorem im_FlowerOf (n k : Int) (lv : Value) (xs : List Int) (S : Nat) (w : World) (hx : Row w S lv xs) (hS : S ≤ w.heap.size) (hl : xs.length ≤ 100000000) :
    Calls Try.prog 14 #[.int .i64 n, lv, .int .i64 k] w (FlowPost (flL n xs k) (coreI (flL n xs k)) (flO n xs k).isSome w) := by
  have hr := read_flower n k lv xs S w hx hS hl
  obtain ⟨la, lc, rfl, _⟩ := id hx
  clear hx
  obtain ⟨o, ho⟩ : ∃ o, flO n xs k = o := ⟨_, rfl⟩
  cases o with
  | some R =>
    obtain ⟨hf, k1, k2, hlen, hfl, hsub⟩ := flo_some ho
    have hL : flL n xs k = R := by unfold flL; rw [ho]; rfl
    have hRz : ∀ z ∈ R, 0 ≤ z ∧ z < 256 := fun z h => famB_lt hf z (hsub.subset h)
    have hRA := sub_asc hsub (famB_asc hf)
    have hR0 : 0 < R.length := by omega
    have hR4 : R.length ≤ 4 := by omega
    have hi0 : (((R.length : Nat) : Int) == 0) = false := beq_eq_false_iff_ne.2 (by omega)
    have hi1 : ¬ (((R.length : Nat) : Int) = 0) := by omega
    obtain ⟨d1, d2⟩ := core_bd hRz
    rw [hf, show flR k = true from decide_eq_true ⟨k1, k2⟩, hL, Bool.true_and] at hr
    have hcb := Lib.hid (show coreI R = coreI (flL n xs k) by rw [hL])
    have hbb := Lib.hid (show true = (flO n xs k).isSome by rw [ho]; rfl)
    have hLL := Lib.hid hL.symm
    have hco := Lib.hid (fun lv W S' (h : RRow W S' lv R) => common_at lv R S' W h hR0 (by omega) hRz)
    obtain ⟨d, hd⟩ : ∃ d, coreI R = d := ⟨_, rfl⟩
    rw [hd] at hco hcb d1 d2
    have hso := Lib.hid (show sortL R = R from sortL_asc hRA)
    replace hd := Lib.hid hd
    replace hr := Lib.hid hr
    replace ho := Lib.hid ho
    replace hL := Lib.hid hL
    replace hf := Lib.hid hf
    replace hRz := Lib.hid hRz
    replace hRA := Lib.hid hRA
    replace hfl := Lib.hid hfl
    replace hlen := Lib.hid hlen
    clear hsub
    go_enter Try.func14, Try.ntmps14
    go_wp2_with fail
    refine hr.out.mono ?_
    rintro e w1 ⟨v1, rfl, hS1, hb1⟩
    obtain ⟨a1, c1, rfl⟩ := hS1.form
    have hz1 := hb1.size
    have hfo := family_of _ R _ w1 hS1.row (Nat.le_refl _) (fun j hj => by
      have := len_small (xs := R.take j) (fun z h => hRz.out z (List.mem_of_mem_take h))
      omega) (by omega)
    rw [hso.out] at hfo
    replace hfo := Lib.hid hfo
    have hrr := Lib.hid hS1.rrow
    replace hb1 := Lib.hid hb1
    clear hS1 hr
    go_wp2_with fail
    refine hfo.out.mono ?_
    rintro e w2 ⟨v2, rfl, hS2, hb2⟩
    obtain ⟨a2, c2, rfl⟩ := hS2.form
    have hz2 := hb2.size
    have hnum := Lib.hid (numbers_at _ R _ w2 hS2.row (Nat.le_refl _) (by omega) hRz.out)
    replace hrr := Lib.hid (hrr.out.below hb2 (Nat.le_refl _))
    replace hb2 := Lib.hid (hb1.out.trans (hb2.mono hz1))
    clear hS2 hfo
    go_wp2_with fail
    refine hnum.out.mono ?_
    rintro e w3 ⟨u, rfl, hO, hb3⟩
    obtain ⟨ua, uc, rfl, _⟩ := id hO
    have hcc := Lib.hid (hco.out _ w3 _ (hrr.out.below hb3 hz2))
    replace hb3 := Lib.hid (hb2.out.trans (hb3.mono (by omega)))
    replace hO := Lib.hid (hO.mono (show w.heap.size ≤ w2.heap.size by omega) (Nat.le_refl _))
    go_wp2_with fail
    refine hcc.out.mono ?_
    rintro e w4 ⟨rfl, rfl⟩
    go_wp2_with fail
    exact bodyPost_ret (v := .tuple #[.slice ua R.length uc, .int .i64 d, .bool true]) (by simp [results, Try.results14, go_sem]) rfl ⟨_, ret_vcb hcb.out hbb.out, hLL.out ▸ hO.out, hb3.out⟩
  | none =>
    have hL : flL n xs k = [] := by unfold flL; rw [ho]; rfl
    rw [hL] at hr
    have hcb := Lib.hid (show (0 : Int) = coreI (flL n xs k) by rw [hL]; rfl)
    have hbb := Lib.hid (show false = (flO n xs k).isSome by rw [ho]; rfl)
    have hLL := Lib.hid hL.symm
    obtain ⟨ok, hok⟩ : ∃ ok, (famB n xs && flR k) = ok := ⟨_, rfl⟩
    rw [hok] at hr
    replace hr := Lib.hid hr
    replace ho := Lib.hid ho
    replace hL := Lib.hid hL
    replace hok := Lib.hid hok
    go_enter Try.func14, Try.ntmps14
    go_wp2_with fail
    refine hr.out.mono ?_
    rintro e w1 ⟨v1, rfl, hS1, hb1⟩
    obtain ⟨a1, c1, rfl⟩ := hS1.form
    have hz1 := hb1.size
    replace hb1 := Lib.hid (hb1.alloc hz1 (.cells #[] 3))
    clear hS1 hr
    cases ok
    all_goals
      go_wp2_with fail
      exact bodyPost_ret (v := .tuple #[.slice (some ⟨w1.heap.size, 0, none⟩) 0 0, .int .i64 0, .bool false]) (by simp [results, Try.results14, go_sem]) rfl ⟨_, ret_vcb hcb.out hbb.out, hLL.out ▸ own_empty _ _ _ _ _, hb1.out⟩
/-- what FlowerFree says. -/
noncomputable def freB (n : Int) (xs : List Int) (k : Int) : Bool := famB n xs && flR k && (flO n xs k).isNone
set_option maxHeartbeats 4000000 in
theorem im_FlowerFree (n k : Int) (lv : Value) (xs : List Int) (S : Nat) (w : World) (hx : Row w S lv xs) (hS : S ≤ w.heap.size) (hl : xs.length ≤ 100000000) :
    Calls Try.prog 16 #[.int .i64 n, lv, .int .i64 k] w fun e w' => e = .returned (.bool (freB n xs k)) ∧ Below w.heap.size w w' := by
  have hr := read_flower n k lv xs S w hx hS hl
  obtain ⟨la, lc, rfl, _⟩ := id hx
  clear hx
  obtain ⟨o, ho⟩ : ∃ o, flO n xs k = o := ⟨_, rfl⟩
  obtain ⟨R, hL⟩ : ∃ R, flL n xs k = R := ⟨_, rfl⟩
  obtain ⟨ok, hok⟩ : ∃ ok, (famB n xs && flR k) = ok := ⟨_, rfl⟩
  have hB : freB n xs k = (ok && o.isNone) := by unfold freB; rw [hok, ho]
  have hR : (((R.length : Nat) : Int) == 0) = o.isNone := by
    rw [← hL]
    unfold flL
    rw [ho]
    cases o with
    | none => rfl
    | some R =>
      have := (flo_some ho).2.2.2.1
      have := (flo_some ho).2.1
      exact beq_eq_false_iff_ne.2 (by show ((R.length : Nat) : Int) ≠ 0; omega)
  rw [hL, hok] at hr
  obtain ⟨q, hq⟩ : ∃ q, o.isNone = q := ⟨_, rfl⟩
  rw [hq] at hB hR
  rw [hB]
  replace hr := Lib.hid hr
  replace ho := Lib.hid ho
  replace hL := Lib.hid hL
  replace hok := Lib.hid hok
  replace hq := Lib.hid hq
  replace hB := Lib.hid hB
  go_enter Try.func16, Try.ntmps16
  go_wp2_with fail
  refine hr.out.mono ?_
  rintro e w1 ⟨v1, rfl, hS1, hb1⟩
  obtain ⟨a1, c1, rfl⟩ := hS1.form
  replace hb1 := Lib.hid hb1
  clear hS1 hr
  cases ok <;> cases q
  all_goals
    first
      | (have hR0 : ¬ ((R.length : Nat) : Int) = 0 := by simpa using hR)
      | (have hR0 : ((R.length : Nat) : Int) = 0 := by simpa using hR)
    go_wp2_with fail
    go_ret
    exact ⟨rfl, hb1.out⟩
end Go.Proofs.Ytgkbaenjniapiaa
