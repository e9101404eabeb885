/- The exact laws of AntichainTop, AntichainBottom, ClosedDown, ClosedUp, AntichainIn. -/
import Derived.Test.YtcadlfljlobjjaaAc2
import Derived.Test.YtcadlfljlobjjaaAs2
import Derived.Test.YtcadlfljlobjjaaLawBool
import Derived.Test.YtcadlfljlobjjaaFLaws2
namespace Go.Proofs.Ytcadlfljlobjjaa
open Go.ChangeShapes Go.WideShapes Go.ChangeAt Go.RowKit Go.Proofs
theorem ifL_len7 {b : Bool} {ys : List Int} (h : b = true → ys.length ≤ 1000000) : (ifL b ys).length ≤ 1000000 := by
  unfold ifL
  cases b with
  | true => simpa using h rfl
  | false => simp
theorem ifL_eq7 {b : Bool} {ys zs : List Int} (h : b = true → ys = zs) : ifL b ys = ifL b zs := by
  cases b with
  | true => rw [h rfl]
  | false => rfl
theorem top_eq {xs : List Int} (hA : Asc xs) : sortL (xs.filter (fun s => !xs.any (partO s))) = endL true xs xs := sortL_asc (asc_filter hA _)
theorem bot_eq {xs : List Int} (hA : Asc xs) : sortL (xs.filter (fun s => !xs.any (fun x => partO x s))) = endL false xs xs := sortL_asc (asc_filter hA _)
theorem down_eq (N : Nat) (xs : List Int) : sortL ((sortL (upI N)).filter (fun s => xs.any (partB s))) = clL true xs N := by
  rw [sortL_asc (asc_upI N)]; exact sortL_asc (asc_filter (asc_upI N) _)
theorem up_eq (N : Nat) (xs : List Int) : sortL ((sortL (upI N)).filter (fun s => xs.any (fun x => partB x s))) = clL false xs N := by
  rw [sortL_asc (asc_upI N)]; exact sortL_asc (asc_filter (asc_upI N) _)
theorem end_len {n : Int} {xs : List Int} (top : Bool) (h : famB n xs = true) : (endL top xs xs).length ≤ 1000000 := by
  have h1 := famB_len h
  have h2 := List.length_filter_le (fun x => !xs.any (endB top x)) xs
  unfold endL; omega
theorem cl_len {n : Int} {xs : List Int} (down : Bool) (h : famB n xs = true) : (clL down xs (2 ^ n.toNat)).length ≤ 1000000 := by
  obtain ⟨n1, n2, _⟩ := famB_all h
  have := (pow_nat n1 n2).1
  have := clL_len down xs (2 ^ n.toNat)
  omega
theorem filter_all_iff {p : Int → Bool} : ∀ (xs : List Int), ((xs.filter p).length = xs.length) ↔ xs.any (fun x => !p x) = false
  | [] => by simp
  | x :: xs => by
    have ih := filter_all_iff (p := p) xs
    have hle := List.length_filter_le p xs
    rw [List.any_cons]
    rcases (by cases p x <;> simp : p x = true ∨ p x = false) with h | h
    · rw [List.filter_cons_of_pos h, List.length_cons, List.length_cons, h, Bool.not_true, Bool.false_or, ← ih]; omega
    · rw [List.filter_cons_of_neg (by rw [h]; simp), List.length_cons, h, Bool.not_false, Bool.true_or]
      constructor
      · intro e; omega
      · intro e; simp at e
theorem anti_eq {xs : List Int} : decide ((endL true xs xs).length = xs.length) = antiB xs := by
  unfold endL antiB
  have h := filter_all_iff (p := fun x => !xs.any (endB true x)) xs
  have e : (xs.any fun x => !!xs.any (endB true x)) = xs.any (fun x => xs.any (endB true x)) := by congr; funext x; simp
  rw [e] at h
  cases hb : xs.any (fun x => xs.any (endB true x)) with
  | true => rw [hb] at h; exact decide_eq_false (fun hh => by have := h.1 hh; cases this)
  | false => exact decide_eq_true (h.2 hb)
theorem fld0s (x y : Value) (w : World) : (Instr.field 36 (.agg #[x, y]) 0).run Try.prog w = .ok x w := by kernel_rfl
set_option maxHeartbeats 2000000 in
theorem im_AntichainIn (n : Int) (lv : Value) (xs : List Int) (S : Nat) (w : World) (hx : Row w S lv xs) (hS : S ≤ w.heap.size) (hl : xs.length ≤ 100000000) :
    Calls Try.prog 6 #[.int .i64 n, lv] w fun e w' => e = .returned (.bool (famB n xs && antiB xs)) ∧ Below w.heap.size w w' := by
  have hr := Lib.hid (read_any n lv xs S w hx hS hl)
  obtain ⟨la, lc, rfl, _⟩ := id hx
  clear hx
  have hfl := fld0s
  go_enter Try.func6, Try.ntmps6
  go_wp2_with fail
  refine hr.out.mono ?_
  rintro e w1 (⟨hf, v, rfl, hS1, hb1⟩ | ⟨hf, rfl, hb1⟩)
  · obtain ⟨a', c', rfl⟩ := hS1.form
    have hz1 := hb1.size
    have hlen := famB_len hf
    have hzz := famB_lt hf
    have hae := anti_eq (xs := xs)
    have hte := top_eq (famB_asc hf)
    obtain ⟨W1, hW1⟩ : ∃ W1, w1.alloc (.cells #[.slice a' xs.length c', (Value.func (.func 68) #[] #[])] 36) = W1 := ⟨_, rfl⟩
    have hbw := hb1.alloc hz1 (.cells #[.slice a' xs.length c', (Value.func (.func 68) #[] #[])] 36)
    have hS2 := hS1.alloc (.cells #[.slice a' xs.length c', (Value.func (.func 68) #[] #[])] 36)
    have hc1 := heap_alloc_new w1 (.cells #[.slice a' xs.length c', (Value.func (.func 68) #[] #[])] 36 (0, 0))
    have hs1 : W1.heap.size = w1.heap.size + 1 := by rw [← hW1]; simp
    rw [hW1] at hbw hS2 hc1
    have hlt0 : w1.heap.size < W1.heap.size := by omega
    obtain ⟨l0, l1⟩ := pair_cells hc1 (Below.refl W1.heap.size W1) hlt0
    have hbd : Below W1.heap.size W1 W1.drew := (Below.refl _ W1).drew
    have hrow := hS2.row.below hbd (Nat.le_refl _)
    have ht : Calls Try.prog 18 #[.agg #[.slice a' xs.length c', (Value.func (.func 68) #[] #[])]] W1.drew (FamPost W1.drew (sortL (xs.filter (fun s => !xs.any (partO s))))) := top_fam xs W1 (by omega) hzz W1.drew _ hbd hrow
    obtain ⟨ys, hys⟩ : ∃ ys, sortL (xs.filter (fun s => !xs.any (partO s))) = ys := ⟨_, rfl⟩
    rw [hys] at ht hte
    rw [← hte] at hae
    have hB : (famB n xs && antiB xs) = ((ys.length : Int) == (xs.length : Int)) := by
      rw [hf, Bool.true_and, ← hae]
      by_cases e : ys.length = xs.length
      · rw [e]; simp
      · rw [decide_eq_false e]; symm; rw [beq_eq_false_iff_ne]; omega
    have hle0 : w.heap.size ≤ W1.heap.size := by omega
    replace ht := Lib.hid ht
    replace hB := Lib.hid hB
    replace hys := Lib.hid hys
    replace hte := Lib.hid hte
    replace hae := Lib.hid hae
    replace hbw := Lib.hid hbw
    replace hbd := Lib.hid hbd
    replace hc1 := Lib.hid hc1
    replace hW1 := Lib.hid hW1
    replace hzz := Lib.hid hzz
    clear hrow hS2 hS1 hb1 hr
    go_wp2_with fail
    rw [hW1.out]
    go_region_with (go_at_call 18; ((with_reducible refine ht.out.mono ?_)); rintro e w4 ⟨v4, rfl, hS4, hb4⟩; obtain ⟨a4, c4, rfl⟩ := hS4.form; obtain ⟨q0, q1⟩ := pair_cells hc1.out (hbd.out.trans hb4) hlt0; replace hb4 := Lib.hid (hbw.out.trans ((hbd.out.trans hb4).mono hle0)); replace hS4 := Lib.hid hS4)
    all_goals
      go_wp2_with fail
      go_ret
      exact ⟨ret_bool hB.out.symm, hb4.out⟩
  · have hB := Lib.hid (show false = (famB n xs && antiB xs) by rw [hf]; rfl)
    replace hb1 := Lib.hid (hb1.alloc hb1.size (.cells #[.slice none 0 0, .nilFunc] 36))
    replace hf := Lib.hid hf
    clear hr
    go_wp2_with fail
    go_region
    all_goals
      go_wp2_with fail
      go_ret
      exact ⟨ret_bool hB.out, hb1.out.drew⟩
end Go.Proofs.Ytcadlfljlobjjaa
