/- FlowerOf, FlowerFree: the model and the laws. -/
import Derived.Test.YtilkcfikmlkeaaaFl5
import Derived.Test.YtilkcfikmlkeaaaFl6
import Derived.Test.YtilkcfikmlkeaaaFLaws
import Derived.Test.YtilkcfikmlkeaaaLawBool
namespace Go.Proofs.Ytilkcfikmlkeaaa
open Go.ChangeShapes Go.WideShapes Go.ChangeAt Go.RowKit Go.Proofs

theorem inB_four (k : Int) : inB k 1 4 = flR k := rfl
theorem flo_eq {n : Int} {xs : List Int} {K : Nat} (hf : famB n xs = true) (hk : flR (K : Nat) = true) : srch okB K (xs.drop 0) [] = flO n xs (K : Nat) := by
  unfold flO
  rw [hf, hk, List.drop_zero, Int.toNat_natCast]
  exact (srch_eq K xs [] flow_nil).symm
/-- the model's search from the beginning. -/
theorem sp_search (n : Int) (K : Nat) (lv : Value) (xs : List Int) (S q : Nat) (w : World) (hx : Row w S lv xs) (hS : S ≤ w.heap.size) (hf : famB n xs = true) (hk : flR (K : Nat) = true) :
    Calls Try.prog 13 #[lv, .int .i64 0, .int .i64 (K : Nat), .slice (some ⟨w.heap.size, 0, none⟩) 0 0] ((w.drewN q).alloc (.cells #[] 3)) (FlSp (flO n xs (K : Nat)) w.heap.size ((w.drewN q).alloc (.cells #[] 3))) := by
  obtain ⟨k1, k2⟩ := of_decide_eq_true hk
  have hb := (below_drewN (Below.refl w.heap.size w) q).alloc (Nat.le_refl _) (.cells #[] 3)
  have h := flsp_at K (by omega) K xs [] lv (.slice (some ⟨w.heap.size, 0, none⟩) 0 0) S w.heap.size 0 ((w.drewN q).alloc (.cells #[] 3)) (by simp) (hx.below hb hS) (Nat.le_trans hS hb.size) (OwnL.lit (w.drewN q) (Nat.le_refl _)) hb.size (famB_len hf) (famB_lt hf) (by simp) (Nat.zero_le _)
  rw [flo_eq hf hk] at h
  exact h
set_option maxHeartbeats 4000000 in
theorem sp_FlowerFree (n k : Int) (lv : Value) (xs : List Int) (S : Nat) (w : World) (hx : Row w S lv xs) (hS : S ≤ w.heap.size) (hl : xs.length ≤ 100000000) :
    Calls Try.prog 6 #[.int .i64 n, lv, .int .i64 k] w fun e w' => e = .returned (.bool (freB n xs k)) ∧ Below w.heap.size w w' := by
  have h1 := sp_FamilyIn n lv xs S w hx (by omega)
  have hin := fun W => l6in k 1 4 W
  rw [inB_four] at hin
  obtain ⟨la, lc, rfl, _⟩ := id hx
  rcases (by cases famB n xs <;> simp : famB n xs = true ∨ famB n xs = false) with hf | hf
  · rw [hf] at h1
    rcases (by cases flR k <;> simp : flR k = true ∨ flR k = false) with hk | hk
    · rw [hk] at hin
      obtain ⟨k1, k2⟩ := of_decide_eq_true hk
      obtain ⟨K, rfl⟩ : ∃ K : Nat, k = (K : Nat) := ⟨k.toNat, by omega⟩
      have hse := fun q => sp_search n K _ xs S q w hx hS hf hk
      have hB : freB n xs (K : Nat) = !(flO n xs (K : Nat)).isSome := by
        unfold freB
        rw [hf, hk]
        cases flO n xs (K : Nat) <;> rfl
      rw [hB]
      obtain ⟨o, ho⟩ : ∃ o, flO n xs (K : Nat) = o := ⟨_, rfl⟩
      rw [ho] at hse ⊢
      obtain ⟨b, hb⟩ : ∃ b, o.isSome = b := ⟨_, rfl⟩
      have hse' : ∀ q, Calls Try.prog 13 #[.slice la xs.length lc, .int .i64 0, .int .i64 (K : Nat), .slice (some ⟨w.heap.size, 0, none⟩) 0 0] ((w.drewN q).alloc (.cells #[] 3)) fun e w' => ∃ v, e = .returned (.tuple #[v, .bool b]) ∧ Own w' w.heap.size w'.heap.size v (o.getD []) ∧ Below ((w.drewN q).alloc (.cells #[] 3)).heap.size ((w.drewN q).alloc (.cells #[] 3)) w' := fun q => by rw [← hb]; exact hse q
      rw [hb]
      replace hse := Lib.hid hse'
      replace hin := Lib.hid hin
      replace h1 := Lib.hid h1
      replace ho := Lib.hid ho
      replace hb := Lib.hid hb
      replace hf := Lib.hid hf
      replace hk := Lib.hid hk
      replace hB := Lib.hid hB
      clear hse' hx
      go_enter Try.func6, Try.ntmps6
      go_wp2_with fail
      refine h1.out.mono ?_
      rintro e w1 ⟨rfl, q, rfl⟩
      have hbq := Lib.hid ((below_drewN (Below.refl w.heap.size w) q).alloc (Nat.le_refl _) (.cells #[] 3))
      go_wp2_with (go_at_call 12; refine (hin.out _).mono ?_; rintro e w' ⟨rfl, rfl⟩)
      refine (hse.out q).mono ?_
      rintro e w2 ⟨v, rfl, hO, hb2⟩
      obtain ⟨a2, c2, rfl, _⟩ := hO
      have hb3 := Lib.hid (hbq.out.trans (hb2.mono hbq.out.size))
      replace hb2 := Lib.hid hb2
      go_wp2_with fail
      go_ret
      exact ⟨rfl, hb3.out⟩
    · rw [hk] at hin
      have hB := Lib.hid (show false = freB n xs k by unfold freB; rw [hk, Bool.and_false, Bool.false_and])
      replace hin := Lib.hid hin
      replace h1 := Lib.hid h1
      replace hf := Lib.hid hf
      replace hk := Lib.hid hk
      clear hx
      go_enter Try.func6, Try.ntmps6
      go_wp2_with fail
      refine h1.out.mono ?_
      rintro e w1 ⟨rfl, q, rfl⟩
      go_wp2_with (go_at_call 12; refine (hin.out _).mono ?_; rintro e w' ⟨rfl, rfl⟩)
      go_ret
      exact ⟨ret_bool hB.out, below_drewN (Below.refl _ w) q⟩
  · rw [hf] at h1
    have hB := Lib.hid (show false = freB n xs k by unfold freB; rw [hf, Bool.false_and, Bool.false_and])
    replace hin := Lib.hid hin
    replace h1 := Lib.hid h1
    replace hf := Lib.hid hf
    clear hx
    go_enter Try.func6, Try.ntmps6
    go_wp2_with fail
    refine h1.out.mono ?_
    rintro e w1 ⟨rfl, q, rfl⟩
    go_wp2_with fail
    go_ret
    exact ⟨ret_bool hB.out, below_drewN (Below.refl _ w) q⟩
theorem fll_len (n : Int) (xs : List Int) (k : Int) : (flL n xs k).length ≤ 1000000 := by
  unfold flL
  cases h : flO n xs k with
  | none => simp
  | some R =>
    obtain ⟨_, _, _, h1, _⟩ := flo_some h
    show R.length ≤ _
    omega
end Go.Proofs.Ytilkcfikmlkeaaa
