/- The model's AntichainTop, AntichainBottom, ClosedDown, ClosedUp, AntichainIn. -/
import Derived.Test.YtcadlfljlobjjaaAs1
namespace Go.Proofs.Ytcadlfljlobjjaa
open Go.ChangeShapes Go.WideShapes Go.ChangeAt Go.RowKit Go.Proofs

set_option maxHeartbeats 2000000 in
theorem sp_AntichainTop (n : Int) (lv : Value) (xs : List Int) (S : Nat) (w : World) (hx : Row w S lv xs) (hS : S ≤ w.heap.size) (hl : xs.length ≤ 100000000) :
    Calls Try.prog 33 #[.int .i64 n, lv] w (ListPost (ifL (famB n xs) (endL true xs xs)) (famB n xs) w) := by
  have h1 := sp_FamilyIn n lv xs S w hx (by omega)
  obtain ⟨a, cap, rfl, ha⟩ := id hx
  rcases (by cases famB n xs <;> simp : famB n xs = true ∨ famB n xs = false) with f1 | f1
  · rw [f1] at h1 ⊢
    obtain ⟨n1, n2, _⟩ := famB_all f1
    have A1 := famB_asc f1
    have hzz := famB_lt f1
    have l1 := asc_len256 A1 hzz
    have hot := fun q : Nat => ends_at true _ xs S (w.drewN q) (hx.drewN q) hS A1 hzz
    rw [show ifL true (endL true xs xs) = endL true xs xs from rfl]
    obtain ⟨ys, hys⟩ : ∃ ys, endL true xs xs = ys := ⟨_, rfl⟩
    rw [hys] at hot ⊢
    replace hys := Lib.hid hys
    replace hot := Lib.hid hot
    replace h1 := Lib.hid h1
    replace f1 := Lib.hid f1
    replace A1 := Lib.hid A1
    replace hzz := Lib.hid hzz
    replace hx := Lib.hid hx
    replace ha := Lib.hid ha
    go_enter Try.func33, Try.ntmps33
    go_wp2_with fail
    refine h1.out.mono ?_
    rintro e w1 ⟨rfl, q, rfl⟩
    clear h1
    go_wp2_with fail
    refine (hot.out q).mono ?_
    rintro e w3 ⟨v, rfl, hO, hb3⟩
    obtain ⟨a', c', rfl⟩ := hO.form
    replace hb3 := Lib.hid ((below_drewN (Below.refl w.heap.size w) q).trans hb3)
    replace hO := Lib.hid (own_lift hO)
    go_wp2_with fail
    go_ret2
    exact ⟨_, rfl, hO.out, hb3.out⟩
  · rw [f1] at h1 ⊢
    replace h1 := Lib.hid h1
    replace f1 := Lib.hid f1
    clear hx ha
    go_enter Try.func33, Try.ntmps33
    go_wp2_with fail
    refine h1.out.mono ?_
    rintro e w1 ⟨rfl, q, rfl⟩
    go_wp2_with fail
    go_ret2
    exact ⟨_, rfl, own_empty0 _ _ _ _ _, ((below_drewN (Below.refl _ w) q).alloc (Nat.le_refl _) _)⟩

set_option maxHeartbeats 2000000 in
theorem sp_AntichainIn (n : Int) (lv : Value) (xs : List Int) (S : Nat) (w : World) (hx : Row w S lv xs) (_hS : S ≤ w.heap.size) (hl : xs.length ≤ 100000000) :
    Calls Try.prog 7 #[.int .i64 n, lv] w fun e w' => e = .returned (.bool (famB n xs && antiB xs)) ∧ Below w.heap.size w w' := by
  have h1 := sp_FamilyIn n lv xs S w hx (by omega)
  obtain ⟨a, cap, rfl, ha⟩ := id hx
  rcases (by cases famB n xs <;> simp : famB n xs = true ∨ famB n xs = false) with f1 | f1
  · rw [f1] at h1 ⊢
    rw [Bool.true_and]
    have hot := fun q : Nat => anti_at _ xs S (w.drewN q) (hx.drewN q) (famB_asc f1) (famB_lt f1)
    obtain ⟨b, hb⟩ : ∃ b, antiB xs = b := ⟨_, rfl⟩
    rw [hb] at hot ⊢
    replace hb := Lib.hid hb
    replace hot := Lib.hid hot
    replace h1 := Lib.hid h1
    replace f1 := Lib.hid f1
    clear hx ha
    go_enter Try.func7, Try.ntmps7
    go_wp2_with fail
    refine h1.out.mono ?_
    rintro e w1 ⟨rfl, q, rfl⟩
    clear h1
    go_wp2_with fail
    refine (hot.out q).mono ?_
    rintro e w3 ⟨rfl, q2, rfl⟩
    go_wp2_with fail
    go_ret
    exact ⟨rfl, below_drewN (Below.refl _ w) _⟩
  · rw [f1] at h1 ⊢
    rw [Bool.false_and]
    replace h1 := Lib.hid h1
    replace f1 := Lib.hid f1
    clear hx ha
    go_enter Try.func7, Try.ntmps7
    go_wp2_with fail
    refine h1.out.mono ?_
    rintro e w1 ⟨rfl, q, rfl⟩
    go_wp2_with fail
    go_ret
    exact ⟨rfl, below_drewN (Below.refl _ w) q⟩
end Go.Proofs.Ytcadlfljlobjjaa
