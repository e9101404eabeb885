/- The model's AntichainTop, AntichainBottom, ClosedDown, ClosedUp, AntichainIn. -/
import Derived.Test.YtoglcinfnhhkhaaAs1
namespace Go.Proofs.Ytoglcinfnhhkhaa
open Go.ChangeShapes Go.WideShapes Go.ChangeAt Go.RowKit Go.Proofs

set_option maxHeartbeats 2000000 in
theorem sp_ClosedDown (n : Int) (lv : Value) (xs : List Int) (S : Nat) (w : World) (hx : Row w S lv xs) (hS : S ≤ w.heap.size) (hl : xs.length ≤ 100000000) :
    Calls Try.prog 6 #[.int .i64 n, lv] w (ListPost (ifL (famB n xs) (clL true xs (2 ^ n.toNat))) (famB n xs) w) := by
  have h1 := sp_FamilyIn n lv xs S w hx (by omega)
  obtain ⟨a, cap, rfl, ha⟩ := id hx
  rcases (by cases famB n xs <;> simp : famB n xs = true ∨ famB n xs = false) with f1 | f1
  · rw [f1] at h1 ⊢
    obtain ⟨n1, n2, _⟩ := famB_all f1
    have A1 := famB_asc f1
    have hzz := famB_lt f1
    have l1 := asc_len256 A1 hzz
    have hot := fun q : Nat => clo_at n true _ xs S (w.drewN q) (hx.drewN q) hS l1 hzz n1 n2
    rw [show ifL true (clL true xs (2 ^ n.toNat)) = clL true xs (2 ^ n.toNat) from rfl]
    obtain ⟨ys, hys⟩ : ∃ ys, clL true xs (2 ^ n.toNat) = ys := ⟨_, rfl⟩
    rw [hys] at hot ⊢
    replace hys := Lib.hid hys
    replace hot := Lib.hid hot
    replace h1 := Lib.hid h1
    replace f1 := Lib.hid f1
    replace A1 := Lib.hid A1
    replace hzz := Lib.hid hzz
    replace hx := Lib.hid hx
    replace ha := Lib.hid ha
    go_enter Try.func6, Try.ntmps6
    go_wp2_with fail
    refine h1.out.mono ?_
    rintro e w1 ⟨rfl, q, rfl⟩
    clear h1
    go_wp2_with fail
    refine (hot.out q).mono ?_
    rintro e w3 ⟨v, rfl, hO, hb3⟩
    obtain ⟨a', c', rfl⟩ := hO.form
    replace hb3 := Lib.hid ((below_drewN (Below.refl w.heap.size w) q).trans hb3)
    replace hO := Lib.hid (own_lift hO)
    go_wp2_with fail
    go_ret2
    exact ⟨_, rfl, hO.out, hb3.out⟩
  · rw [f1] at h1 ⊢
    replace h1 := Lib.hid h1
    replace f1 := Lib.hid f1
    clear hx ha
    go_enter Try.func6, Try.ntmps6
    go_wp2_with fail
    refine h1.out.mono ?_
    rintro e w1 ⟨rfl, q, rfl⟩
    go_wp2_with fail
    go_ret2
    exact ⟨_, rfl, own_empty0 _ _ _ _ _, ((below_drewN (Below.refl _ w) q).alloc (Nat.le_refl _) _)⟩

end Go.Proofs.Ytoglcinfnhhkhaa
