/- IntersectRank: the program. -/
import Derived.Test.YtgkbaenjniapiaaDoorRk2
import Derived.Test.YtgkbaenjniapiaaDoorAllSp
import Derived.Test.YtgkbaenjniapiaaDoorLawsB
import Derived.Test.YtgkbaenjniapiaaDoorLawBool
namespace Go.Proofs.YtgkbaenjniapiaaDoor
open Go.ChangeShapes Go.WideShapes Go.ChangeAt Go.RowKit Go.Shelf Go.Proofs

/-- the table of math/bits and the type of errors. -/
def TabE (w : World) : Prop := Tab w ∧ ErrT w
theorem TabE.lt {w : World} (h : TabE w) : 2 < w.heap.size := h.1.lt
theorem TabE.below {w w' : World} {B : Nat} (h : TabE w) (hb : Below B w w') (hB : 2 < B) : TabE w' := ⟨h.1.below hb hB, h.2.below hb (by omega)⟩
/-- the family has a rank. -/
def rkB (n : Int) (xs : List Int) : Bool := famB n xs && !memB 0 xs
/-- what IntersectRank says. -/
def rkV (n : Int) (xs : List Int) : Int := if rkB n xs then (lmI xs 8 0 : Nat) else 0
def RkPost (c : Int) (b : Bool) (w : World) (e : Ending) (w' : World) : Prop := e = .returned (.tuple #[.int .i64 c, .bool b]) ∧ Below w.heap.size w w'
set_option maxHeartbeats 4000000 in
theorem im_IntersectRank (n : Int) (lv : Value) (xs : List Int) (S : Nat) (w : World) (hx : Row w S lv xs) (hS : S ≤ w.heap.size) (hl : xs.length ≤ 100000000) (hT : TabE w) :
    Calls Tryd.prog 29 #[.int .i64 n, lv] w (RkPost (rkV n xs) (rkB n xs) w) := by
  have hr := Lib.hid (read_any n lv xs S w hx hS hl)
  obtain ⟨la, lc, rfl, _⟩ := id hx
  clear hx
  have hlt := hT.lt
  replace hT := Lib.hid hT
  go_enter Tryd.func29, Tryd.ntmps29
  go_wp2_with fail
  refine hr.out.mono ?_
  rintro e w1 (⟨hf, v, rfl, hS1, hb1⟩ | ⟨hf, rfl, hb1⟩)
  · obtain ⟨a', c', rfl⟩ := hS1.form
    have hz1 := hb1.size
    have hb2 := hb1.alloc hz1 (.cells #[.slice a' xs.length c', (Value.func (.func 107) #[] #[])] 42)
    have hS2 := hS1.alloc (.cells #[.slice a' xs.length c', (Value.func (.func 107) #[] #[])] 42)
    have hh := Lib.hid (has_any _ xs 0 _ _ hS2.row (famB_asc hf) (fam_len hf) (Nat.le_refl _))
    obtain ⟨m0, m1⟩ := pair_cells (new_cell w1 #[.slice a' xs.length c', (Value.func (.func 107) #[] #[])] 42) (Below.refl (w1.heap.size + 1) _) (by omega)
    replace hb2 := Lib.hid hb2
    replace hS2 := Lib.hid hS2
    replace hf := Lib.hid hf
    clear hr hS1 hb1
    obtain ⟨b0, hb0⟩ : ∃ b0, memB 0 xs = b0 := ⟨_, rfl⟩
    rw [hb0] at hh
    have hB := Lib.hid (show (!b0) = rkB n xs by unfold rkB; rw [hf.out, hb0]; rfl)
    cases b0 with
    | true =>
      have hV := Lib.hid (show (0 : Int) = rkV n xs by unfold rkV; rw [← hB.out]; rfl)
      replace hb0 := Lib.hid hb0
      go_wp2_with fail
      refine hh.out.mono ?_
      rintro e w2 ⟨rfl, hb3⟩
      rw [World.size_alloc] at hb3
      replace hb3 := Lib.hid (hb2.out.trans (hb3.mono (show w.heap.size ≤ w1.heap.size + 1 by omega)))
      go_wp2_with fail
      go_ret2
      exact ⟨by rw [← hV.out, ← hB.out]; rfl, hb3.out⟩
    | false =>
      have hV := Lib.hid (show ((lmI xs 8 0 : Nat) : Int) = rkV n xs by unfold rkV; rw [← hB.out]; rfl)
      have hne : ∀ z ∈ xs, z ≠ 0 := fun z hz e => memB_no hb0 (e ▸ hz)
      have hlm := Lib.hid (fun W => lm_any xs (.slice a' xs.length c') W (fam_len hf.out) (famB_lt hf.out) hne 8 0)
      replace hb0 := Lib.hid hb0
      replace hne := Lib.hid hne
      go_wp2_with fail
      refine hh.out.mono ?_
      rintro e w2 ⟨rfl, hb3⟩
      have hz3 := hb3.size
      have hS3 := hS2.out.below hb3 (Nat.le_refl _)
      obtain ⟨l0, l1⟩ := pair_cells (new_cell w1 #[.slice a' xs.length c', (Value.func (.func 107) #[] #[])] 42) hb3 (by simp)
      rw [World.size_alloc] at hb3 hz3
      replace hb3 := hb2.out.trans (hb3.mono (show w.heap.size ≤ w1.heap.size + 1 by omega))
      have hT2 := hT.out.below hb3 hlt
      have hfin := Lib.hid (hlm.out _ w2 (by omega) (by omega) (by decide) hS3.row hT2.1 hT2.2 (by first | exact Nat.le_refl _ | (simp only [World.size_alloc]; omega)))
      replace hb3 := Lib.hid hb3
      clear hlm hS3 hT2 hh
      go_wp2_with fail
      refine hfin.out.mono ?_
      rintro e w3 ⟨rfl, hb4⟩
      replace hb4 := Lib.hid (hb3.out.trans (hb4.mono hb3.out.size))
      go_wp2_with fail
      go_ret2
      exact ⟨by rw [← hV.out, ← hB.out]; rfl, hb4.out⟩
  · have hB := Lib.hid (show false = rkB n xs by unfold rkB; rw [hf, Bool.false_and])
    have hV := Lib.hid (show (0 : Int) = rkV n xs by unfold rkV; rw [← hB.out]; rfl)
    have hb2 := Lib.hid (hb1.alloc hb1.size (.cells #[.slice none 0 0, .nilFunc] 42))
    replace hf := Lib.hid hf
    clear hb1 hr
    go_wp2_with fail
    go_ret2
    exact ⟨by rw [← hV.out, ← hB.out]; rfl, hb2.out⟩
end Go.Proofs.YtgkbaenjniapiaaDoor
