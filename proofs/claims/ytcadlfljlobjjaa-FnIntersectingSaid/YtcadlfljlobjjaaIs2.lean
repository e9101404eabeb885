/- IntersectCross, IntersectIn, IntersectMost, IntersectStar: the program and the model. -/
import Derived.Test.YtcadlfljlobjjaaIs1
import Derived.Test.YtcadlfljlobjjaaAllSp
import Derived.Test.YtcadlfljlobjjaaLawsB
import Derived.Test.YtcadlfljlobjjaaSh1
namespace Go.Proofs.Ytcadlfljlobjjaa
open Go.ChangeShapes Go.WideShapes Go.ChangeAt Go.RowKit Go.Proofs

/-- two lists are families that cross. -/
def crsB (n : Int) (xs zs : List Int) : Bool := famB n xs && famB n zs && crossB xs zs
set_option maxHeartbeats 4000000 in
theorem im_IntersectCross (n : Int) (lv lu : Value) (xs zs : List Int) (S : Nat) (w : World) (hx : Row w S lv xs) (hy : Row w S lu zs) (hS : S ≤ w.heap.size) (hl : xs.length ≤ 100000000) (hl2 : zs.length ≤ 100000000) :
    Calls Try.prog 27 #[.int .i64 n, lv, lu] w fun e w' => e = .returned (.bool (crsB n xs zs)) ∧ Below w.heap.size w w' := by
  have hr := Lib.hid (read_any n lv xs S w hx hS hl)
  obtain ⟨la, lc, rfl, _⟩ := id hx
  obtain ⟨lb, ld, rfl, _⟩ := id hy
  have hR2 := Lib.hid hy
  clear hx hy
  go_enter Try.func27, Try.ntmps27
  go_wp2_with fail
  refine hr.out.mono ?_
  rintro e w1 (⟨hf, v, rfl, hS1, hb1⟩ | ⟨hf, rfl, hb1⟩)
  · obtain ⟨a', c', rfl⟩ := hS1.form
    have hz1 := hb1.size
    have hb2 := hb1.alloc hz1 (.cells #[.slice a' xs.length c', (Value.func (.func 68) #[] #[])] 36)
    have hS2 := hS1.alloc (.cells #[.slice a' xs.length c', (Value.func (.func 68) #[] #[])] 36)
    have hr2 := Lib.hid (read_any n _ zs _ _ (hR2.out.below hb2 hS) (by simp; omega) hl2)
    replace hb2 := Lib.hid hb2
    replace hS2 := Lib.hid hS2
    replace hf := Lib.hid hf
    clear hr hS1 hb1 hR2
    go_wp2_with fail
    refine hr2.out.mono ?_
    rintro e w2 (⟨hf2, v, rfl, hS3, hb3⟩ | ⟨hf2, rfl, hb3⟩)
    · obtain ⟨a3, c3, rfl⟩ := hS3.form
      have hz3 := hb3.size
      have hS2' := hS2.out.below hb3 (Nat.le_refl _)
      have l01 := pair_cells (new_cell w1 #[.slice a' xs.length c', (Value.func (.func 68) #[] #[])] 36) hb3 (by simp)
      rw [World.size_alloc] at hb3 hz3
      have hb4 := hb2.out.trans (hb3.mono (show w.heap.size ≤ w1.heap.size + 1 by omega))
      have hb5 := hb4.alloc (by omega) (.cells #[.slice a3 zs.length c3, (Value.func (.func 68) #[] #[])] 36)
      have hS4 := hS3.alloc (.cells #[.slice a3 zs.length c3, (Value.func (.func 68) #[] #[])] 36)
      have hS5 := hS2'.alloc (.cells #[.slice a3 zs.length c3, (Value.func (.func 68) #[] #[])] 36)
      have hcr := Lib.hid (crossing_at _ _ xs zs _ _ hS5.row hS4.row (Nat.le_refl _) (fam_len hf.out) (fam_len hf2) (famB_lt hf.out) (famB_lt hf2))
      obtain ⟨l0, l1⟩ := l01
      have hlt0 : w1.heap.size < w2.heap.size := by omega
      have hB := Lib.hid (show crossB xs zs = crsB n xs zs by unfold crsB; rw [hf.out, hf2]; rfl)
      replace hb5 := Lib.hid hb5
      clear hr2 hS3 hb3 hS2' hS4 hS5 hb4 hf2
      go_wp2_with fail
      refine hcr.out.mono ?_
      rintro e w4 ⟨⟨o, rfl, ho⟩, hb6⟩
      rw [hB.out] at ho
      replace ho := Lib.hid ho
      replace hb6 := Lib.hid (hb5.out.trans (hb6.mono hb5.out.size))
      cases o with
      | none =>
        rw [show errV none = .nilIface from rfl]
        go_wp2_with fail
        go_ret
        exact ⟨ret_bool ho.out, hb6.out⟩
      | some x0 =>
        rw [show errV (some x0) = .iface 88 (.agg #[.int .u64 x0]) from rfl]
        go_wp2_with fail
        go_ret
        exact ⟨ret_bool ho.out, hb6.out⟩
    · have hz3 := hb3.size
      rw [World.size_alloc] at hb3 hz3
      have hB := Lib.hid (show false = crsB n xs zs by unfold crsB; rw [hf2, Bool.and_false, Bool.false_and])
      replace hb3 := Lib.hid (hb2.out.trans (hb3.mono (show w.heap.size ≤ w1.heap.size + 1 by omega)))
      clear hr2 hf2
      go_wp2_with fail
      go_ret
      exact ⟨ret_bool hB.out, hb3.out.alloc hb3.out.size _⟩
  · have hz1 := hb1.size
    have hb2 := hb1.alloc hz1 (.cells #[.slice none 0 0, .nilFunc] 36)
    have hr2 := Lib.hid (read_any n _ zs _ _ (hR2.out.below hb2 hS) (by simp; omega) hl2)
    have hB := Lib.hid (show false = crsB n xs zs by unfold crsB; rw [hf, Bool.false_and, Bool.false_and])
    replace hb2 := Lib.hid hb2
    clear hr hb1 hR2 hf
    go_wp2_with fail
    refine hr2.out.mono ?_
    rintro e w2 (⟨hf2, v, rfl, hS3, hb3⟩ | ⟨hf2, rfl, hb3⟩)
    · obtain ⟨a3, c3, rfl⟩ := hS3.form
      have hz3 := hb3.size
      rw [World.size_alloc] at hb3 hz3
      replace hb3 := Lib.hid (hb2.out.trans (hb3.mono (show w.heap.size ≤ w1.heap.size + 1 by omega)))
      clear hr2 hf2 hS3
      go_wp2_with fail
      go_ret
      exact ⟨ret_bool hB.out, hb3.out.alloc hb3.out.size _⟩
    · have hz3 := hb3.size
      rw [World.size_alloc] at hb3 hz3
      replace hb3 := Lib.hid (hb2.out.trans (hb3.mono (show w.heap.size ≤ w1.heap.size + 1 by omega)))
      clear hr2 hf2
      go_wp2_with fail
      go_ret
      exact ⟨ret_bool hB.out, hb3.out.alloc hb3.out.size _⟩
set_option maxHeartbeats 1000000 in
theorem im_IntersectIn (n : Int) (lv : Value) (xs : List Int) (S : Nat) (w : World) (hx : Row w S lv xs) (hS : S ≤ w.heap.size) (hl : xs.length ≤ 100000000) :
    Calls Try.prog 11 #[.int .i64 n, lv] w fun e w' => e = .returned (.bool (crsB n xs xs)) ∧ Below w.heap.size w w' := by
  have hr := Lib.hid (im_IntersectCross n lv lv xs xs S w hx hx hS hl hl)
  obtain ⟨la, lc, rfl, _⟩ := id hx
  clear hx
  go_enter Try.func11, Try.ntmps11
  go_wp2_with fail
  refine hr.out.mono ?_
  rintro e w1 ⟨rfl, hb⟩
  replace hb := Lib.hid hb
  go_wp2_with fail
  go_ret
  exact ⟨rfl, hb.out⟩
set_option maxHeartbeats 2000000 in
theorem sp_IntersectIn (n : Int) (lv : Value) (xs : List Int) (S : Nat) (w : World) (hx : Row w S lv xs) (_hS : S ≤ w.heap.size) (hl : xs.length ≤ 100000000) :
    Calls Try.prog 12 #[.int .i64 n, lv] w fun e w' => e = .returned (.bool (crsB n xs xs)) ∧ ∃ q, w' = w.drewN q := by
  have h1 := sp_FamilyIn n lv xs S w hx (by omega)
  obtain ⟨la, lc, rfl, _⟩ := id hx
  rcases (by cases famB n xs <;> simp : famB n xs = true ∨ famB n xs = false) with f | f
  · have hB := Lib.hid (show crossB xs xs = crsB n xs xs by unfold crsB; rw [f]; rfl)
    rw [f] at h1
    have hot := fun q : Nat => sp_meets _ _ xs xs S (w.drewN q) (hx.drewN q) (hx.drewN q) hl hl (famB_lt f) (famB_lt f)
    obtain ⟨b, hb⟩ : ∃ b, crossB xs xs = b := ⟨_, rfl⟩
    rw [hb] at hot hB
    replace hb := Lib.hid hb
    replace hot := Lib.hid hot
    replace h1 := Lib.hid h1
    replace f := Lib.hid f
    clear hx
    go_enter Try.func12, Try.ntmps12
    go_wp2_with fail
    refine h1.out.mono ?_
    rintro e w1 ⟨rfl, q, rfl⟩
    clear h1
    go_wp2_with fail
    refine (hot.out q).mono ?_
    rintro e w3 ⟨rfl, q2, rfl⟩
    go_wp2_with fail
    go_ret
    exact ⟨ret_bool hB.out, q + q2, (by first | rfl | exact World.drewN_drewN _ _ _)⟩
  · have hB := Lib.hid (show false = crsB n xs xs by unfold crsB; rw [f]; rfl)
    rw [f] at h1
    replace h1 := Lib.hid h1
    replace f := Lib.hid f
    clear hx
    go_enter Try.func12, Try.ntmps12
    go_wp2_with fail
    refine h1.out.mono ?_
    rintro e w1 ⟨rfl, q, rfl⟩
    go_wp2_with fail
    go_ret
    exact ⟨ret_bool hB.out, q, rfl⟩
/-- n and k are in their ranges, k at least 1. -/
def mstB (n k : Int) : Bool := szB n k && decide (1 ≤ k)
def mstV (n k : Int) : Int := if mstB n k then (if 2 * k ≤ n then chI (n - 1) (k - 1) else chI n k) else 0
theorem mst_cases (n k : Int) : (mstB n k = true ∧ 1 ≤ n ∧ n ≤ 8 ∧ 1 ≤ k ∧ k ≤ n) ∨ (mstB n k = false ∧ ¬ (1 ≤ n ∧ n ≤ 8 ∧ 1 ≤ k ∧ k ≤ n)) := by
  by_cases h : 1 ≤ n ∧ n ≤ 8 ∧ 1 ≤ k ∧ k ≤ n
  · refine .inl ⟨?_, h⟩
    unfold mstB
    rw [szB_mk ⟨h.1, h.2.1, by omega, h.2.2.2⟩, decide_eq_true h.2.2.1]; rfl
  · refine .inr ⟨?_, h⟩
    unfold mstB
    rcases szB_cases n k with h1 | h1
    · have := szB_yes h1
      rw [h1, decide_eq_false (by omega)]; rfl
    · rw [h1]; rfl
theorem ret_ibd {a b : Int} {c d : Bool} (h : a = b) (h2 : c = d) : Ending.returned (.tuple #[.int .i64 a, .bool c]) = .returned (.tuple #[.int .i64 b, .bool d]) := by rw [h, h2]
theorem inB_one (n k : Int) : inB k 1 n = decide (1 ≤ k ∧ k ≤ n) := rfl
set_option maxHeartbeats 2000000 in
theorem im_IntersectMost (n k : Int) (w : World) : Calls Try.prog 14 #[.int .i64 n, .int .i64 k] w fun e w' => e = .returned (.tuple #[.int .i64 (mstV n k), .bool (mstB n k)]) ∧ w = w' := by
  have hsz := fun W => size_in n k W
  rcases mst_cases n k with ⟨hb, n1, n2, k1, k2⟩ | ⟨hb, hno⟩
  · have hs : szB n k = true := szB_mk ⟨n1, n2, by omega, k2⟩
    rw [hs] at hsz
    replace hsz := Lib.hid hsz
    replace hs := Lib.hid hs
    by_cases h2 : 2 * k ≤ n
    · have hc := Lib.hid (fun W => choose_in (n - 1) (k - 1) (by omega) (by omega) (by omega) (by omega) W)
      have hv := Lib.hid (show chI (n - 1) (k - 1) = mstV n k by unfold mstV; rw [hb, if_pos rfl, if_pos h2])
      obtain ⟨c, hcc⟩ : ∃ c, chI (n - 1) (k - 1) = c := ⟨_, rfl⟩
      rw [hcc] at hc hv
      replace hcc := Lib.hid hcc
      replace hb := Lib.hid hb.symm
      go_enter Try.func14, Try.ntmps14
      go_wp2_with (first | (go_at_call 31; refine (hsz.out _).mono ?_; rintro e w' ⟨rfl, rfl⟩) | (go_at_call 25; refine (hc.out _).mono ?_; rintro e w' ⟨rfl, rfl⟩))
      go_ret2
      exact ⟨ret_ibd hv.out hb.out, rfl⟩
    · have hc := Lib.hid (fun W => choose_in n k (by omega) (by omega) (by omega) (by omega) W)
      have hv := Lib.hid (show chI n k = mstV n k by unfold mstV; rw [hb, if_pos rfl, if_neg h2])
      obtain ⟨c, hcc⟩ : ∃ c, chI n k = c := ⟨_, rfl⟩
      rw [hcc] at hc hv
      replace hcc := Lib.hid hcc
      replace hb := Lib.hid hb.symm
      go_enter Try.func14, Try.ntmps14
      go_wp2_with (first | (go_at_call 31; refine (hsz.out _).mono ?_; rintro e w' ⟨rfl, rfl⟩) | (go_at_call 25; refine (hc.out _).mono ?_; rintro e w' ⟨rfl, rfl⟩))
      go_ret2
      exact ⟨ret_ibd hv.out hb.out, rfl⟩
  · have hv := Lib.hid (show (0 : Int) = mstV n k by unfold mstV; rw [hb]; rfl)
    rcases szB_cases n k with hs | hs
    · obtain ⟨a, b, c, d⟩ := szB_yes hs
      have hk : k < 1 := by omega
      rw [hs] at hsz
      replace hsz := Lib.hid hsz
      replace hs := Lib.hid hs
      replace hb := Lib.hid hb.symm
      clear hno
      go_enter Try.func14, Try.ntmps14
      go_wp2_with (first | (go_at_call 31; refine (hsz.out _).mono ?_; rintro e w' ⟨rfl, rfl⟩))
      go_ret2
      exact ⟨ret_ibd hv.out hb.out, rfl⟩
    · rw [hs] at hsz
      replace hsz := Lib.hid hsz
      replace hs := Lib.hid hs
      replace hb := Lib.hid hb.symm
      clear hno
      go_enter Try.func14, Try.ntmps14
      go_wp2_with (first | (go_at_call 31; refine (hsz.out _).mono ?_; rintro e w' ⟨rfl, rfl⟩))
      go_ret2
      exact ⟨ret_ibd hv.out hb.out, rfl⟩
end Go.Proofs.Ytcadlfljlobjjaa
