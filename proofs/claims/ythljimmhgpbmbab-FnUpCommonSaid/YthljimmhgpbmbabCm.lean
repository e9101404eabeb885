/- UpCommon, the program's and the model's. -/
import Derived.Test.YthljimmhgpbmbabFams13
import Derived.Test.YthljimmhgpbmbabAllSp
import Derived.Test.YthljimmhgpbmbabLawTwo
namespace Go.Proofs.Ythljimmhgpbmbab
open Go.ChangeShapes Go.WideShapes Go.ChangeAt Go.RowKit Go.Proofs

/-- the number of the common sets times all sets, less the product of both numbers. -/
def comI (n : Int) (xs zs : List Int) : Int := if (famB n xs && famB n zs) then ((sortL (xs.filter (fun x => memB x zs))).length : Int) * 2 ^ n.toNat - (xs.length : Int) * (zs.length : Int) else 0
theorem wrap_diff {A B : Nat} (h1 : A ≤ 256 * 256) (h2 : B ≤ 256 * 256) : wrap64 (wrap64 (A : Int) - wrap64 (B : Int)) = (A : Int) - (B : Int) := by
  unfold wrap64
  omega
set_option maxHeartbeats 2000000 in
theorem im_UpCommon (n : Int) (lv lu : Value) (xs zs : List Int) (S : Nat) (w : World) (hx : Row w S lv xs) (hy : Row w S lu zs) (hS : S ≤ w.heap.size) (hl : xs.length ≤ 100000000) (hl2 : zs.length ≤ 100000000) :
    Calls Try.prog 44 #[.int .i64 n, lv, lu] w fun e w' => e = .returned (.tuple #[.int .i64 (comI n xs zs), .bool (famB n xs && famB n zs)]) ∧ Below w.heap.size w w' := by
  have h1 := im_FamilyCommon n lv lu xs zs S w hx hy hS hl hl2
  obtain ⟨a, cap, rfl, _⟩ := id hx
  obtain ⟨b, cbp, rfl, _⟩ := id hy
  rcases (by cases (famB n xs && famB n zs) <;> simp : (famB n xs && famB n zs) = true ∨ (famB n xs && famB n zs) = false) with hB | hB
  · have hB2 := hB
    rw [Bool.and_eq_true] at hB2
    obtain ⟨n1, n2, _⟩ := famB_all hB2.1
    have l1 := famB_len hB2.1
    have l2 := famB_len hB2.2
    have hcl : (sortL (xs.filter (fun x => memB x zs))).length ≤ 256 := asc_len256 (asc_sortL _) (fun z hz => famB_lt hB2.1 z (List.mem_filter.1 (mem_sortL.1 hz)).1)
    have hci : comI n xs zs = ((sortL (xs.filter (fun x => memB x zs))).length : Int) * 2 ^ n.toNat - (xs.length : Int) * (zs.length : Int) := by unfold comI; rw [hB]; rfl
    rw [hB, show ifL true (sortL (xs.filter (fun x => memB x zs))) = sortL (xs.filter (fun x => memB x zs)) from rfl] at h1
    rw [hci, hB]
    obtain ⟨ys, hys⟩ : ∃ ys, sortL (xs.filter (fun x => memB x zs)) = ys := ⟨_, rfl⟩
    rw [hys] at h1 hcl ⊢
    obtain ⟨p1, p2, p3⟩ := pow_nat n1 n2
    obtain ⟨N, hN⟩ : ∃ N : Nat, 2 ^ n.toNat = N := ⟨_, rfl⟩
    have hNi : (2 : Int) ^ n.toNat = (N : Nat) := by rw [← hN]; simp
    rw [hN] at p1 p2
    rw [hNi]
    have q1 : ys.length * N ≤ 256 * 256 := Nat.mul_le_mul hcl p1
    have q2 : xs.length * zs.length ≤ 256 * 256 := Nat.mul_le_mul l1 l2
    have q3 : ((ys.length : Int)) * (N : Int) = ((ys.length * N : Nat) : Int) := by simp
    have q4 : ((xs.length : Int)) * (zs.length : Int) = ((xs.length * zs.length : Nat) : Int) := by simp
    have hv : wrap64 (wrap64 ((ys.length : Int) * 2 ^ n.toNat) - wrap64 ((xs.length : Int) * (zs.length : Int))) = (ys.length : Int) * (N : Int) - (xs.length : Int) * (zs.length : Int) := by
      rw [hNi, q3, q4]
      exact wrap_diff q1 q2
    have hn0 : (0 : Int) ≤ n := by omega
    have hn64 : n < 64 := by omega
    replace h1 := Lib.hid h1
    replace hys := Lib.hid hys
    replace hN := Lib.hid hN
    replace hNi := Lib.hid hNi
    replace hB := Lib.hid hB
    replace hv := Lib.hid hv
    clear hB2 hci p3 hx hy q1 q2 q3 q4
    go_enter Try.func44, Try.ntmps44
    go_wp2_with fail
    refine h1.out.mono ?_
    rintro e w1 ⟨v, rfl, hO, hb⟩
    obtain ⟨ua, uc, rfl, _⟩ := id hO
    replace hb := Lib.hid hb
    clear h1 hO
    go_wp2_with fail
    go_ret2
    exact ⟨by rw [← hv.out]; rfl, hb.out⟩
  · have hci : comI n xs zs = 0 := by unfold comI; rw [hB]; rfl
    rw [hB] at h1
    rw [hci, hB]
    replace h1 := Lib.hid h1
    replace hB := Lib.hid hB
    clear hx hy
    go_enter Try.func44, Try.ntmps44
    go_wp2_with fail
    refine h1.out.mono ?_
    rintro e w1 ⟨v, rfl, hO, hb⟩
    obtain ⟨ua, uc, rfl, _⟩ := id hO
    replace hb := Lib.hid hb
    clear h1 hO
    go_wp2_with fail
    go_ret2
    exact ⟨rfl, hb.out⟩
set_option maxHeartbeats 2000000 in
theorem sp_UpCommon (n : Int) (lv lu : Value) (xs zs : List Int) (S : Nat) (w : World) (hx : Row w S lv xs) (hy : Row w S lu zs) (hS : S ≤ w.heap.size) (hl : xs.length ≤ 100000000) (hl2 : zs.length ≤ 100000000) :
    Calls Try.prog 45 #[.int .i64 n, lv, lu] w fun e w' => e = .returned (.tuple #[.int .i64 (comI n xs zs), .bool (famB n xs && famB n zs)]) ∧ Below w.heap.size w w' := by
  have h1 := sp_FamilyCommon n lv lu xs zs S w hx hy hS hl hl2
  obtain ⟨a, cap, rfl, _⟩ := id hx
  obtain ⟨b, cbp, rfl, _⟩ := id hy
  rcases (by cases (famB n xs && famB n zs) <;> simp : (famB n xs && famB n zs) = true ∨ (famB n xs && famB n zs) = false) with hB | hB
  · have hB2 := hB
    rw [Bool.and_eq_true] at hB2
    obtain ⟨n1, n2, _⟩ := famB_all hB2.1
    have l1 := famB_len hB2.1
    have l2 := famB_len hB2.2
    have hcl : (sortL (xs.filter (fun x => memB x zs))).length ≤ 256 := asc_len256 (asc_sortL _) (fun z hz => famB_lt hB2.1 z (List.mem_filter.1 (mem_sortL.1 hz)).1)
    have hci : comI n xs zs = ((sortL (xs.filter (fun x => memB x zs))).length : Int) * 2 ^ n.toNat - (xs.length : Int) * (zs.length : Int) := by unfold comI; rw [hB]; rfl
    rw [hB, show ifL true (sortL (xs.filter (fun x => memB x zs))) = sortL (xs.filter (fun x => memB x zs)) from rfl] at h1
    rw [hci, hB]
    obtain ⟨ys, hys⟩ : ∃ ys, sortL (xs.filter (fun x => memB x zs)) = ys := ⟨_, rfl⟩
    rw [hys] at h1 hcl ⊢
    obtain ⟨p1, p2, p3⟩ := pow_nat n1 n2
    obtain ⟨N, hN⟩ : ∃ N : Nat, 2 ^ n.toNat = N := ⟨_, rfl⟩
    have hNi : (2 : Int) ^ n.toNat = (N : Nat) := by rw [← hN]; simp
    rw [hN] at p1 p2
    rw [hNi]
    have q1 : ys.length * N ≤ 256 * 256 := Nat.mul_le_mul hcl p1
    have q2 : xs.length * zs.length ≤ 256 * 256 := Nat.mul_le_mul l1 l2
    have q3 : ((ys.length : Int)) * (N : Int) = ((ys.length * N : Nat) : Int) := by simp
    have q4 : ((xs.length : Int)) * (zs.length : Int) = ((xs.length * zs.length : Nat) : Int) := by simp
    have hv : wrap64 (wrap64 ((ys.length : Int) * 2 ^ n.toNat) - wrap64 ((xs.length : Int) * (zs.length : Int))) = (ys.length : Int) * (N : Int) - (xs.length : Int) * (zs.length : Int) := by
      rw [hNi, q3, q4]
      exact wrap_diff q1 q2
    have hn0 : (0 : Int) ≤ n := by omega
    have hn64 : n < 64 := by omega
    replace h1 := Lib.hid h1
    replace hys := Lib.hid hys
    replace hN := Lib.hid hN
    replace hNi := Lib.hid hNi
    replace hB := Lib.hid hB
    replace hv := Lib.hid hv
    clear hB2 hci p3 hx hy q1 q2 q3 q4
    go_enter Try.func45, Try.ntmps45
    go_wp2_with fail
    refine h1.out.mono ?_
    rintro e w1 ⟨v, rfl, hO, hb⟩
    obtain ⟨ua, uc, rfl, _⟩ := id hO
    replace hb := Lib.hid hb
    clear h1 hO
    go_wp2_with fail
    go_ret2
    exact ⟨by rw [← hv.out]; rfl, hb.out⟩
  · have hci : comI n xs zs = 0 := by unfold comI; rw [hB]; rfl
    rw [hB] at h1
    rw [hci, hB]
    replace h1 := Lib.hid h1
    replace hB := Lib.hid hB
    clear hx hy
    go_enter Try.func45, Try.ntmps45
    go_wp2_with fail
    refine h1.out.mono ?_
    rintro e w1 ⟨v, rfl, hO, hb⟩
    obtain ⟨ua, uc, rfl, _⟩ := id hO
    replace hb := Lib.hid hb
    clear h1 hO
    go_wp2_with fail
    go_ret2
    exact ⟨rfl, hb.out⟩
end Go.Proofs.Ythljimmhgpbmbab
