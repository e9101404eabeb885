/- Inner edges and edges: the program's and the model's functions, the laws. -/
import Derived.Test.YtpepcjffolbdcaaDoorBe2
import Derived.Test.YtpepcjffolbdcaaDoorBe3
import Derived.Test.YtpepcjffolbdcaaDoorLawBool
import Derived.Deep.RegionWith
namespace Go.Proofs.YtpepcjffolbdcaaDoor
open Go.ChangeShapes Go.WideShapes Go.ChangeAt Go.RowKit Go.Proofs

theorem ret_ibe4 {a b : Int} {c d : Bool} (h : a = b) (h2 : c = d) : Ending.returned (.tuple #[.int .i64 a, .bool c]) = .returned (.tuple #[.int .i64 b, .bool d]) := by rw [h, h2]
/-- what BoundaryInner says. -/
def inV (n : Int) (xs : List Int) : Int := if famB n xs then (ieN xs : Nat) else 0
/-- what BoundaryEdges says. -/
def edV (n : Int) (xs : List Int) : Int := if famB n xs then n * (xs.length : Nat) - 2 * (ieN xs : Nat) else 0
set_option maxRecDepth 100000 in
set_option maxHeartbeats 1000000 in
theorem im_BoundaryInner (n : Int) (lv : Value) (xs : List Int) (S : Nat) (w : World) (hx : Row w S lv xs) (hS : S ≤ w.heap.size) (hl : xs.length ≤ 100000000) (hT : Tab w) :
    Calls Tryd.prog 13 #[.int .i64 n, lv] w fun e w' => e = .returned (.tuple #[.int .i64 (inV n xs), .bool (famB n xs)]) ∧ Below w.heap.size w w' := by
  have hr := Lib.hid (read_any n lv xs S w hx hS hl)
  have htl := hT.lt
  obtain ⟨la, lc, rfl, _⟩ := id hx
  replace hT := Lib.hid hT
  clear hx
  go_enter Tryd.func13, Tryd.ntmps13
  go_wp2_with fail
  refine hr.out.mono ?_
  rintro e w1 (⟨hf, v, rfl, hS1, hb1⟩ | ⟨hf, rfl, hb1⟩)
  · have hlen := famB_len hf
    have hlt := famB_lt hf
    have hA := famB_asc hf
    have hV := Lib.hid (show (ieN xs : Int) = inV n xs by unfold inV; rw [if_pos hf])
    have hz1 := hb1.size
    obtain ⟨a', c', rfl⟩ := hS1.form
    have hb2 := hb1.alloc hz1 (.cells #[.slice a' xs.length c', (Value.func (.func 115) #[] #[])] 46)
    have hS2 := hS1.alloc (.cells #[.slice a' xs.length c', (Value.func (.func 115) #[] #[])] 46)
    have hld := Lib.hid (inner_edges a' c' xs _ _ hS2.row hA hlen (Nat.le_refl _) hlt (hT.out.below hb2 htl))
    replace hf := Lib.hid hf.symm
    replace hlt := Lib.hid hlt
    replace hA := Lib.hid hA
    replace hb2 := Lib.hid hb2
    clear hS1 hb1 hS2 hr
    go_wp2_with fail
    refine hld.out.mono ?_
    rintro e w2 ⟨rfl, hb3⟩
    replace hb3 := Lib.hid (hb2.out.trans (hb3.mono (by simp; omega)))
    go_wp2_with fail
    go_ret2
    exact ⟨ret_ibe4 hV.out hf.out, hb3.out⟩
  · have hV := Lib.hid (show 0 = inV n xs by unfold inV; rw [hf]; rfl)
    have hz1 := hb1.size
    have hb2 := Lib.hid (hb1.alloc hz1 (.cells #[.slice none 0 0, .nilFunc] 46))
    replace hf := Lib.hid hf.symm
    clear hb1 hr
    go_wp2_with fail
    go_ret2
    exact ⟨ret_ibe4 hV.out hf.out, hb2.out⟩
set_option maxRecDepth 100000 in
set_option maxHeartbeats 1000000 in
theorem im_BoundaryEdges (n : Int) (lv : Value) (xs : List Int) (S : Nat) (w : World) (hx : Row w S lv xs) (hS : S ≤ w.heap.size) (hl : xs.length ≤ 100000000) (hT : Tab w) :
    Calls Tryd.prog 16 #[.int .i64 n, lv] w fun e w' => e = .returned (.tuple #[.int .i64 (edV n xs), .bool (famB n xs)]) ∧ Below w.heap.size w w' := by
  have hr := Lib.hid (read_any n lv xs S w hx hS hl)
  have htl := hT.lt
  obtain ⟨la, lc, rfl, _⟩ := id hx
  replace hT := Lib.hid hT
  clear hx
  go_enter Tryd.func16, Tryd.ntmps16
  go_wp2_with fail
  refine hr.out.mono ?_
  rintro e w1 (⟨hf, v, rfl, hS1, hb1⟩ | ⟨hf, rfl, hb1⟩)
  · have hlen := famB_len hf
    have hlt := famB_lt hf
    have hA := famB_asc hf
    obtain ⟨n1, n2, _⟩ := famB_all hf
    have hV := Lib.hid (show n * (xs.length : Nat) - 2 * (ieN xs : Int) = edV n xs by unfold edV; rw [if_pos hf])
    have hie := ieN_le hlen
    have hz1 := hb1.size
    obtain ⟨a', c', rfl⟩ := hS1.form
    have hb2 := hb1.alloc hz1 (.cells #[.slice a' xs.length c', (Value.func (.func 115) #[] #[])] 46)
    have hS2 := hS1.alloc (.cells #[.slice a' xs.length c', (Value.func (.func 115) #[] #[])] 46)
    have hnew := new_cell w1 #[.slice a' xs.length c', (Value.func (.func 115) #[] #[])] 46
    have g0 : (w1.alloc (.cells #[.slice a' xs.length c', (Value.func (.func 115) #[] #[])] 46)).cell? ⟨w1.heap.size, 0, none⟩ = some (.slice a' xs.length c') := by rw [cell_of_row _ _ 0 _ 46 (0, 0) hnew]; rfl
    have g1 : (w1.alloc (.cells #[.slice a' xs.length c', (Value.func (.func 115) #[] #[])] 46)).cell? ⟨w1.heap.size, 1, none⟩ = some (Value.func (.func 115) #[] #[]) := by rw [cell_of_row _ _ 1 _ 46 (0, 0) hnew]; rfl
    have hld := fun W (hW : Below (w1.heap.size + 1) (w1.alloc (.cells #[.slice a' xs.length c', (Value.func (.func 115) #[] #[])] 46)) W) => inner_edges a' c' xs _ W (hS2.below hW (by simp)).row hA hlen (Nat.le_refl _) hlt ((hT.out.below hb2 htl).below hW (by simp; omega))
    have hmul : (n * (xs.length : Nat) : Int) ≤ 2048 ∧ 0 ≤ (n * (xs.length : Nat) : Int) := ⟨by
      have : (n * (xs.length : Nat) : Int) ≤ 8 * 256 := Int.mul_le_mul n2 (by omega) (by omega) (by omega)
      omega, Int.mul_nonneg (by omega) (by omega)⟩
    obtain ⟨hm1, hm2⟩ := hmul
    obtain ⟨E, hE⟩ : ∃ E : Nat, ieN xs = E := ⟨_, rfl⟩
    rw [hE] at hie hV hld
    have hVw := Lib.hid (show IntKind.i64.wrap (IntKind.i64.wrap (n * (xs.length : Nat)) - IntKind.i64.wrap (2 * (E : Int))) = edV n xs by
      rw [← hV.out]
      obtain ⟨P, hP⟩ : ∃ P : Int, n * (xs.length : Nat) = P := ⟨_, rfl⟩
      rw [hP] at hm1 hm2 ⊢
      simp only [IntKind.wrap_i64]
      omega)
    have hz2 : (w1.alloc (.cells #[.slice a' xs.length c', (Value.func (.func 115) #[] #[])] 46)).heap.size = w1.heap.size + 1 := by simp
    have hmx : Tryd.prog.follows .mixedOrders = true := by kernel_rfl
    obtain ⟨W2, hW2⟩ : ∃ W2, w1.alloc (.cells #[.slice a' xs.length c', (Value.func (.func 115) #[] #[])] 46) = W2 := ⟨_, rfl⟩
    rw [hW2] at hb2 g0 g1 hld hz2
    have hcall := Lib.hid (show Calls Tryd.prog 45 #[.agg #[.slice a' xs.length c', (Value.func (.func 115) #[] #[])]] W2.drew fun e w' => e = .returned (.int .i64 (E : Nat)) ∧ w'.cell? ⟨w1.heap.size, 0, none⟩ = some (.slice a' xs.length c') ∧ w'.cell? ⟨w1.heap.size, 1, none⟩ = some (Value.func (.func 115) #[] #[]) ∧ Hid (Below w.heap.size w w') from by
      have hd0 : Below (w1.heap.size + 1) W2 W2.drew := ⟨rfl, rfl, rfl, Nat.le_refl _, fun _ _ => rfl⟩
      refine (hld _ hd0).mono ?_
      rintro e w' ⟨rfl, hb⟩
      have hb' : Below W2.heap.size W2 w' := ⟨hb.os, hb.tape, hb.output, hb.size, hb.block⟩
      exact ⟨rfl, (hb'.cell (p := ⟨w1.heap.size, 0, none⟩) (show w1.heap.size < W2.heap.size by omega)).trans g0, (hb'.cell (p := ⟨w1.heap.size, 1, none⟩) (show w1.heap.size < W2.heap.size by omega)).trans g1, Lib.hid (hb2.trans (hb'.mono (by omega)))⟩)
    replace hf := Lib.hid hf.symm
    replace hlt := Lib.hid hlt
    replace hA := Lib.hid hA
    replace hb2 := Lib.hid hb2
    replace hW2 := Lib.hid hW2
    replace hE := Lib.hid hE
    replace hz2 := Lib.hid hz2
    clear hS1 hb1 hS2 hr hld hnew
    go_wp2_with fail
    rw [hW2.out]
    go_region_with (go_at_call 45; refine hcall.out.mono ?_; rintro e w2 ⟨rfl, f0, f1, hb3⟩)
    all_goals
      go_wp2_with fail
      go_ret2
      exact ⟨ret_ibe4 hVw.out hf.out, hb3.out⟩
  · have hV := Lib.hid (show 0 = edV n xs by unfold edV; rw [hf]; rfl)
    have hz1 := hb1.size
    have hb2 := Lib.hid (hb1.alloc hz1 (.cells #[.slice none 0 0, .nilFunc] 46))
    replace hf := Lib.hid hf.symm
    clear hb1 hr
    go_wp2_with fail
    go_ret2
    exact ⟨ret_ibe4 hV.out hf.out, hb2.out⟩
set_option maxRecDepth 100000 in
set_option maxHeartbeats 1000000 in
theorem sp_BoundaryInner (n : Int) (lv : Value) (xs : List Int) (S : Nat) (w : World) (hx : Row w S lv xs) (hS : S ≤ w.heap.size) (hl : xs.length ≤ 100000000) :
    Calls Tryd.prog 20 #[.int .i64 n, lv] w fun e w' => e = .returned (.tuple #[.int .i64 (inV n xs), .bool (famB n xs)]) ∧ Below w.heap.size w w' := by
  have h1 := sp_FamilyIn n lv xs S w hx (by omega)
  obtain ⟨a, cap, rfl, ha⟩ := id hx
  rcases (by cases famB n xs <;> simp : famB n xs = true ∨ famB n xs = false) with hf | hf
  · have hed := fun q : Nat => sp_edges n _ xs S (w.drewN q) (hx.drewN q) hS hf
    have hV := Lib.hid (show (ieN xs : Int) = inV n xs by unfold inV; rw [if_pos hf])
    have hie := ieN_le (famB_len hf)
    rw [hf] at h1 ⊢
    obtain ⟨E, hE⟩ : ∃ E : Nat, ieN xs = E := ⟨_, rfl⟩
    rw [hE] at hie hV hed
    have hq : ((2 * E : Nat) : Int).tdiv 2 = (E : Nat) := by rw [Int.tdiv_eq_ediv_of_nonneg (by omega)]; omega
    have hq2 : ((2 * E : Nat) : Int) = 2 * (E : Int) := by omega
    obtain ⟨D, hD⟩ : ∃ D : Int, ((2 * E : Nat) : Int) = D := ⟨_, rfl⟩
    rw [hD] at hq hed hq2
    have hD0 : 0 ≤ D := by omega
    have hD1 : D ≤ 4096 := by omega
    replace hD := Lib.hid hD
    replace hq2 := Lib.hid hq2
    replace h1 := Lib.hid h1
    replace hf := Lib.hid hf
    replace hed := Lib.hid hed
    replace hE := Lib.hid hE
    clear hx ha
    go_enter Tryd.func20, Tryd.ntmps20
    go_wp2_with fail
    refine h1.out.mono ?_
    rintro e w1 ⟨rfl, q0, rfl⟩
    go_wp2_with fail
    refine (hed.out q0).mono ?_
    rintro e w2 ⟨rfl, hb⟩
    replace hb := Lib.hid ((below_drewN (Below.refl w.heap.size w) q0).trans hb)
    go_wp2_with fail
    go_ret2
    exact ⟨ret_ibe4 hV.out rfl, hb.out⟩
  · have hV := Lib.hid (show 0 = inV n xs by unfold inV; rw [hf]; rfl)
    rw [hf] at h1 ⊢
    replace h1 := Lib.hid h1
    replace hf := Lib.hid hf
    clear hx ha
    go_enter Tryd.func20, Tryd.ntmps20
    go_wp2_with fail
    refine h1.out.mono ?_
    rintro e w1 ⟨rfl, q0, rfl⟩
    go_wp2_with fail
    go_ret2
    exact ⟨ret_ibe4 hV.out rfl, below_drewN (Below.refl _ _) _⟩
set_option maxRecDepth 100000 in
set_option maxHeartbeats 1000000 in
theorem sp_BoundaryEdges (n : Int) (lv : Value) (xs : List Int) (S : Nat) (w : World) (hx : Row w S lv xs) (hS : S ≤ w.heap.size) (hl : xs.length ≤ 100000000) :
    Calls Tryd.prog 17 #[.int .i64 n, lv] w fun e w' => e = .returned (.tuple #[.int .i64 (edV n xs), .bool (famB n xs)]) ∧ Below w.heap.size w w' := by
  have h1 := sp_FamilyIn n lv xs S w hx (by omega)
  obtain ⟨a, cap, rfl, ha⟩ := id hx
  rcases (by cases famB n xs <;> simp : famB n xs = true ∨ famB n xs = false) with hf | hf
  · have hed := fun q : Nat => sp_edges n _ xs S (w.drewN q) (hx.drewN q) hS hf
    have hV := Lib.hid (show n * (xs.length : Nat) - 2 * (ieN xs : Int) = edV n xs by unfold edV; rw [if_pos hf])
    have hlen := famB_len hf
    have hie := ieN_le hlen
    obtain ⟨n1, n2, _⟩ := famB_all hf
    have hm1 : (n * (xs.length : Nat) : Int) ≤ 2048 := by
      have : (n * (xs.length : Nat) : Int) ≤ 8 * 256 := Int.mul_le_mul n2 (by omega) (by omega) (by omega)
      omega
    have hm2 : 0 ≤ (n * (xs.length : Nat) : Int) := Int.mul_nonneg (by omega) (by omega)
    rw [hf] at h1 ⊢
    obtain ⟨E, hE⟩ : ∃ E : Nat, ieN xs = E := ⟨_, rfl⟩
    rw [hE] at hie hV hed
    obtain ⟨D, hD⟩ : ∃ D : Int, ((2 * E : Nat) : Int) = D := ⟨_, rfl⟩
    rw [hD] at hed
    rw [show (2 * (E : Int)) = D by omega] at hV
    have hD0 : 0 ≤ D := by omega
    have hD1 : D ≤ 4096 := by omega
    replace hD := Lib.hid hD
    replace h1 := Lib.hid h1
    replace hf := Lib.hid hf
    replace hed := Lib.hid hed
    replace hE := Lib.hid hE
    clear hx ha
    go_enter Tryd.func17, Tryd.ntmps17
    go_wp2_with fail
    refine h1.out.mono ?_
    rintro e w1 ⟨rfl, q0, rfl⟩
    go_wp2_with fail
    refine (hed.out q0).mono ?_
    rintro e w2 ⟨rfl, hb⟩
    replace hb := Lib.hid ((below_drewN (Below.refl w.heap.size w) q0).trans hb)
    go_wp2_with fail
    go_ret2
    exact ⟨ret_ibe4 hV.out rfl, hb.out⟩
  · have hV := Lib.hid (show 0 = edV n xs by unfold edV; rw [hf]; rfl)
    rw [hf] at h1 ⊢
    replace h1 := Lib.hid h1
    replace hf := Lib.hid hf
    clear hx ha
    go_enter Tryd.func17, Tryd.ntmps17
    go_wp2_with fail
    refine h1.out.mono ?_
    rintro e w1 ⟨rfl, q0, rfl⟩
    go_wp2_with fail
    go_ret2
    exact ⟨ret_ibe4 hV.out rfl, below_drewN (Below.refl _ _) _⟩
end Go.Proofs.YtpepcjffolbdcaaDoor
