/- Families of sets of one size over the texts of chapter 5: ShadowEven, its model. -/
import Derived.Test.YtpjapoaagbdlfaaDoorLawBool
import Derived.Test.YtpjapoaagbdlfaaDoorAc1
import Derived.BigQuiet
namespace Go.Proofs.YtpjapoaagbdlfaaDoor
open Go.ChangeShapes Go.WideShapes Go.ChangeAt Go.RowKit Go.Proofs

/-- all sets have as many points as the first one. -/
def evN (xs : List Int) : Bool := xs.any fun x => cntI x != cntI (xs.getD 0 0)
def evB (n : Int) (xs : List Int) : Bool := famB n xs && (decide (0 < xs.length) && !evN xs)
theorem even_clo (k : Int) (Bk : Nat) (xs : List Int) (w : World) (hB : Bk < w.heap.size) (hc : w.cell? ⟨Bk, 0, none⟩ = some (.int .i64 k)) (hx : ∀ z ∈ xs, 0 ≤ z ∧ z < 256) :
    PredV 20 #[] #[.pointer (some ⟨Bk, 0, none⟩)] (fun x => cntI x != k) xs w := fun W x hm hb => by
  have hcW : W.cell? ⟨Bk, 0, none⟩ = some (.int .i64 k) := (hb.cell (p := ⟨Bk, 0, none⟩) hB).trans hc
  obtain ⟨x1, x2⟩ := hx x hm
  have hs := fun w => (set_size x x1 x2 w).mono (fun _ _ h => (⟨h.1, h.2.symm⟩ : _ ∧ _))
  show Calls Tryd.prog 20 #[.int .u64 x, .pointer (some ⟨Bk, 0, none⟩)] W fun e w' => e = .returned (.bool (cntI x != k)) ∧ Below W.heap.size W w'
  obtain ⟨r, hr⟩ : ∃ r, cntI x = r := ⟨_, rfl⟩
  rw [hr] at hs ⊢
  replace hs := Lib.hid hs
  replace hr := Lib.hid hr
  replace hm := Lib.hid hm
  clear hx hc hb
  go_enter Tryd.func20, Tryd.ntmps20
  go_wp2_with fail
  go_quiet ((go_at_call 18; exact Calls.quiet_of_same (hs.out _)))
  go_wp2_with fail
  go_ret
  exact ⟨rfl, below_drewN (Below.refl _ _) _⟩
set_option maxHeartbeats 2000000 in
theorem im_ShadowEven (n : Int) (lv : Value) (xs : List Int) (S : Nat) (w : World) (hx : Row w S lv xs) (hS : S ≤ w.heap.size) (hl : xs.length ≤ 100000000) :
    Calls Tryd.prog 8 #[.int .i64 n, lv] w fun e w' => e = .returned (.bool (evB n xs)) ∧ Below w.heap.size w w' := by
  have hmf := mkfunc
  have hr := read_any n lv xs S w hx hS hl
  obtain ⟨la, lc, rfl, _⟩ := id hx
  clear hx
  by_cases h0 : xs.length = 0
  · obtain rfl : xs = [] := List.length_eq_zero_iff.1 h0
    have hB := Lib.hid (show false = evB n [] by unfold evB; simp)
    replace hr := Lib.hid (show Calls Tryd.prog 17 #[.int .i64 n, .slice la 0 lc] w (ReadPost n [] w) from hr)
    show Calls Tryd.prog 8 #[.int .i64 n, .slice la 0 lc] w _
    go_enter Tryd.func8, Tryd.ntmps8
    go_wp2_with fail
    refine hr.out.mono ?_
    rintro e w1 (⟨hf, v, rfl, hS1, hb1⟩ | ⟨hf, rfl, hb1⟩)
    · obtain ⟨a', c', rfl⟩ := hS1.form
      have hz1 := hb1.size
      replace hb1 := Lib.hid (hb1.alloc hz1 (.cells #[.slice a' 0 c', (Value.func (.func 61) #[] #[])] 42))
      clear hr hS1
      go_wp2_with fail
      go_ret
      exact ⟨ret_bool hB.out, hb1.out⟩
    · replace hb1 := Lib.hid (hb1.alloc hb1.size (.cells #[.slice none 0 0, .nilFunc] 42))
      clear hr
      go_wp2_with fail
      go_ret
      exact ⟨ret_bool hB.out, hb1.out⟩
  replace hr := Lib.hid hr
  go_enter Tryd.func8, Tryd.ntmps8
  go_wp2_with fail
  refine hr.out.mono ?_
  rintro e w1 (⟨hf, v, rfl, hS1, hb1⟩ | ⟨hf, rfl, hb1⟩)
  · obtain ⟨a', c', rfl⟩ := hS1.form
    have hz1 := hb1.size
    have hlen := famB_len hf
    have hzz := famB_lt hf
    · have h0' : 0 < xs.length := by omega
      have hB : evB n xs = !evN xs := by unfold evB; rw [hf, decide_eq_true h0']; simp
      have hS2 := hS1.alloc (.cells #[.slice a' xs.length c', (Value.func (.func 61) #[] #[])] 42)
      have hR2 := hS2.row
      obtain ⟨A, C, e, hcc⟩ := id hR2
      injection e with ea _ ec
      subst ea
      subst ec
      obtain ⟨b, off, rfl, hbl, hcl⟩ := hcc h0'
      obtain ⟨x, hx⟩ : ∃ x, xs.getD 0 0 = x := ⟨_, rfl⟩
      have hc0 := hcl 0 h0'
      rw [Nat.add_zero, hx] at hc0
      obtain ⟨x1, x2⟩ := hzz x (by rw [← hx]; exact getD_mem h0')
      have hsz := fun w => (set_size x x1 x2 w)
      have hev : evN xs = xs.any (fun z => cntI z != cntI x) := by unfold evN; rw [hx]
      obtain ⟨k, hk⟩ : ∃ k, cntI x = k := ⟨_, rfl⟩
      rw [hk] at hsz hev
      have hbw := (hb1.alloc hz1 (.cells #[.slice (some ⟨b, off, none⟩) xs.length c', (Value.func (.func 61) #[] #[])] 42))
      have hbv := hbw.alloc hbw.size (.cells #[.int .i64 k] 3)
      have hcon := Lib.hid (contains_any 20 (enters_of Tryd.func20 (by kernel_rfl) rfl) #[] #[.pointer (some ⟨w1.heap.size + 1, 0, none⟩)] (fun z => cntI z != k) _ xs _ ((w1.alloc (.cells #[.slice (some ⟨b, off, none⟩) xs.length c', (Value.func (.func 61) #[] #[])] 42)).alloc (.cells #[.int .i64 k] 3)) (hS2.alloc _).row (Nat.le_refl _) (by omega)
        (even_clo k (w1.heap.size + 1) xs _ (by simp) (by have := new_cell1 w1 #[.int .i64 k] 3 (.cells #[.slice (some ⟨b, off, none⟩) xs.length c', (Value.func (.func 61) #[] #[])] 42); rw [cell_of_row _ _ 0 _ 3 (0, 0) this]; rfl) hzz))
      rw [← hev] at hcon
      obtain ⟨B, hBB⟩ : ∃ B, evN xs = B := ⟨_, rfl⟩
      rw [hBB] at hB hcon
      have hd0 : (((xs.length : Nat) : Int) == 0) = false := by rw [beq_eq_false_iff_ne]; omega
      have hnil : ¬ ((xs.length : Nat) : Int) = 0 := by omega
      have hpos : (0 : Int) < (xs.length : Nat) := by omega
      replace hB := Lib.hid hB
      replace hBB := Lib.hid hBB
      replace hev := Lib.hid hev
      replace hk := Lib.hid hk
      replace hsz := Lib.hid hsz
      replace hx := Lib.hid hx
      replace hbv := Lib.hid hbv
      replace hf := Lib.hid hf
      replace hzz := Lib.hid hzz
      clear hr hS1 hS2 hR2 hb1 hbw hcc hcl
      go_wp2_with (go_at_call 18; refine (hsz.out _).mono ?_; rintro e w' ⟨rfl, rfl⟩)
      refine hcon.out.mono ?_
      rintro e w3 ⟨rfl, hb3⟩
      have hzv := hbv.out.size
      replace hb3 := Lib.hid (hbv.out.trans (hb3.mono hzv))
      go_wp2_with fail
      go_ret
      exact ⟨ret_bool hB.out.symm, hb3.out⟩
  · have hB := Lib.hid (show false = evB n xs by unfold evB; rw [hf]; rfl)
    replace hb1 := Lib.hid (hb1.alloc hb1.size (.cells #[.slice none 0 0, .nilFunc] 42))
    replace hf := Lib.hid hf
    clear hr
    go_wp2_with fail
    go_ret
    exact ⟨ret_bool hB.out, hb1.out⟩

end Go.Proofs.YtpjapoaagbdlfaaDoor
