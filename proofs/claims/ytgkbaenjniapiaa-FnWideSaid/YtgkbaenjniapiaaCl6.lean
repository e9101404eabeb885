/- ChainLong: the program and the model. -/
import Derived.Test.YtgkbaenjniapiaaCl5
import Derived.Test.YtgkbaenjniapiaaCw4
import Derived.Test.YtgkbaenjniapiaaAs2
import Derived.Test.YtgkbaenjniapiaaLawBool
namespace Go.Proofs.Ytgkbaenjniapiaa
open Go.ChangeShapes Go.WideShapes Go.ChangeAt Go.RowKit Go.Proofs

def lngI (n : Int) (xs : List Int) : Int := if famB n xs then ((longI xs : Nat) : Int) else 0
theorem long_over {W : World} {xs : List Int} {V : Nat → Value} {C : Nat → List Int} (h : ChOK W xs.reverse xs.length V C) : lgst 0 C xs.length = longI xs := by
  have := lgst_up h (by rw [List.length_reverse]; exact Nat.le_refl _) 0 xs.length (Nat.le_refl _)
  rw [this, List.take_of_length_le (by rw [List.length_reverse]; exact Nat.le_refl _), List.reverse_reverse]
  rfl
theorem long_len (xs : List Int) : longI xs ≤ xs.length := upM_len _ xs 0
set_option maxHeartbeats 4000000 in
theorem im_ChainLong (n : Int) (lv : Value) (xs : List Int) (S : Nat) (w : World) (hx : Row w S lv xs) (hS : S ≤ w.heap.size) (hl : xs.length ≤ 100000000) :
    Calls Try.prog 20 #[.int .i64 n, lv] w (NumPost (lngI n xs) (famB n xs) w) := by
  have hr := Lib.hid (read_any n lv xs S w hx hS hl)
  obtain ⟨la, lc, rfl, _⟩ := id hx
  clear hx
  unfold lngI
  rcases (by cases famB n xs <;> simp : famB n xs = true ∨ famB n xs = false) with hf | hf
  · have hfh := Lib.hid hf
    have hlen := famB_len hf
    have hzz := Lib.hid (famB_lt hf)
    rw [hf, if_pos rfl]
    replace hf := Lib.hid hf
    go_enter Try.func20, Try.ntmps20
    go_wp2_with fail
    refine hr.out.mono ?_
    rintro e w1 hpost
    obtain ⟨v, rfl, hS1, hb1⟩ := read_yes hfh.out hpost
    obtain ⟨a', c', rfl⟩ := hS1.form
    have hz1 := hb1.size
    obtain ⟨W1, hW1⟩ : ∃ W1, w1.alloc (.cells #[.slice a' xs.length c', (Value.func (.func 71) #[] #[])] 43) = W1 := ⟨_, rfl⟩
    have hbw := hb1.alloc hz1 (.cells #[.slice a' xs.length c', (Value.func (.func 71) #[] #[])] 43)
    have hS2 := hS1.alloc (.cells #[.slice a' xs.length c', (Value.func (.func 71) #[] #[])] 43)
    have hc1 := heap_alloc_new w1 (.cells #[.slice a' xs.length c', (Value.func (.func 71) #[] #[])] 43 (0, 0))
    have hs1 : W1.heap.size = w1.heap.size + 1 := by rw [← hW1]; simp
    rw [hW1] at hbw hS2 hc1
    obtain ⟨l0, l1⟩ := pair_cells hc1 (Below.refl W1.heap.size W1) (by omega)
    have l0' : (w1.alloc (.cells #[.slice a' xs.length c', (Value.func (.func 71) #[] #[])] 43)).cell? ⟨w1.heap.size, 0, none⟩ = some (.slice a' xs.length c') := by rw [hW1]; exact l0
    have l1' : (w1.alloc (.cells #[.slice a' xs.length c', (Value.func (.func 71) #[] #[])] 43)).cell? ⟨w1.heap.size, 1, none⟩ = some (Value.func (.func 71) #[] #[]) := by rw [hW1]; exact l1
    have hea := Lib.hid (from_each (.slice a' xs.length c') xs W1.heap.size W1 hS2.row (Nat.le_refl _) hlen hzz.out)
    replace hbw := Lib.hid hbw
    replace hc1 := Lib.hid hc1
    replace hW1 := Lib.hid hW1
    clear hS2 hS1 hb1 hr
    go_wp2_with fail
    rw [hW1.out]
    refine hea.out.mono ?_
    rintro e w2 ⟨v, V, C, rfl, hR, hC, hb2⟩
    obtain ⟨a2, c2, rfl, hcells⟩ := plinks_read hR
    have hov := over_chains 0 a2 xs.length c2 V C w2 (by omega) (by omega) (by omega) hcells (fun j hj => ⟨(hC j hj).1, (hC j hj).2.1, (hC j hj).2.2.1⟩)
    obtain ⟨L, hLv, hLl⟩ := best_ok (s := 0) xs.length (fun j hj => (hC j hj).1)
    rw [long_over hC] at hLl
    have hll := long_len xs
    obtain ⟨p, hp⟩ : ∃ p, bestV 0 C V xs.length = p := ⟨_, rfl⟩
    rw [hp] at hov hLv
    have hln := length_at L p w2 hLv (by omega)
    rw [hLl] at hln
    replace hov := Lib.hid hov
    replace hln := Lib.hid hln
    replace hp := Lib.hid hp
    have hb3 := Lib.hid (hbw.out.trans (hb2.mono hbw.out.size))
    clear hb2 hR hC hcells
    go_wp2_with (first | (go_at_call 51; refine hov.out.mono ?_; rintro e w' ⟨rfl, rfl⟩) | (go_at_call 53; refine hln.out.mono ?_; rintro e w' ⟨rfl, rfl⟩))
    go_ret2
    exact ⟨rfl, hb3.out⟩
  · have hfh := Lib.hid hf
    rw [hf, if_neg (by simp)]
    replace hf := Lib.hid hf
    go_enter Try.func20, Try.ntmps20
    go_wp2_with fail
    refine hr.out.mono ?_
    rintro e w1 hpost
    obtain ⟨rfl, hb1⟩ := read_no hfh.out hpost
    have hb3 := Lib.hid (hb1.alloc hb1.size (.cells #[.slice none 0 0, .nilFunc] 43))
    clear hr
    go_wp2_with fail
    go_ret2
    exact ⟨rfl, hb3.out⟩
end Go.Proofs.Ytgkbaenjniapiaa
