/- The program's ChainWide. -/
import Derived.Test.YtgkbaenjniapiaaCw3
import Derived.Test.YtgkbaenjniapiaaFLaws
namespace Go.Proofs.Ytgkbaenjniapiaa
open Go.ChangeShapes Go.WideShapes Go.ChangeAt Go.RowKit Go.Proofs

theorem wI_nil : wI [] = 0 := (wI_eq isW_nil).symm
theorem wI_len (xs : List Int) : wI xs ≤ xs.length := isW_le (wI_is xs)
theorem wI_apart {x : Int} {r : List Int} (he : (apL x r).length = r.length) : wI (x :: r) = 1 + wI (apL x r) := (wI_eq (isW_apart he (wI_is _))).symm
theorem wI_both (x : Int) (r : List Int) : wI (x :: r) = max (1 + wI (apL x r)) (wI r) := (wI_eq (isW_both (wI_is _) (wI_is _))).symm
theorem apL_len (x : Int) (r : List Int) : (apL x r).length ≤ r.length := List.length_filter_le _ _
theorem apL_mem {x z : Int} {r : List Int} (h : z ∈ apL x r) : z ∈ r := (List.mem_filter.1 h).1
theorem SetL.caps {w : World} {B : Nat} {a : Option Addr} {n c : Nat} {xs : List Int} (h : SetL w B (.slice a n c) xs) : xs.length ≤ c ∧ c ≤ maxLen := by
  rcases h.out with ⟨h1, rfl⟩ | ⟨g, cap, cur, h1, h2, h3, h4, h5, _⟩
  · cases h1; exact ⟨by simp, by unfold maxLen; omega⟩
  · cases h1; exact ⟨h4, h5⟩
set_option maxHeartbeats 8000000 in
theorem widest_at : ∀ (M : Nat) (xs : List Int) (a : Option Addr) (c S : Nat) (w : World), xs.length ≤ M → xs.length ≤ 14 → (∀ z ∈ xs, 0 ≤ z ∧ z < 256) → SRow w S (.slice a xs.length c) xs → S ≤ w.heap.size → xs.length ≤ c → c ≤ maxLen →
    Calls Try.prog 48 #[.slice a xs.length c] w fun e w' => e = .returned (.int .i64 (wI xs : Nat)) ∧ Below w.heap.size w w'
  | M, [], a, c, S, w, _, _, _, _, _, _, _ => by
    have h0 := Lib.hid wI_nil
    show Calls Try.prog 48 #[.slice a 0 c] w _
    go_enter Try.func48, Try.ntmps48
    go_wp2_with fail
    go_ret
    exact ⟨by rw [h0.out]; rfl, Below.refl _ _⟩
  | 0, x :: r, a, c, S, w, h, _, _, _, _, _, _ => by simp at h
  | M + 1, x :: r, a, c, S, w, hM, h14, hz, hx, hS, hc, hcm => by
    obtain ⟨x1, x2⟩ := hz x (List.mem_cons_self ..)
    have hzr : ∀ z ∈ r, 0 ≤ z ∧ z < 256 := fun z h => hz z (List.mem_cons_of_mem _ h)
    obtain ⟨a', c', he, hcells⟩ := hx
    cases he
    obtain ⟨b, off, rfl, hbS, hcl⟩ := hcells (by rw [List.length_cons]; omega)
    rw [List.length_cons] at hM h14 hc hcl ⊢
    have e0 : w.cell? ⟨b, off, none⟩ = some (.int .u64 x) := by have := hcl 0 (by omega); simpa using this
    have hcr : ∀ i, i < r.length → w.cell? ⟨b, off + 1 + i, none⟩ = some (.int .u64 (r.getD i 0)) := fun i hi => by
      have := hcl (i + 1) (by omega)
      rw [show off + 1 + i = off + (i + 1) by omega]
      simpa using this
    have m1 : (1 : Int) ≤ (r.length + 1 : Nat) := by omega
    have m0 : (0 : Int) < (r.length + 1 : Nat) := by omega
    have m2 : ((r.length : Int) + 1 == 0) = false := by rw [beq_eq_false_iff_ne]; omega
    have m3 : ((r.length + 1 : Nat) : Int) ≤ (c : Nat) := by omega
    have hap := apL_len x r
    have ih1 := Lib.hid (fun a c S W h1 h2 h3 h4 => widest_at M (apL x r) a c S W (by omega) (by omega) (fun z h => hzr z (apL_mem h)) h1 h2 h3 h4)
    have ih2 := Lib.hid (fun a c S W h1 h2 h3 h4 => widest_at M r a c S W (by omega) (by omega) hzr h1 h2 h3 h4)
    have hw1 := wI_apart (x := x) (r := r)
    have hw2 := wI_both x r
    have hwa := wI_len (apL x r)
    have hwr := wI_len r
    replace hzr := Lib.hid hzr
    by_cases hc1 : c = 1
    · obtain rfl : r = [] := List.length_eq_zero_iff.1 (by omega)
      have hap0 : apL x [] = [] := rfl
      have hv := Lib.hid (show wI [x] = 1 + wI (apL x []) from hw1 rfl)
      have hcl0 : ∀ W, Calls Try.prog 79 #[.slice (some ⟨b, off, none⟩) 0 0] W (fun e w' => ∃ v, e = .returned v ∧ SetL w' W.heap.size v [] ∧ Below W.heap.size W w') := fun W => clone_at (some ⟨b, off, none⟩) 0 [] W.heap.size W ⟨_, _, rfl, fun h => by simp at h⟩ (Nat.le_refl _) (by simp)
      replace hcl0 := Lib.hid hcl0
      replace hw1 := Lib.hid hw1
      replace hw2 := Lib.hid hw2
      go_enter Try.func48, Try.ntmps48
      go_wp2_with fail
      go_quiet (fail)
      go_wp2_with fail
      refine (hcl0.out _).mono ?_
      rintro e w1 ⟨v1, rfl, hS1, hb1⟩
      obtain ⟨a1, c1, rfl⟩ := hS1.form
      have hb1' := Lib.hid ((below_drewN (Below.refl w.heap.size w) nq).trans hb1)
      replace hS1 := Lib.hid (show SetL w1 w.heap.size (.slice a1 0 c1) [] from hS1)
      clear hb1
      go_wp2_with fail
      refine (delete_part x _ [] _ _ hS1.out (by simp) x1 x2 hzr.out).mono ?_
      rintro e w2 ⟨v2, rfl, hS2, hb2⟩
      obtain ⟨a2, c2, rfl⟩ := hS2.form
      have hb2' := Lib.hid (hb1'.out.trans hb2)
      obtain ⟨k1, k2⟩ := hS2.caps
      have hr2 := Lib.hid hS2.row
      clear hb2 hS2 hS1
      go_wp2_with fail
      refine (ih1.out _ _ _ _ hr2.out (Nat.le_refl _) k1 k2).mono ?_
      rintro e w3 ⟨rfl, hb3⟩
      have hb3' := Lib.hid (hb2'.out.trans (hb3.mono hb2'.out.size))
      clear hb3
      go_wp2_with fail
      go_ret
      exact ⟨by rw [hv.out]; first | rfl | go_num, hb3'.out⟩
    · have hc2 : ¬ ((c : Int) = 1) := by omega
      have hrow := Lib.hid (show ∀ W, Below w.heap.size w W → SRow W w.heap.size (.slice (some ⟨b, off + 1, none⟩) r.length (c - 1)) r from fun W hW => ⟨_, _, rfl, fun h => ⟨b, off + 1, rfl, by omega, fun i hi => (hW.cell (p := ⟨b, off + 1 + i, none⟩) (show b < w.heap.size by omega)).trans (hcr i hi)⟩⟩)
      by_cases heq : (apL x r).length = r.length
      · have hv := Lib.hid (hw1 heq)
        have hq : (((apL x r).length : Int) == (r.length : Int)) = true := by rw [heq]; simp
        replace heq := Lib.hid heq
        replace hw1 := Lib.hid hw1
        replace hw2 := Lib.hid hw2
        go_enter Try.func48, Try.ntmps48
        go_wp2_with fail
        go_quiet (fail)
        go_wp2_with fail
        refine (clone_at _ _ r w.heap.size _ (hrow.out _ (below_drewN (Below.refl _ w) _)) (Nat.le_refl _) (by omega)).mono ?_
        rintro e w1 ⟨v1, rfl, hS1, hb1⟩
        obtain ⟨a1, c1, rfl⟩ := hS1.form
        have hb1' := Lib.hid ((below_drewN (Below.refl w.heap.size w) nq).trans hb1)
        replace hS1 := Lib.hid (show SetL w1 w.heap.size (.slice a1 r.length c1) r from hS1)
        clear hb1
        go_wp2_with fail
        refine (delete_part x _ r _ _ hS1.out (by omega) x1 x2 hzr.out).mono ?_
        rintro e w2 ⟨v2, rfl, hS2, hb2⟩
        obtain ⟨a2, c2, rfl⟩ := hS2.form
        have hb2' := Lib.hid (hb1'.out.trans hb2)
        obtain ⟨k1, k2⟩ := hS2.caps
        have hr2 := Lib.hid hS2.row
        clear hb2 hS2 hS1
        go_wp2_with fail
        refine (ih1.out _ _ _ _ hr2.out (Nat.le_refl _) k1 k2).mono ?_
        rintro e w3 ⟨rfl, hb3⟩
        have hb3' := Lib.hid (hb2'.out.trans (hb3.mono hb2'.out.size))
        clear hb3
        go_wp2_with fail
        go_ret
        exact ⟨by rw [hv.out]; first | rfl | go_num, hb3'.out⟩
      · have hv := Lib.hid hw2
        have hq : (((apL x r).length : Int) == (r.length : Int)) = false := by rw [beq_eq_false_iff_ne]; omega
        have hcc1 : r.length ≤ c - 1 := by omega
        have hcc2 : c - 1 ≤ maxLen := by omega
        replace heq := Lib.hid heq
        replace hw1 := Lib.hid hw1
        replace hw2 := Lib.hid hw2
        go_enter Try.func48, Try.ntmps48
        go_wp2_with fail
        go_quiet (fail)
        go_wp2_with fail
        refine (clone_at _ _ r w.heap.size _ (hrow.out _ (below_drewN (Below.refl _ w) _)) (Nat.le_refl _) (by omega)).mono ?_
        rintro e w1 ⟨v1, rfl, hS1, hb1⟩
        obtain ⟨a1, c1, rfl⟩ := hS1.form
        have hb1' := Lib.hid ((below_drewN (Below.refl w.heap.size w) nq).trans hb1)
        replace hS1 := Lib.hid (show SetL w1 w.heap.size (.slice a1 r.length c1) r from hS1)
        clear hb1
        go_wp2_with fail
        refine (delete_part x _ r _ _ hS1.out (by omega) x1 x2 hzr.out).mono ?_
        rintro e w2 ⟨v2, rfl, hS2, hb2⟩
        obtain ⟨a2, c2, rfl⟩ := hS2.form
        have hb2' := Lib.hid (hb1'.out.trans hb2)
        obtain ⟨k1, k2⟩ := hS2.caps
        have hr2 := Lib.hid hS2.row
        clear hb2 hS2 hS1
        go_wp2_with fail
        refine (ih1.out _ _ _ _ hr2.out (Nat.le_refl _) k1 k2).mono ?_
        rintro e w3 ⟨rfl, hb3⟩
        have hb3' := Lib.hid (hb2'.out.trans (hb3.mono hb2'.out.size))
        clear hb3
        go_wp2_with fail
        refine (ih2.out _ _ w.heap.size _ (hrow.out _ hb3'.out) hb3'.out.size hcc1 hcc2).mono ?_
        rintro e w4 ⟨rfl, hb4⟩
        have hb4' := Lib.hid (hb3'.out.trans (hb4.mono hb3'.out.size))
        clear hb4
        go_wp2_with fail
        go_ret
        have e : max (1 + ((wI (apL x r) : Nat) : Int)) ((wI r : Nat) : Int) = ((wI (x :: r) : Nat) : Int) := by rw [hv.out]; omega
        exact ⟨congrArg (fun z => Ending.returned (.int .i64 z)) e, hb4'.out⟩
theorem read_yes {n : Int} {xs : List Int} {w w1 : World} {e : Ending} (hf : famB n xs = true) (h : ReadPost n xs w e w1) : ∃ v, e = .returned (.tuple #[.agg #[v, (Value.func (.func 71) #[] #[])], .bool true]) ∧ SetL w1 w.heap.size v xs ∧ Below w.heap.size w w1 := by
  rcases h with ⟨_, h⟩ | ⟨h, _⟩
  · exact h
  · rw [hf] at h; cases h
theorem read_no {n : Int} {xs : List Int} {w w1 : World} {e : Ending} (hf : famB n xs = false) (h : ReadPost n xs w e w1) : e = .returned (.tuple #[.agg #[.slice none 0 0, .nilFunc], .bool false]) ∧ Below w.heap.size w w1 := by
  rcases h with ⟨h, _⟩ | ⟨_, h⟩
  · rw [hf] at h; cases h
  · exact h
def wideB (n : Int) (xs : List Int) : Bool := famB n xs && decide (xs.length ≤ 14)
def wideI (n : Int) (xs : List Int) : Int := if wideB n xs then ((wI xs : Nat) : Int) else 0
def NumPost (c : Int) (b : Bool) (w : World) (e : Ending) (w' : World) : Prop := e = .returned (.tuple #[.int .i64 c, .bool b]) ∧ Below w.heap.size w w'
set_option maxHeartbeats 4000000 in
theorem im_ChainWide (n : Int) (lv : Value) (xs : List Int) (S : Nat) (w : World) (hx : Row w S lv xs) (hS : S ≤ w.heap.size) (hl : xs.length ≤ 100000000) :
    Calls Try.prog 18 #[.int .i64 n, lv] w (NumPost (wideI n xs) (wideB n xs) w) := by
  have hr := Lib.hid (read_any n lv xs S w hx hS hl)
  obtain ⟨la, lc, rfl, _⟩ := id hx
  clear hx
  unfold wideI
  rcases (by cases famB n xs <;> simp : famB n xs = true ∨ famB n xs = false) with hf | hf
  · have hfh := Lib.hid hf
    have hlen := famB_len hf
    have hzz := Lib.hid (famB_lt hf)
    have hW : wideB n xs = decide (xs.length ≤ 14) := by unfold wideB; rw [hf, Bool.true_and]
    rw [hW]
    replace hf := Lib.hid hf
    replace hW := Lib.hid hW
    by_cases h14 : xs.length ≤ 14
    · have hgt : ¬ ((14 : Int) < (xs.length : Nat)) := by omega
      rw [decide_eq_true h14, if_pos rfl]
      go_enter Try.func18, Try.ntmps18
      go_wp2_with fail
      refine hr.out.mono ?_
      rintro e w1 hpost
      obtain ⟨v, rfl, hS1, hb1⟩ := read_yes hfh.out hpost
      obtain ⟨a', c', rfl⟩ := hS1.form
      have hz1 := hb1.size
      obtain ⟨k1, k2⟩ := hS1.caps
      obtain ⟨W1, hW1⟩ : ∃ W1, w1.alloc (.cells #[.slice a' xs.length c', (Value.func (.func 71) #[] #[])] 43) = W1 := ⟨_, rfl⟩
      have hbw := hb1.alloc hz1 (.cells #[.slice a' xs.length c', (Value.func (.func 71) #[] #[])] 43)
      have hS2 := hS1.alloc (.cells #[.slice a' xs.length c', (Value.func (.func 71) #[] #[])] 43)
      have hc1 := heap_alloc_new w1 (.cells #[.slice a' xs.length c', (Value.func (.func 71) #[] #[])] 43 (0, 0))
      have hs1 : W1.heap.size = w1.heap.size + 1 := by rw [← hW1]; simp
      rw [hW1] at hbw hS2 hc1
      obtain ⟨l0, l1⟩ := pair_cells hc1 (Below.refl W1.heap.size W1) (by omega)
      have l0' : (w1.alloc (.cells #[.slice a' xs.length c', (Value.func (.func 71) #[] #[])] 43)).cell? ⟨w1.heap.size, 0, none⟩ = some (.slice a' xs.length c') := by rw [hW1]; exact l0
      have hrow := Lib.hid hS2.row
      replace hbw := Lib.hid hbw
      replace hc1 := Lib.hid hc1
      clear hS2 hS1 hb1 hr
      have hwid := widest_at 14 xs a' c' W1.heap.size W1 h14 h14 hzz.out hrow.out (Nat.le_refl _) k1 k2
      replace hW1 := Lib.hid hW1
      replace hwid := Lib.hid hwid
      go_wp2_with fail
      rw [hW1.out]
      refine hwid.out.mono ?_
      rintro e w3 ⟨rfl, hb3⟩
      have hb3' := Lib.hid (hbw.out.trans (hb3.mono hbw.out.size))
      clear hb3
      go_wp2_with fail
      go_ret2
      exact ⟨rfl, hb3'.out⟩
    · have hgt : (14 : Int) < (xs.length : Nat) := by omega
      rw [decide_eq_false h14, if_neg (by simp)]
      go_enter Try.func18, Try.ntmps18
      go_wp2_with fail
      refine hr.out.mono ?_
      rintro e w1 hpost
      obtain ⟨v, rfl, hS1, hb1⟩ := read_yes hfh.out hpost
      obtain ⟨a', c', rfl⟩ := hS1.form
      have hz1 := hb1.size
      obtain ⟨k1, k2⟩ := hS1.caps
      obtain ⟨W1, hW1⟩ : ∃ W1, w1.alloc (.cells #[.slice a' xs.length c', (Value.func (.func 71) #[] #[])] 43) = W1 := ⟨_, rfl⟩
      have hbw := hb1.alloc hz1 (.cells #[.slice a' xs.length c', (Value.func (.func 71) #[] #[])] 43)
      have hS2 := hS1.alloc (.cells #[.slice a' xs.length c', (Value.func (.func 71) #[] #[])] 43)
      have hc1 := heap_alloc_new w1 (.cells #[.slice a' xs.length c', (Value.func (.func 71) #[] #[])] 43 (0, 0))
      have hs1 : W1.heap.size = w1.heap.size + 1 := by rw [← hW1]; simp
      rw [hW1] at hbw hS2 hc1
      obtain ⟨l0, l1⟩ := pair_cells hc1 (Below.refl W1.heap.size W1) (by omega)
      have l0' : (w1.alloc (.cells #[.slice a' xs.length c', (Value.func (.func 71) #[] #[])] 43)).cell? ⟨w1.heap.size, 0, none⟩ = some (.slice a' xs.length c') := by rw [hW1]; exact l0
      have hrow := Lib.hid hS2.row
      replace hbw := Lib.hid hbw
      replace hc1 := Lib.hid hc1
      clear hS2 hS1 hb1 hr
      replace hW1 := Lib.hid hW1
      go_wp2_with fail
      rw [hW1.out]
      go_ret2
      exact ⟨rfl, hbw.out⟩
  · have hW : wideB n xs = false := by unfold wideB; rw [hf, Bool.false_and]
    rw [hW, if_neg (by simp)]
    have hfh := Lib.hid hf
    replace hf := Lib.hid hf
    replace hW := Lib.hid hW
    go_enter Try.func18, Try.ntmps18
    go_wp2_with fail
    refine hr.out.mono ?_
    rintro e w1 hpost
    obtain ⟨rfl, hb1⟩ := read_no hfh.out hpost
    replace hb1 := Lib.hid (hb1.alloc hb1.size (.cells #[.slice none 0 0, .nilFunc] 43))
    clear hr
    go_wp2_with fail
    go_ret2
    exact ⟨rfl, hb1.out⟩
end Go.Proofs.Ytgkbaenjniapiaa
