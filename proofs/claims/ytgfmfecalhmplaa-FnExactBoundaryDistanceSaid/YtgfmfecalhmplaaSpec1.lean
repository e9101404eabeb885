/- The model's functions on families: which lists are families; marks; lists of marks. -/
import Derived.Test.YtgfmfecalhmplaaFams4
namespace Go.Proofs.Ytgfmfecalhmplaa
open Go.ChangeShapes Go.WideShapes Go.ChangeAt Go.RowKit Go.Proofs

theorem asc_step {xs : List Int} {k : Nat} {x : Int} (hk : k < xs.length) (hx : xs.getD k 0 = x) (hA : Asc (xs.take k)) (h : k = 0 ∨ xs.getD (k - 1) 0 < x) : Asc (xs.take (k + 1)) := by
  rw [take_snoc hk, hx]
  refine asc_snoc hA fun a ha => ?_
  rcases h with rfl | h
  · simp at ha
  · obtain ⟨i, hi, rfl⟩ := List.getElem_of_mem ha
    have hi' : i < k := by rw [List.length_take] at hi; omega
    have e : (xs.take k)[i] = xs.getD i 0 := by rw [List.getElem_take, List.getD_eq_getElem?_getD, List.getElem?_eq_getElem (by omega)]; rfl
    rw [e]
    by_cases e2 : i = k - 1
    · subst e2; exact h
    · have h3 := asc_get hA (i := i) (j := k - 1) (by omega) (by rw [List.length_take]; omega)
      have e3 : ∀ j, j < k → (xs.take k).getD j 0 = xs.getD j 0 := fun j hj => by rw [List.getD_eq_getElem?_getD, List.getElem?_take, if_pos hj, List.getD_eq_getElem?_getD]
      rw [e3 i hi', e3 (k - 1) (by omega)] at h3
      omega
theorem le_prev {a b : Int} (h : ¬ a < b) : decide (b ≤ a) = true := decide_eq_true (by omega)
theorem lt_prev {a b : Int} (h : a < b) : decide (b ≤ a) = false := decide_eq_false (by omega)
theorem sp_set_q {n x : Int} {b : Bool} (h : setB n x = b) (W : World) (m : Nat) : Calls Try.prog 22 #[.int .i64 n, .int .i64 x] (W.drewN m) fun e w' => e = .returned (.bool b) ∧ ∃ q, w' = W.drewN q := by
  cases b with
  | true => exact (sp_set_in_yes n x h _).mono fun _ _ ⟨a, b⟩ => ⟨a, m, b.symm⟩
  | false => exact (sp_set_in_no n x h _).mono fun _ _ ⟨a, b⟩ => ⟨a, m, b.symm⟩
set_option maxHeartbeats 2000000 in
theorem sp_FamilyIn (n : Int) (lv : Value) (xs : List Int) (S : Nat) (w : World) (hx : Row w S lv xs) (hl : xs.length ≤ 1073741824) :
    Calls Try.prog 30 #[.int .i64 n, lv] w fun e w' => e = .returned (.bool (famB n xs)) ∧ ∃ q, w' = w.drewN q := by
  obtain ⟨a, cap, rfl, ha⟩ := hx
  replace ha := Lib.hid ha
  go_enter Try.func30, Try.ntmps30
  go_wp2_with fail
  go_loopw [5] (fun q wr => ∃ k : Nat, k ≤ xs.length ∧ q = .int .i64 k ∧ Hid (∃ m, wr = w.drewN m) ∧ Hid (allB n (xs.take k) = true) ∧ Hid (Asc (xs.take k))) (fun q _ => xs.length - (intOf q).toNat)
  case atStart => exact ⟨0, by omega, rfl, Lib.hid ⟨0, rfl⟩, Lib.hid rfl, Lib.hid (by unfold Asc; exact List.Pairwise.nil)⟩
  case round =>
    obtain ⟨k, hk, rfl, hw, hall, hA⟩ := hrel
    have hwd : ∀ p, Hid (∃ m, wr.drewN p = w.drewN m) := fun p => by
      obtain ⟨m, h⟩ := hw.out
      exact Lib.hid ⟨m + p, by rw [h]; exact World.drewN_drewN _ _ _⟩
    by_cases hlt : k < xs.length
    · obtain ⟨b1, o1, rfl, s1, c1⟩ := ha.out (by omega)
      have k1 : (0 : Int) ≤ (k : Int) := by omega
      have k2 : (k : Int) < (xs.length : Nat) := by omega
      have c2 : ∀ i, i < xs.length → wr.cell? ⟨b1, o1 + i, none⟩ = some (.int .i64 (xs.getD i 0)) := fun i hi => by
        obtain ⟨m, h⟩ := hw.out
        rw [h]; exact c1 i hi
      have e1 := c2 k hlt
      obtain ⟨x, hx⟩ : ∃ x, xs.getD k 0 = x := ⟨_, rfl⟩
      rw [hx] at e1
      rcases set_in_cases n x with hs | hs
      · have hsi := Lib.hid (fun W => sp_set_q hs W)
        have hall' := Lib.hid (allB_step hlt hx hall.out hs)
        by_cases h0 : k = 0
        · subst h0
          have hA' := Lib.hid (asc_step hlt hx hA.out (.inl rfl))
          rw [Nat.add_zero] at e1
          clear hall hA c1 c2 hx hs hw
          go_wp2_with fail
          go_quiet ((go_at_call 22; exact hsi.out _ _))
          go_wp2_with fail
          go_roundw
          case rel => exact ⟨1, by omega, by simp, hwd _, hall', hA'⟩
          case measure => simp [intOf]; omega
        · have k3 : (0 : Int) < (k : Int) := by omega
          have e2 := c2 (k - 1) (by omega)
          obtain ⟨y, hy⟩ : ∃ y, xs.getD (k - 1) 0 = y := ⟨_, rfl⟩
          rw [hy] at e2
          obtain ⟨j, rfl⟩ : ∃ j : Nat, k = j + 1 := ⟨k - 1, by omega⟩
          rw [Nat.add_sub_cancel] at e2 hy
          have j1 : (0 : Int) ≤ (j : Int) := by omega
          have j2 : (j : Int) < (xs.length : Nat) := by omega
          by_cases hyx : y < x
          · have hA' := Lib.hid (asc_step hlt hx hA.out (.inr (by rw [Nat.add_sub_cancel, hy]; exact hyx)))
            have hd := lt_prev hyx
            clear hall hA c1 c2 hx hs hw hy
            go_wp2_with fail
            go_quiet ((go_at_call 22; exact hsi.out _ _))
            go_wp2_with fail
            go_roundw
            case rel => exact ⟨j + 1 + 1, by omega, by go_num, hwd _, hall', hA'⟩
            case measure => simp [intOf]; omega
          · have hno := Lib.hid (show famB n xs = false from famB_mk0 (fun h => by
              have := asc_get h.2.2 (i := j) (j := j + 1) (by omega) hlt
              rw [hy, hx] at this
              exact hyx this))
            have hd := le_prev hyx
            clear hall hA c1 c2 hx hs hw hy
            go_wp2_with fail
            go_quiet ((go_at_call 22; exact hsi.out _ _))
            go_wp2_with fail
            go_ret
            exact ⟨ret_bool hno.out.symm, (hwd _).out⟩
      · have hno := Lib.hid (show famB n xs = false from famB_no (by unfold colB; rw [allB_fail hlt hx hs, Bool.and_false]))
        have hsi := Lib.hid (fun W => sp_set_q hs W)
        clear hall hA c1 c2 hx hs hw
        go_wp2_with fail
        go_quiet ((go_at_call 22; exact hsi.out _ _))
        go_wp2_with fail
        go_ret
        exact ⟨ret_bool hno.out.symm, (hwd _).out⟩
    · obtain rfl : k = xs.length := by omega
      have hpp := Lib.hid (l1pts n)
      have hf := Lib.hid (show ptsB n = famB n xs by
        have h1 := hall.out
        have h2 := hA.out
        rw [List.take_length] at h1 h2
        unfold famB colB
        rw [h1, sortL_asc h2]; simp)
      clear hall hA
      go_wp2_with (go_at_call 34; refine (hpp.out _).mono ?_; rintro e w' ⟨rfl, rfl⟩)
      go_ret
      exact ⟨ret_bool hf.out, hw.out⟩
end Go.Proofs.Ytgfmfecalhmplaa
