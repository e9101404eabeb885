/- The model: families of lists, unions, common sets, what is left. -/
import Derived.Test.YtgkbaenjniapiaaSpec2
namespace Go.Proofs.Ytgkbaenjniapiaa
open Go.ChangeShapes Go.WideShapes Go.ChangeAt Go.RowKit Go.Proofs

theorem mkL_sort {n : Int} {xs : List Int} (hall : allB n xs = true) : mkL (fun j => memB (j : Nat) xs) (2 ^ n.toNat) = sortL xs := by
  refine asc_ext (mkL_asc _ _) (asc_sortL xs) fun z => ?_
  rw [mem_mkL, mem_sortL]
  constructor
  · rintro ⟨⟨h1, _⟩, h2⟩
    have := memB_yes h2
    rwa [Int.toNat_of_nonneg h1] at this
  · intro h
    obtain ⟨t, rfl, ht⟩ := set_nat (allB_yes hall z h)
    exact ⟨⟨by omega, by omega⟩, memB_mk (by simpa using h)⟩
theorem family_at (n : Int) (lv : Value) (xs : List Int) (S : Nat) (w : World) (hx : Row w S lv xs) (hS : S ≤ w.heap.size) (hl : xs.length ≤ 1073741824) (n1 : 1 ≤ n) (n2 : n ≤ 8) (hall : allB n xs = true) :
    Calls Try.prog 31 #[.int .i64 n, lv] w (IntsPost (sortL xs) w) := by
  have hm := Lib.hid (marks_at n lv xs S w hx hS hl n1 n2 hall)
  have hs := Lib.hid (mkL_sort hall)
  obtain ⟨p1, _, _⟩ := pow_nat n1 n2
  obtain ⟨N, hN⟩ : ∃ N : Nat, 2 ^ n.toNat = N := ⟨_, rfl⟩
  rw [hN] at hm hs p1
  obtain ⟨a, cap, rfl, _⟩ := id hx
  replace hN := Lib.hid hN
  replace hall := Lib.hid hall
  clear hx
  go_enter Try.func31, Try.ntmps31
  go_wp2_with fail
  refine hm.out.mono ?_
  rintro e w2 ⟨b, rfl, hb1, hb2, hM, hbel⟩
  have hl := Lib.hid (list_at b N _ w2 hM p1)
  replace hbel := Lib.hid hbel
  have hz := hbel.out.size
  clear hM hm
  go_wp2_with fail
  refine hl.out.mono ?_
  rintro e w3 ⟨v, rfl, hO, hb3⟩
  obtain ⟨a', c', rfl⟩ := hO.form
  rw [hs.out] at hO
  replace hO := Lib.hid hO
  replace hb3 := Lib.hid (hbel.out.trans (hb3.mono hz))
  rw [hs.out]
  go_wp2_with fail
  go_ret
  exact ⟨_, rfl, ⟨hO.out.1, by
    rcases hO.out.2 with hn | ⟨g, cap, cur, h, hB, rest⟩
    · exact .inl hn
    · exact .inr ⟨g, cap, cur, h, by omega, rest⟩⟩, hb3.out⟩
theorem OwnL.mono {w : World} {B B' : Nat} {v : Value} {xs : List Int} (h : OwnL w B v xs) (hB : B' ≤ B) : OwnL w B' v xs := by
  refine ⟨h.1, ?_⟩
  rcases h.2 with hn | ⟨g, cap, cur, rfl, hb, rest⟩
  · exact .inl hn
  · exact .inr ⟨g, cap, cur, rfl, by omega, rest⟩
set_option maxHeartbeats 1000000 in
theorem sp_FamilyOf (n : Int) (lv : Value) (xs : List Int) (S : Nat) (w : World) (hx : Row w S lv xs) (hS : S ≤ w.heap.size) (hl : xs.length ≤ 1073741824) :
    Calls Try.prog 92 #[.int .i64 n, lv] w (ListPost (famOfL n xs) (colB n xs) w) := by
  have hR := Lib.hid hx
  obtain ⟨a, cap, rfl, ha⟩ := hx
  replace ha := Lib.hid ha
  go_enter Try.func92, Try.ntmps92
  go_wp2_with fail
  go_loop [6] (fun q => ∃ k : Nat, k ≤ xs.length ∧ q = .int .i64 k ∧ Hid (allB n (xs.take k) = true)) (fun q => xs.length - (intOf q).toNat)
  case atStart => exact ⟨0, by omega, rfl, Lib.hid rfl⟩
  case round =>
    obtain ⟨k, hk, rfl, hall⟩ := hrel
    by_cases hlt : k < xs.length
    · obtain ⟨b1, o1, rfl, s1, c1⟩ := ha.out (by omega)
      have k1 : (0 : Int) ≤ (k : Int) := by omega
      have k2 : (k : Int) < (xs.length : Nat) := by omega
      have e1 := c1 k hlt
      obtain ⟨x, hx⟩ : ∃ x, xs.getD k 0 = x := ⟨_, rfl⟩
      rw [hx] at e1
      rcases set_in_cases n x with hs | hs
      · have hsi := Lib.hid (sp_set_in_yes n x hs)
        have hall' := Lib.hid (allB_step hlt hx hall.out hs)
        clear hall c1 hx hs
        go_wp2_with (go_at_call 72; refine (hsi.out _).mono ?_; rintro e w' ⟨rfl, rfl⟩)
        go_round
        case rel => exact ⟨k + 1, by omega, by go_num, hall'⟩
        case measure => simp [intOf]; omega
      · have hno : colB n xs = false := by unfold colB; rw [allB_fail hlt hx hs, Bool.and_false]
        have hL := Lib.hid (show [] = famOfL n xs by unfold famOfL; rw [hno]; rfl)
        replace hno := Lib.hid hno.symm
        have hsi := Lib.hid (sp_set_in_no n x hs)
        clear hall c1 hx hs
        go_wp2_with (go_at_call 72; refine (hsi.out _).mono ?_; rintro e w' ⟨rfl, rfl⟩)
        go_ret2
        exact ⟨_, ret_vb hno.out, hL.out ▸ own_empty0 _ _ _ _ _, (Below.refl _ _).alloc (Nat.le_refl _) _⟩
    · obtain rfl : k = xs.length := by omega
      have hall2 := hall.out
      rw [List.take_length] at hall2
      have hpp := l1pts n
      clear hall
      rcases (by cases ptsB n <;> simp : ptsB n = true ∨ ptsB n = false) with hp | hp
      · obtain ⟨n1, n2⟩ := ptsB_yes hp
        rw [hp] at hpp
        have hf := Lib.hid (family_at n _ xs S w hR.out hS hl n1 n2 hall2)
        have hyes : colB n xs = true := by unfold colB; rw [hp, hall2]; rfl
        have hL := Lib.hid (show sortL xs = famOfL n xs by unfold famOfL; rw [if_pos hyes])
        replace hyes := Lib.hid hyes.symm
        replace hpp := Lib.hid hpp
        replace hp := Lib.hid hp
        replace hall2 := Lib.hid hall2
        go_wp2_with (go_at_call 73; refine (hpp.out _).mono ?_; rintro e w' ⟨rfl, rfl⟩)
        refine hf.out.mono ?_
        rintro e w2 ⟨v, rfl, hO, hb⟩
        obtain ⟨a', c', rfl⟩ := hO.form
        replace hO := Lib.hid hO
        replace hb := Lib.hid hb
        clear hf
        go_wp2_with fail
        go_ret2
        exact ⟨_, ret_vb hyes.out, hL.out ▸ hO.out.own, hb.out⟩
      · rw [hp] at hpp
        have hno : colB n xs = false := by unfold colB; rw [hp]; rfl
        have hL := Lib.hid (show [] = famOfL n xs by unfold famOfL; rw [hno]; rfl)
        replace hno := Lib.hid hno.symm
        replace hpp := Lib.hid hpp
        replace hp := Lib.hid hp
        replace hall2 := Lib.hid hall2
        go_wp2_with (go_at_call 73; refine (hpp.out _).mono ?_; rintro e w' ⟨rfl, rfl⟩)
        go_ret2
        exact ⟨_, ret_vb hno.out, hL.out ▸ own_empty0 _ _ _ _ _, (Below.refl _ _).alloc (Nat.le_refl _) _⟩
end Go.Proofs.Ytgkbaenjniapiaa
