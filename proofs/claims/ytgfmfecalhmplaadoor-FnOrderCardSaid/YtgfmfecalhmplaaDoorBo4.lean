/- A set looked up in a list in ball order, put into it; lists put in ball order. -/
import Derived.Test.YtgfmfecalhmplaaDoorBo3
import Derived.Test.YtgfmfecalhmplaaDoorFams3
namespace Go.Proofs.YtgfmfecalhmplaaDoor
open Go.ChangeShapes Go.WideShapes Go.ChangeAt Go.RowKit Go.Proofs

/-- k is the place of a set. -/
def IsK (k : Int) : Prop := 0 ≤ unb k ∧ unb k < 256 ∧ bkI (unb k) = k
theorem isK_of {x : Int} (h1 : 0 ≤ x) (h2 : x < 256) : IsK (bkI x) := by
  obtain ⟨_, _, h⟩ := bk_facts h1 h2
  unfold IsK; rw [h]; exact ⟨h1, h2, rfl⟩
/-- the sets of some places. -/
def unL (ks : List Int) : List Int := ks.map unb
theorem unL_len (ks : List Int) : (unL ks).length = ks.length := by simp [unL]
theorem unL_get {ks : List Int} {i : Nat} (h : i < ks.length) : (unL ks).getD i 0 = unb (ks.getD i 0) := by
  unfold unL
  simp [List.getD, h]
/-- v reads as the list of the sets of the places ks. -/
def KRow (w : World) (S : Nat) (v : Value) (ks : List Int) : Prop :=
  ∃ a cap, v = .slice a ks.length cap ∧ (0 < ks.length → ∃ b off, a = some ⟨b, off, none⟩ ∧ b < S ∧ ∀ i, i < ks.length → w.cell? ⟨b, off + i, none⟩ = some (.int .u64 (unb (ks.getD i 0))))
theorem SRow.krow {w : World} {S : Nat} {v : Value} {ks : List Int} (h : SRow w S v (unL ks)) : KRow w S v ks := by
  obtain ⟨a, cap, rfl, h⟩ := h
  rw [unL_len] at h ⊢
  refine ⟨a, cap, rfl, fun hl => ?_⟩
  obtain ⟨b, off, rfl, hs, hc⟩ := h hl
  exact ⟨b, off, rfl, hs, fun i hi => by rw [hc i hi, unL_get hi]⟩
theorem cm_lt {x y : Int} (h : x < y) : cmI x y = -1 := by unfold cmI; rw [if_pos h]
theorem cm_ge {x y : Int} (h : ¬ x < y) : 0 ≤ cmI x y := by unfold cmI; rw [if_neg h]; split <;> omega
theorem cm_eq (x : Int) : cmI x x = 0 := by unfold cmI; rw [if_neg (by omega), if_neg (by omega)]
theorem cm_ne {x y : Int} (h : x ≠ y) : (cmI x y == 0) = false := by
  unfold cmI
  by_cases h1 : x < y
  · rw [if_pos h1]; rfl
  · rw [if_neg h1, if_pos (by omega)]; rfl
set_option maxRecDepth 100000 in
set_option maxHeartbeats 1000000 in
theorem bs_ball (v : Value) (ks : List Int) (x : Int) (S : Nat) (w : World) (hx : KRow w S v ks) (hK : ∀ k ∈ ks, IsK k) (hA : Asc ks) (hl : ks.length ≤ 100000) (hS : S ≤ w.heap.size) (x1 : 0 ≤ x) (x2 : x < 256) (hT : Tab w) :
    Calls Tryd.prog 89 #[v, .int .u64 x, (Value.func (.func 70) #[] #[])] w fun e w' => e = .returned (.tuple #[.int .i64 (plN (bkI x) ks : Nat), .bool (memB (bkI x) ks)]) ∧ Below w.heap.size w w' := by
  have htl := hT.lt
  obtain ⟨a, cap, rfl, ha⟩ := hx
  replace ha := Lib.hid ha
  have hmem := Lib.hid (mem_at (x := bkI x) hA)
  replace hA := Lib.hid hA
  replace hT := Lib.hid hT
  replace hK := Lib.hid hK
  obtain ⟨X, hX⟩ : ∃ X, bkI x = X := ⟨_, rfl⟩
  rw [hX] at hmem ⊢
  have hcmp : Hid (∀ (m : Nat) (W : World), m < ks.length → Below w.heap.size w W → Calls Tryd.prog 70 #[.int .u64 (unb (ks.getD m 0)), .int .u64 x] W fun e w' => e = .returned (.int .i64 (cmI (ks.getD m 0) X)) ∧ Hid (Below w.heap.size w w')) := Lib.hid fun m W hm hb => by
    obtain ⟨u1, u2, u3⟩ := hK.out _ (getD_mem hm)
    refine (ball_cmp _ x u1 u2 x1 x2 W (hT.out.below hb htl)).mono ?_
    rintro e w' ⟨rfl, hb2⟩
    rw [u3, hX]
    exact ⟨rfl, Lib.hid (hb.trans (hb2.mono hb.size))⟩
  replace hX := Lib.hid hX
  go_enter Tryd.func89, Tryd.ntmps89
  go_wp2_with fail
  go_loopw [9, 10] (fun p q wr => ∃ i j : Nat, i ≤ j ∧ j ≤ ks.length ∧ p = .int .i64 i ∧ q = .int .i64 j ∧ Hid (∀ k, k < i → ks.getD k 0 < X) ∧ Hid (∀ k, j ≤ k → k < ks.length → X ≤ ks.getD k 0) ∧ Hid (Below w.heap.size w wr)) (fun p q _ => (intOf q - intOf p).toNat)
  case atStart => exact ⟨0, ks.length, by omega, by omega, rfl, rfl, Lib.hid (fun k hk => by omega), Lib.hid (fun k h1 h2 => by omega), Lib.hid (Below.refl _ _)⟩
  case round =>
    obtain ⟨i, j, hij, hj, rfl, rfl, hlo, hhi, hbel⟩ := hrel
    by_cases hlt : i < j
    · obtain ⟨b1, o1, rfl, s1, c1⟩ := ha.out (by omega)
      have e1 := (hbel.out.cell (p := ⟨b1, o1 + (i + j) / 2, none⟩) (show b1 < w.heap.size by omega)).trans (c1 ((i + j) / 2) (by omega))
      have hc := hcmp.out ((i + j) / 2) wr (by omega) hbel.out
      obtain ⟨y, hy⟩ : ∃ y, ks.getD ((i + j) / 2) 0 = y := ⟨_, rfl⟩
      rw [hy] at e1 hc
      obtain ⟨u, hu⟩ : ∃ u, unb y = u := ⟨_, rfl⟩
      rw [hu] at e1 hc
      replace hu := Lib.hid hu
      clear c1
      by_cases hyx : y < X
      · have hlo' := Lib.hid (show ∀ k, k < (i + j) / 2 + 1 → ks.getD k 0 < X from fun k hk => by
          by_cases e : k = (i + j) / 2
          · subst e; rw [hy]; exact hyx
          · have := asc_get hA.out (i := k) (j := (i + j) / 2) (by omega) (by omega); omega)
        rw [cm_lt hyx] at hc
        replace hc := Lib.hid hc
        replace hy := Lib.hid hy
        clear hlo
        go_wp2_with (go_at_call 70; refine hc.out.mono ?_; rintro e w' ⟨rfl, hb2⟩)
        go_roundw
        case rel => exact ⟨(i + j) / 2 + 1, j, by omega, by omega, by go_num, rfl, hlo', hhi, hb2⟩
        case measure => simp [intOf]; omega
      · have hhi' := Lib.hid (show ∀ k, (i + j) / 2 ≤ k → k < ks.length → X ≤ ks.getD k 0 from fun k hk h2 => by
          by_cases e : k = (i + j) / 2
          · subst e; rw [hy]; omega
          · have := asc_get hA.out (i := (i + j) / 2) (j := k) (by omega) (by omega); omega)
        obtain ⟨c, hc0, hc1⟩ : ∃ c, c = cmI y X ∧ 0 ≤ c := ⟨_, rfl, cm_ge hyx⟩
        rw [← hc0] at hc
        replace hc := Lib.hid hc
        replace hy := Lib.hid hy
        clear hhi hc0
        go_wp2_with (go_at_call 70; refine hc.out.mono ?_; rintro e w' ⟨rfl, hb2⟩)
        go_roundw
        case rel => exact ⟨i, (i + j) / 2, by omega, by omega, rfl, by go_num, hlo, hhi', hb2⟩
        case measure => simp [intOf]; omega
    · obtain rfl : i = j := by omega
      have hp := Lib.hid (plN_eq hj hlo.out hhi.out)
      clear hlo hhi
      by_cases hn : i < ks.length
      · obtain ⟨b1, o1, rfl, s1, c1⟩ := ha.out (by omega)
        have e1 := (hbel.out.cell (p := ⟨b1, o1 + i, none⟩) (show b1 < w.heap.size by omega)).trans (c1 i hn)
        have hc := hcmp.out i wr hn hbel.out
        obtain ⟨y, hy⟩ : ∃ y, ks.getD i 0 = y := ⟨_, rfl⟩
        rw [hy] at e1 hc
        obtain ⟨u, hu⟩ : ∃ u, unb y = u := ⟨_, rfl⟩
        rw [hu] at e1 hc
        replace hu := Lib.hid hu
        clear c1
        have hm := hmem.out
        rw [← hp.out, hy, decide_eq_true hn, Bool.true_and] at hm
        by_cases e : y = X
        · have hm2 := Lib.hid (show true = memB X ks by rw [hm]; exact (decide_eq_true e).symm)
          rw [e, cm_eq] at hc
          replace hc := Lib.hid hc
          clear hm hmem e hy
          go_wp2_with (go_at_call 70; refine hc.out.mono ?_; rintro e w' ⟨rfl, hb2⟩)
          go_ret2
          exact ⟨ret_ib2 (by rw [hp.out]) hm2.out, hb2.out⟩
        · have hm2 := Lib.hid (show false = memB X ks by rw [hm]; exact (decide_eq_false e).symm)
          obtain ⟨c, hc0, hc1⟩ : ∃ c, c = cmI y X ∧ (c == 0) = false := ⟨_, rfl, cm_ne e⟩
          rw [← hc0] at hc
          replace hc := Lib.hid hc
          clear hm hmem e hy hc0
          go_wp2_with (go_at_call 70; refine hc.out.mono ?_; rintro e w' ⟨rfl, hb2⟩)
          go_ret2
          exact ⟨ret_ib2 (by rw [hp.out]) hm2.out, hb2.out⟩
      · have hm := hmem.out
        rw [← hp.out, decide_eq_false hn, Bool.false_and] at hm
        replace hm := Lib.hid hm.symm
        clear hmem
        go_wp2_with fail
        go_ret2
        exact ⟨ret_ib2 (by rw [hp.out]) hm.out, hbel.out⟩
set_option maxHeartbeats 1000000 in
theorem place_ball (lv : Value) (ks : List Int) (x : Int) (S : Nat) (w : World) (hx : KRow w S lv ks) (hK : ∀ k ∈ ks, IsK k) (hA : Asc ks) (hl : ks.length ≤ 100000) (hS : S ≤ w.heap.size) (x1 : 0 ≤ x) (x2 : x < 256) (hT : Tab w) :
    Calls Tryd.prog 74 #[.agg #[lv, (Value.func (.func 70) #[] #[])], .int .u64 x] w fun e w' => e = .returned (.tuple #[.int .i64 (plN (bkI x) ks : Nat), .bool (memB (bkI x) ks)]) ∧ Below w.heap.size w w' := by
  have htl := hT.lt
  have hbw := (Below.refl w.heap.size w).alloc (Nat.le_refl _) (.cells #[lv, (Value.func (.func 70) #[] #[])] 46)
  have hx' : KRow (w.alloc (.cells #[lv, (Value.func (.func 70) #[] #[])] 46)) S lv ks := by
    obtain ⟨a, cap, rfl, h⟩ := hx
    refine ⟨a, cap, rfl, fun hl => ?_⟩
    obtain ⟨b, off, rfl, hs, hc⟩ := h hl
    exact ⟨b, off, rfl, hs, fun i hi => (hbw.cell (p := ⟨b, off + i, none⟩) (show b < w.heap.size by omega)).trans (hc i hi)⟩
  have hb := Lib.hid (bs_ball lv ks x S _ hx' hK hA hl (by simp; omega) x1 x2 (hT.below hbw htl))
  obtain ⟨a, cap, rfl, _⟩ := id hx
  replace hbw := Lib.hid hbw
  clear hx hx' hT
  go_enter Tryd.func74, Tryd.ntmps74
  go_wp2_with fail
  refine hb.out.mono ?_
  rintro e w' ⟨rfl, hb2⟩
  have hb3 := Lib.hid (hbw.out.trans (hb2.mono (by simp)))
  clear hb2
  go_wp2_with fail
  go_ret2
  exact ⟨rfl, hb3.out⟩
end Go.Proofs.YtgfmfecalhmplaaDoor
