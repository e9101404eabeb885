/- Texts merged: XBo4 XBo5 XBo6 XBo7. -/
import Derived.Test.YtpjapoaagbdlfaaGreatDoorBo3
import Derived.Test.YtpjapoaagbdlfaaGreatDoorFams3
import Derived.Test.YtpjapoaagbdlfaaGreatDoorSh1
import Derived.Test.YtpjapoaagbdlfaaGreatDoorFLaws
namespace Go.Proofs.YtpjapoaagbdlfaaGreatDoor
section
/- A set looked up in a list in ball order, put into it; lists put in ball order. -/
open Go.ChangeShapes Go.WideShapes Go.ChangeAt Go.RowKit Go.Proofs

/-- k is the place of a set. -/
def IsK (k : Int) : Prop := 0 ≤ unb k ∧ unb k < 256 ∧ bkI (unb k) = k
theorem isK_of {x : Int} (h1 : 0 ≤ x) (h2 : x < 256) : IsK (bkI x) := by
  obtain ⟨_, _, h⟩ := bk_facts h1 h2
  unfold IsK; rw [h]; exact ⟨h1, h2, rfl⟩
/-- the sets of some places. -/
def unL (ks : List Int) : List Int := ks.map unb
theorem unL_len (ks : List Int) : (unL ks).length = ks.length := by simp [unL]
theorem unL_get {ks : List Int} {i : Nat} (h : i < ks.length) : (unL ks).getD i 0 = unb (ks.getD i 0) := by
  unfold unL
  simp [List.getD, h]
/-- v reads as the list of the sets of the places ks. -/
def KRow (w : World) (S : Nat) (v : Value) (ks : List Int) : Prop :=
  ∃ a cap, v = .slice a ks.length cap ∧ (0 < ks.length → ∃ b off, a = some ⟨b, off, none⟩ ∧ b < S ∧ ∀ i, i < ks.length → w.cell? ⟨b, off + i, none⟩ = some (.int .u64 (unb (ks.getD i 0))))
theorem SRow.krow {w : World} {S : Nat} {v : Value} {ks : List Int} (h : SRow w S v (unL ks)) : KRow w S v ks := by
  obtain ⟨a, cap, rfl, h⟩ := h
  rw [unL_len] at h ⊢
  refine ⟨a, cap, rfl, fun hl => ?_⟩
  obtain ⟨b, off, rfl, hs, hc⟩ := h hl
  exact ⟨b, off, rfl, hs, fun i hi => by rw [hc i hi, unL_get hi]⟩
theorem cm_lt {x y : Int} (h : x < y) : cmI x y = -1 := by unfold cmI; rw [if_pos h]
theorem cm_ge {x y : Int} (h : ¬ x < y) : 0 ≤ cmI x y := by unfold cmI; rw [if_neg h]; split <;> omega
theorem cm_eq (x : Int) : cmI x x = 0 := by unfold cmI; rw [if_neg (by omega), if_neg (by omega)]
theorem cm_ne {x y : Int} (h : x ≠ y) : (cmI x y == 0) = false := by
  unfold cmI
  by_cases h1 : x < y
  · rw [if_pos h1]; rfl
  · rw [if_neg h1, if_pos (by omega)]; rfl
set_option maxRecDepth 100000 in
set_option maxHeartbeats 1000000 in
theorem bs_ball (v : Value) (ks : List Int) (x : Int) (S : Nat) (w : World) (hx : KRow w S v ks) (hK : ∀ k ∈ ks, IsK k) (hA : Asc ks) (hl : ks.length ≤ 100000) (hS : S ≤ w.heap.size) (x1 : 0 ≤ x) (x2 : x < 256) (hT : Tab w) :
    Calls Tryz.prog 105 #[v, .int .u64 x, (Value.func (.func 106) #[] #[])] w fun e w' => e = .returned (.tuple #[.int .i64 (plN (bkI x) ks : Nat), .bool (memB (bkI x) ks)]) ∧ Below w.heap.size w w' := by
  have htl := hT.lt
  obtain ⟨a, cap, rfl, ha⟩ := hx
  replace ha := Lib.hid ha
  have hmem := Lib.hid (mem_at (x := bkI x) hA)
  replace hA := Lib.hid hA
  replace hT := Lib.hid hT
  replace hK := Lib.hid hK
  obtain ⟨X, hX⟩ : ∃ X, bkI x = X := ⟨_, rfl⟩
  rw [hX] at hmem ⊢
  have hcmp : Hid (∀ (m : Nat) (W : World), m < ks.length → Below w.heap.size w W → Calls Tryz.prog 106 #[.int .u64 (unb (ks.getD m 0)), .int .u64 x] W fun e w' => e = .returned (.int .i64 (cmI (ks.getD m 0) X)) ∧ Hid (Below w.heap.size w w')) := Lib.hid fun m W hm hb => by
    obtain ⟨u1, u2, u3⟩ := hK.out _ (getD_mem hm)
    refine (ball_cmp _ x u1 u2 x1 x2 W (hT.out.below hb htl)).mono ?_
    rintro e w' ⟨rfl, hb2⟩
    rw [u3, hX]
    exact ⟨rfl, Lib.hid (hb.trans (hb2.mono hb.size))⟩
  replace hX := Lib.hid hX
  go_enter Tryz.func105, Tryz.ntmps105
  go_wp2_with fail
  go_loopw [9, 10] (fun p q wr => ∃ i j : Nat, i ≤ j ∧ j ≤ ks.length ∧ p = .int .i64 i ∧ q = .int .i64 j ∧ Hid (∀ k, k < i → ks.getD k 0 < X) ∧ Hid (∀ k, j ≤ k → k < ks.length → X ≤ ks.getD k 0) ∧ Hid (Below w.heap.size w wr)) (fun p q _ => (intOf q - intOf p).toNat)
  case atStart => exact ⟨0, ks.length, by omega, by omega, rfl, rfl, Lib.hid (fun k hk => by omega), Lib.hid (fun k h1 h2 => by omega), Lib.hid (Below.refl _ _)⟩
  case round =>
    obtain ⟨i, j, hij, hj, rfl, rfl, hlo, hhi, hbel⟩ := hrel
    by_cases hlt : i < j
    · obtain ⟨b1, o1, rfl, s1, c1⟩ := ha.out (by omega)
      have e1 := (hbel.out.cell (p := ⟨b1, o1 + (i + j) / 2, none⟩) (show b1 < w.heap.size by omega)).trans (c1 ((i + j) / 2) (by omega))
      have hc := hcmp.out ((i + j) / 2) wr (by omega) hbel.out
      obtain ⟨y, hy⟩ : ∃ y, ks.getD ((i + j) / 2) 0 = y := ⟨_, rfl⟩
      rw [hy] at e1 hc
      obtain ⟨u, hu⟩ : ∃ u, unb y = u := ⟨_, rfl⟩
      rw [hu] at e1 hc
      replace hu := Lib.hid hu
      clear c1
      by_cases hyx : y < X
      · have hlo' := Lib.hid (show ∀ k, k < (i + j) / 2 + 1 → ks.getD k 0 < X from fun k hk => by
          by_cases e : k = (i + j) / 2
          · subst e; rw [hy]; exact hyx
          · have := asc_get hA.out (i := k) (j := (i + j) / 2) (by omega) (by omega); omega)
        rw [cm_lt hyx] at hc
        replace hc := Lib.hid hc
        replace hy := Lib.hid hy
        clear hlo
        go_wp2_with (go_at_call 106; refine hc.out.mono ?_; rintro e w' ⟨rfl, hb2⟩)
        go_roundw
        case rel => exact ⟨(i + j) / 2 + 1, j, by omega, by omega, by go_num, rfl, hlo', hhi, hb2⟩
        case measure => simp [intOf]; omega
      · have hhi' := Lib.hid (show ∀ k, (i + j) / 2 ≤ k → k < ks.length → X ≤ ks.getD k 0 from fun k hk h2 => by
          by_cases e : k = (i + j) / 2
          · subst e; rw [hy]; omega
          · have := asc_get hA.out (i := (i + j) / 2) (j := k) (by omega) (by omega); omega)
        obtain ⟨c, hc0, hc1⟩ : ∃ c, c = cmI y X ∧ 0 ≤ c := ⟨_, rfl, cm_ge hyx⟩
        rw [← hc0] at hc
        replace hc := Lib.hid hc
        replace hy := Lib.hid hy
        clear hhi hc0
        go_wp2_with (go_at_call 106; refine hc.out.mono ?_; rintro e w' ⟨rfl, hb2⟩)
        go_roundw
        case rel => exact ⟨i, (i + j) / 2, by omega, by omega, rfl, by go_num, hlo, hhi', hb2⟩
        case measure => simp [intOf]; omega
    · obtain rfl : i = j := by omega
      have hp := Lib.hid (plN_eq hj hlo.out hhi.out)
      clear hlo hhi
      by_cases hn : i < ks.length
      · obtain ⟨b1, o1, rfl, s1, c1⟩ := ha.out (by omega)
        have e1 := (hbel.out.cell (p := ⟨b1, o1 + i, none⟩) (show b1 < w.heap.size by omega)).trans (c1 i hn)
        have hc := hcmp.out i wr hn hbel.out
        obtain ⟨y, hy⟩ : ∃ y, ks.getD i 0 = y := ⟨_, rfl⟩
        rw [hy] at e1 hc
        obtain ⟨u, hu⟩ : ∃ u, unb y = u := ⟨_, rfl⟩
        rw [hu] at e1 hc
        replace hu := Lib.hid hu
        clear c1
        have hm := hmem.out
        rw [← hp.out, hy, decide_eq_true hn, Bool.true_and] at hm
        by_cases e : y = X
        · have hm2 := Lib.hid (show true = memB X ks by rw [hm]; exact (decide_eq_true e).symm)
          rw [e, cm_eq] at hc
          replace hc := Lib.hid hc
          clear hm hmem e hy
          go_wp2_with (go_at_call 106; refine hc.out.mono ?_; rintro e w' ⟨rfl, hb2⟩)
          go_ret2
          exact ⟨ret_ib2 (by rw [hp.out]) hm2.out, hb2.out⟩
        · have hm2 := Lib.hid (show false = memB X ks by rw [hm]; exact (decide_eq_false e).symm)
          obtain ⟨c, hc0, hc1⟩ : ∃ c, c = cmI y X ∧ (c == 0) = false := ⟨_, rfl, cm_ne e⟩
          rw [← hc0] at hc
          replace hc := Lib.hid hc
          clear hm hmem e hy hc0
          go_wp2_with (go_at_call 106; refine hc.out.mono ?_; rintro e w' ⟨rfl, hb2⟩)
          go_ret2
          exact ⟨ret_ib2 (by rw [hp.out]) hm2.out, hb2.out⟩
      · have hm := hmem.out
        rw [← hp.out, decide_eq_false hn, Bool.false_and] at hm
        replace hm := Lib.hid hm.symm
        clear hmem
        go_wp2_with fail
        go_ret2
        exact ⟨ret_ib2 (by rw [hp.out]) hm.out, hbel.out⟩
set_option maxHeartbeats 1000000 in
theorem place_ball (lv : Value) (ks : List Int) (x : Int) (S : Nat) (w : World) (hx : KRow w S lv ks) (hK : ∀ k ∈ ks, IsK k) (hA : Asc ks) (hl : ks.length ≤ 100000) (hS : S ≤ w.heap.size) (x1 : 0 ≤ x) (x2 : x < 256) (hT : Tab w) :
    Calls Tryz.prog 94 #[.agg #[lv, (Value.func (.func 106) #[] #[])], .int .u64 x] w fun e w' => e = .returned (.tuple #[.int .i64 (plN (bkI x) ks : Nat), .bool (memB (bkI x) ks)]) ∧ Below w.heap.size w w' := by
  have htl := hT.lt
  have hbw := (Below.refl w.heap.size w).alloc (Nat.le_refl _) (.cells #[lv, (Value.func (.func 106) #[] #[])] 44)
  have hx' : KRow (w.alloc (.cells #[lv, (Value.func (.func 106) #[] #[])] 44)) S lv ks := by
    obtain ⟨a, cap, rfl, h⟩ := hx
    refine ⟨a, cap, rfl, fun hl => ?_⟩
    obtain ⟨b, off, rfl, hs, hc⟩ := h hl
    exact ⟨b, off, rfl, hs, fun i hi => (hbw.cell (p := ⟨b, off + i, none⟩) (show b < w.heap.size by omega)).trans (hc i hi)⟩
  have hb := Lib.hid (bs_ball lv ks x S _ hx' hK hA hl (by simp; omega) x1 x2 (hT.below hbw htl))
  obtain ⟨a, cap, rfl, _⟩ := id hx
  replace hbw := Lib.hid hbw
  clear hx hx' hT
  go_enter Tryz.func94, Tryz.ntmps94
  go_wp2_with fail
  refine hb.out.mono ?_
  rintro e w' ⟨rfl, hb2⟩
  have hb3 := Lib.hid (hbw.out.trans (hb2.mono (by simp)))
  clear hb2
  go_wp2_with fail
  go_ret2
  exact ⟨rfl, hb3.out⟩

end
section
/- A set put into a list in ball order; lists put in ball order. -/
open Go.ChangeShapes Go.WideShapes Go.ChangeAt Go.RowKit Go.Proofs

theorem unL_ins {x : Int} {ks : List Int} (x1 : 0 ≤ x) (x2 : x < 256) (h : memB (bkI x) ks = false) : putAt (plN (bkI x) ks) x (unL ks) = unL (insI (bkI x) ks) := by
  rw [ins_no h]
  unfold putAt unL
  rw [List.map_append, List.map_cons, List.map_take, List.map_drop, (bk_facts x1 x2).2.2]
theorem isK_ins {x : Int} {ks : List Int} (x1 : 0 ≤ x) (x2 : x < 256) (hK : ∀ k ∈ ks, IsK k) : ∀ k ∈ insI (bkI x) ks, IsK k := fun k hk => by
  rcases mem_insI.1 hk with rfl | h
  · exact isK_of x1 x2
  · exact hK k h
/-- bx holds a list in ball order. -/
def FBoxK (w : World) (B bx : Nat) (ks : List Int) : Prop := B ≤ bx ∧ ∃ v, w.heap[bx]? = some (.cells #[v, (Value.func (.func 106) #[] #[])] 44 (0, 0)) ∧ SetL w B v (unL ks)
theorem FBoxK.lt {w : World} {B bx : Nat} {ks : List Int} (h : FBoxK w B bx ks) : bx < w.heap.size := by
  obtain ⟨_, v, hv, _⟩ := h
  exact (Array.getElem?_eq_some_iff.1 hv).1
theorem apart_k {w : World} {B bx : Nat} {v : Value} {xs : List Int} (hv : w.heap[bx]? = some (.cells #[v, (Value.func (.func 106) #[] #[])] 44 (0, 0))) (h : SetL w B v xs) : v.ownBlock ≠ some bx := by
  intro e
  rcases h.out with ⟨rfl, _⟩ | ⟨g, cap, cur, rfl, _, hg, _⟩
  · cases e
  · cases e
    rw [hv] at hg
    injection hg with hg
    injection hg with _ h2
    exact absurd h2 (by decide)
/-- what put leaves. -/
def PutPostK (B bx : Nat) (w : World) (ks : List Int) (e : Ending) (w' : World) : Prop := (∃ v, e = .returned v) ∧ FBoxK w' B bx ks ∧ Below B w w' ∧ w.heap.size ≤ w'.heap.size
set_option maxRecDepth 100000 in
set_option maxHeartbeats 1000000 in
theorem put_ball (B bx : Nat) (ks : List Int) (x : Int) (w : World) (hF : FBoxK w B bx ks) (hK : ∀ k ∈ ks, IsK k) (hA : Asc ks) (hl : ks.length ≤ 1000) (hB : B ≤ w.heap.size) (x1 : 0 ≤ x) (x2 : x < 256) (hT : Tab w) :
    Calls Tryz.prog 83 #[.pointer (some ⟨bx, 0, none⟩), .int .u64 x] w (PutPostK B bx w (insI (bkI x) ks)) := by
  have hlt := hF.lt
  obtain ⟨hBx, v, hv, hS⟩ := hF
  have hap := Lib.hid (apart_k hv hS)
  have c0 : w.cell? ⟨bx, 0, none⟩ = some v := by rw [cell_of_row w bx 0 _ 44 (0, 0) hv]; rfl
  have c1 : w.cell? ⟨bx, 1, none⟩ = some (Value.func (.func 106) #[] #[]) := by rw [cell_of_row w bx 1 _ 44 (0, 0) hv]; rfl
  have hpl := Lib.hid (place_ball v ks x w.heap.size w hS.row.krow hK hA (by omega) (Nat.le_refl _) x1 x2 hT)
  have hpi := plN_le (bkI x) ks
  replace hv := Lib.hid hv
  replace hS := Lib.hid hS
  replace hT := Lib.hid hT
  rcases (by cases memB (bkI x) ks <;> simp : memB (bkI x) ks = true ∨ memB (bkI x) ks = false) with hm | hm
  · have hpl2 := hpl.out
    rw [hm] at hpl2
    replace hpl := Lib.hid hpl2
    replace hm := Lib.hid hm
    clear hpl2
    go_enter Tryz.func83, Tryz.ntmps83
    go_wp2_with fail
    refine hpl.out.mono ?_
    rintro e w' ⟨rfl, hb⟩
    have hz := hb.size
    replace hb := Lib.hid hb
    clear hpl c0 c1
    go_wp2_with fail
    go_end0
    refine ⟨⟨_, rfl⟩, ⟨hBx, v, by rw [hb.out.block bx hlt]; exact hv.out, by rw [ins_yes hm.out]; exact hS.out.below hb.out (Nat.le_refl _)⟩, hb.out.mono hB, hz⟩
  · have hpl2 := hpl.out
    rw [hm] at hpl2
    replace hpl := Lib.hid hpl2
    have hpi2 := Lib.hid (unL_ins x1 x2 hm)
    replace hm := Lib.hid hm
    clear hpl2
    go_enter Tryz.func83, Tryz.ntmps83
    go_wp2_with fail
    refine hpl.out.mono ?_
    rintro e w1 ⟨rfl, hb⟩
    have hz1 := hb.size
    have hv1 : w1.heap[bx]? = some (.cells #[v, (Value.func (.func 106) #[] #[])] 44 (0, 0)) := (hb.block bx hlt).trans hv.out
    have d0 : w1.cell? ⟨bx, 0, none⟩ = some v := by rw [cell_of_row w1 bx 0 _ 44 (0, 0) hv1]; rfl
    have hS1 := hS.out.below hb (Nat.le_refl _)
    have hins := Lib.hid (ins_set v (unL ks) (plN (bkI x) ks) B w1.heap.size x (w1.alloc (.cells #[.int .u64 x] 48)) (hS1.alloc _) (by rw [unL_len]; exact hpi) (by rw [unL_len]; omega) (by simp; omega) (heap_alloc_new w1 _) (by intro e; have := hS1.lt _ e; omega))
    replace hb := Lib.hid hb
    replace hS1 := Lib.hid hS1
    replace hv1 := Lib.hid hv1
    clear hpl c0 c1
    go_wp2_with fail
    refine hins.out.mono ?_
    rintro e w3 ⟨v', rfl, hS3, hg3⟩
    have hlt1 : bx < w1.heap.size := by omega
    have hh3 : w3.heap[bx]? = some (.cells #[v, (Value.func (.func 106) #[] #[])] 44 (0, 0)) := by
      rw [hg3.block bx (by simp; omega) (fun e => hap.out e.symm), Below.heap_alloc _ _ _ hlt1]
      exact hv1.out
    have f0 : w3.cell? ⟨bx, 0, none⟩ = some v := by rw [cell_of_row w3 bx 0 _ 44 (0, 0) hh3]; rfl
    have df : w3.frozen? ⟨bx, 0, none⟩ = false := frozen_of hh3 _
    have hb3 := Lib.hid (below_grow (((hb.out.mono hB).alloc (by omega) _)) hg3 (hS1.out.alloc _) (by simp; omega))
    have hz := hg3.size
    simp at hz
    rw [hpi2.out] at hS3
    replace hS3 := Lib.hid hS3
    replace hh3 := Lib.hid hh3
    clear hg3 hins d0
    obtain ⟨a', c', rfl⟩ := hS3.out.form
    go_wp2_with fail
    go_end0
    have hst := heap_setCell_same w3 bx 0 _ 44 (.slice a' (unL (insI (bkI x) ks)).length c') hh3.out
    refine ⟨⟨_, rfl⟩, ⟨hBx, _, by rw [hst]; rfl, ?_⟩, below_setCell hb3.out hBx _, ?_⟩
    · exact hS3.out.store _ _ (by
        intro e
        rcases hS3.out.out with ⟨h0, _⟩ | ⟨g, cap, cur, h0, _, hg, _⟩
        · injection h0 with h1; rw [h1] at e; cases e
        · injection h0 with h1; rw [h1] at e; cases e
          rw [hh3.out] at hg
          injection hg with hg
          injection hg with _ h2
          exact absurd h2 (by decide))
    · simp [World.setCell]; omega
/-- what making a list in ball order leaves. -/
def FamPostK (w : World) (ks : List Int) (e : Ending) (w' : World) : Prop := ∃ v, e = .returned (.agg #[v, (Value.func (.func 106) #[] #[])]) ∧ SetL w' w.heap.size v (unL ks) ∧ Below w.heap.size w w'
/-- the places of some sets, in order. -/
def kL (xs : List Int) : List Int := sortL (xs.map bkI)
theorem kL_isK {xs : List Int} (h : ∀ x ∈ xs, 0 ≤ x ∧ x < 256) : ∀ k ∈ kL xs, IsK k := fun k hk => by
  unfold kL at hk
  rw [mem_sortL] at hk
  obtain ⟨x, hx, rfl⟩ := List.mem_map.1 hk
  exact isK_of (h x hx).1 (h x hx).2
theorem kL_take {xs : List Int} {k : Nat} (h : k < xs.length) : kL (xs.take (k + 1)) = insI (bkI (xs.getD k 0)) (kL (xs.take k)) := by
  unfold kL
  rw [take_snoc h, List.map_append, List.map_singleton, sortL_snoc]
theorem ins_le (x : Int) (xs : List Int) : (insI x xs).length ≤ xs.length + 1 := by
  rcases (by cases memB x xs <;> simp : memB x xs = true ∨ memB x xs = false) with h | h
  · rw [ins_yes h]; omega
  · rw [ins_len h]; exact Nat.le_refl _
theorem kL_len (xs : List Int) : ∀ k, k ≤ xs.length → (kL (xs.take k)).length ≤ k
  | 0, _ => by simp [kL, sortL]
  | k + 1, h => by
    rw [kL_take (by omega)]
    have := ins_le (bkI (xs.getD k 0)) (kL (xs.take k))
    have := kL_len xs k (by omega)
    omega
set_option maxRecDepth 100000 in
set_option maxHeartbeats 1000000 in
theorem sorted_ball (lv : Value) (xs : List Int) (S : Nat) (w : World) (hx : SRow w S lv xs) (hS : S ≤ w.heap.size) (hl : xs.length ≤ 1000) (hz : ∀ x ∈ xs, 0 ≤ x ∧ x < 256) (hT : Tab w) :
    Calls Tryz.prog 56 #[lv, (Value.func (.func 106) #[] #[])] w (FamPostK w (kL xs)) := by
  have htl := hT.lt
  obtain ⟨a, cap, rfl, ha⟩ := hx
  replace ha := Lib.hid ha
  replace hT := Lib.hid hT
  replace hz := Lib.hid hz
  go_enter Tryz.func56, Tryz.ntmps56
  go_wp2_with fail
  go_loopw [12] (fun q wr => ∃ k : Nat, k ≤ xs.length ∧ q = .int .i64 k ∧ Hid (FBoxK wr (w.heap.size + 1) (w.heap.size + 1) (kL (xs.take k))) ∧ Hid (Below (w.heap.size + 1) ((w.alloc (.cells #[.slice none 0 0, .nilFunc] 44)).alloc (.cells #[.slice none 0 0, (Value.func (.func 106) #[] #[])] 44)) wr)) (fun q _ => xs.length - (intOf q).toNat)
  case atStart =>
    refine ⟨0, by omega, rfl, Lib.hid ⟨Nat.le_refl _, .slice none 0 0, ?_, SetL.nil _ _⟩, Lib.hid (Below.refl _ _)⟩
    have := heap_alloc_new (w.alloc (.cells #[.slice none 0 0, .nilFunc] 44)) (.cells #[.slice none 0 0, (Value.func (.func 106) #[] #[])] 44)
    simpa using this
  case round =>
    obtain ⟨k, hk, rfl, hF, hb⟩ := hrel
    have hz' := hb.out.size
    simp at hz'
    by_cases hlt : k < xs.length
    · obtain ⟨b1, o1, rfl, s1, c1⟩ := ha.out (by omega)
      have k1 : (0 : Int) ≤ (k : Int) := by omega
      have k2 : (k : Int) < (xs.length : Nat) := by omega
      have e1 : wr.cell? ⟨b1, o1 + k, none⟩ = some (.int .u64 (xs.getD k 0)) := by
        rw [hb.out.cell (p := ⟨b1, o1 + k, none⟩) (show b1 < w.heap.size + 1 by omega), World.cell?_alloc_past _ _ _ (by simp; omega), World.cell?_alloc_past _ _ _ (by omega)]
        exact c1 k hlt
      have hst := kL_take hlt
      have hkl := kL_len xs k (by omega)
      obtain ⟨x, hx⟩ : ∃ x, xs.getD k 0 = x := ⟨_, rfl⟩
      obtain ⟨x1, x2⟩ := hz.out x (by rw [← hx]; exact getD_mem hlt)
      rw [hx] at e1 hst
      have hbw : Below w.heap.size w wr := (((Below.refl w.heap.size w).alloc (Nat.le_refl _) _).alloc (by simp) _).trans (hb.out.mono (by omega))
      have hp := put_ball (w.heap.size + 1) (w.heap.size + 1) _ x wr hF.out (kL_isK (fun z hz2 => hz.out z (List.mem_of_mem_take hz2))) (asc_sortL _) (by omega) (by omega) x1 x2 (hT.out.below hbw htl)
      rw [← hst] at hp
      replace hp := Lib.hid hp
      clear c1 hst hx hF hkl hbw
      go_wp2_with fail
      refine hp.out.mono ?_
      rintro e w' ⟨⟨v, rfl⟩, hF', hb', hz2⟩
      replace hb' := Lib.hid (hb.out.trans hb')
      replace hF' := Lib.hid hF'
      go_wp2_with fail
      go_roundw
      case rel => exact ⟨k + 1, by omega, by go_num, hF', hb'⟩
      case measure => simp [intOf]; omega
    · obtain rfl : k = xs.length := by omega
      have hF2 := hF.out
      rw [List.take_length] at hF2
      have hlt2 := hF2.lt
      obtain ⟨_, v, hv, hS⟩ := hF2
      have c0 : wr.cell? ⟨w.heap.size + 1, 0, none⟩ = some v := by rw [cell_of_row wr _ 0 _ 44 (0, 0) hv]; rfl
      have c1 : wr.cell? ⟨w.heap.size + 1, 1, none⟩ = some (Value.func (.func 106) #[] #[]) := by rw [cell_of_row wr _ 1 _ 44 (0, 0) hv]; rfl
      have hr : wr.heap[w.heap.size]? = some (.cells #[.slice none 0 0, .nilFunc] 44 (0, 0)) := by
        rw [hb.out.block w.heap.size (by omega), Below.heap_alloc _ _ _ (by simp)]
        exact heap_alloc_new w _
      have d0 : wr.cell? ⟨w.heap.size, 0, none⟩ = some (.slice none 0 0) := by rw [cell_of_row wr _ 0 _ 44 (0, 0) hr]; rfl
      have d1 : wr.cell? ⟨w.heap.size, 1, none⟩ = some .nilFunc := by rw [cell_of_row wr _ 1 _ 44 (0, 0) hr]; rfl
      have df0 : wr.frozen? ⟨w.heap.size, 0, none⟩ = false := frozen_of hr _
      have df1 : wr.frozen? ⟨w.heap.size, 1, none⟩ = false := frozen_of hr _
      obtain ⟨a', c', rfl⟩ := hS.form
      replace hS := Lib.hid hS
      clear hF hv hr
      have rr := two_cells (.slice a' (unL (kL xs)).length c') (Value.func (.func 106) #[] #[]) d0 d1
      go_wp2_with fail
      refine bodyPost_ret (v := .agg #[.slice a' (unL (kL xs)).length c', (Value.func (.func 106) #[] #[])]) (by simp [results, Tryz.results56, go_sem, rr.1, rr.2]) rfl ⟨_, rfl, ?_, ?_⟩
      · exact ((hS.out.store _ _ (by intro e; have := hS.out.lt _ e; dsimp only at this; omega)).store _ _ (by intro e; have := hS.out.lt _ e; dsimp only at this; omega)).mono (by omega)
      · exact below_setCell (below_setCell ((((Below.refl _ _).alloc (Nat.le_refl _) _).alloc (by simp) _).trans (hb.out.mono (by omega))) (Nat.le_refl _) _) (Nat.le_refl _) _

end
section
/- All sets in an order; the first ones of them: the program. -/
open Go.ChangeShapes Go.WideShapes Go.ChangeAt Go.RowKit Go.Proofs

theorem fld0b (x y : Value) (w : World) : (Instr.field 44 (.agg #[x, y]) 0).run Tryz.prog w = .ok x w := by kernel_rfl
/-- the ball order of n points, as an interface value. -/
abbrev balO (n : Int) : Value := .iface 64 (.int .i64 n)
theorem pts_bal (n : Int) (w : World) : Calls Tryz.prog 153 #[.int .i64 n] w fun e w' => e = .returned (.int .i64 n) ∧ w = w' := by
  go_enter Tryz.func153, Tryz.ntmps153
  go_wp2
  go_ret
  exact ⟨rfl, rfl⟩
theorem mth_bal (n : Int) (w : World) : (method 248 64 (.int .i64 n) "loop.example/setshadows/impl.points").run Tryz.prog w = .ok (153, .int .i64 n) w := by kernel_rfl
theorem asr_bal (n : Int) (w : World) : (Instr.typeAssert (balO n) 86 64 true).run Tryz.prog w = .ok (.tuple #[.int .i64 n, .bool true]) w := by kernel_rfl
set_option maxRecDepth 100000 in
theorem cmp_bal (n : Int) (w : World) : Calls Tryz.prog 97 #[balO n] w fun e w' => e = .returned (Value.func (.func 106) #[] #[]) ∧ w = w' := by
  have ha := asr_bal n
  go_enter Tryz.func97, Tryz.ntmps97
  go_wp2
  go_ret
  exact ⟨rfl, rfl⟩
set_option maxRecDepth 100000 in
set_option maxHeartbeats 4000000 in
theorem numbers_ball (lv : Value) (xs : List Int) (S : Nat) (w : World) (hx : SRow w S lv xs) (hS : S ≤ w.heap.size) (hl : xs.length ≤ 100000) (hz : ∀ z ∈ xs, 0 ≤ z ∧ z < 256) :
    Calls Tryz.prog 32 #[.agg #[lv, (Value.func (.func 106) #[] #[])]] w fun e w' => ∃ u, e = .returned u ∧ Own w' w.heap.size w'.heap.size u xs ∧ Below w.heap.size w w' := by
  obtain ⟨a, cap, rfl, ha⟩ := hx
  replace ha := Lib.hid ha
  replace hz := Lib.hid hz
  have hmk := fun W => run_make_row' (P := Tryz.prog) 23 3 (.int .i64 0) 8 Tryz.underlying23 Tryz.intInfo rfl .i64 .i64 xs.length (by omega) (by omega) W
  go_enter Tryz.func32, Tryz.ntmps32
  go_wp2
  go_loopw [13] (fun i wr => ∃ k : Nat, k ≤ xs.length ∧ i = .int .i64 k ∧ Hid (Below w.heap.size w wr) ∧ Hid (wr.rowIs (w.heap.size + 1) 3 xs.length (filled xs k))) (fun i _ => xs.length - (intOf i).toNat)
  case atStart =>
    refine ⟨0, Nat.zero_le _, rfl, Lib.hid (((Below.refl _ _).alloc (Nat.le_refl _) _).alloc (by simp) _), Lib.hid ?_⟩
    have := (World.rowIs_made (w.alloc (.cells #[.slice a xs.length cap, (Value.func (.func 106) #[] #[])] 44)) (.int .i64 0) xs.length 3).congr (g := filled xs 0) (fun i _ => by simp [filled])
    simpa using this
  case round =>
    obtain ⟨k, hk, rfl, hbel, hrow⟩ := hrel
    have hz2 := hbel.out.size
    have hrl := hrow.out.lt
    by_cases hlt : k < xs.length
    · obtain ⟨b1, o1, rfl, s1, c1⟩ := ha.out (by omega)
      have k1 : (0 : Int) ≤ (k : Int) := by omega
      have k2 : (k : Int) < (xs.length : Nat) := by omega
      have e1 : wr.cell? ⟨b1, o1 + k, none⟩ = some (.int .u64 (xs.getD k 0)) := (hbel.out.cell (p := ⟨b1, o1 + k, none⟩) (show b1 < w.heap.size by omega)).trans (c1 k hlt)
      have e2 := hrow.out.cell hlt
      have e3 := hrow.out.frozen k
      obtain ⟨x, hx⟩ : ∃ x, xs.getD k 0 = x := ⟨_, rfl⟩
      have hzx := hz.out x (by rw [← hx]; exact getD_mem hlt)
      obtain ⟨z1, z2⟩ := hzx
      rw [hx] at e1
      have hrow' := Lib.hid ((hrow.out.set k (.int .i64 x)).congr (g := filled xs (k + 1)) (fun j hj => by
        unfold filled
        by_cases e : j = k
        · subst e; simp [← hx]
        · rw [if_neg e]; congr 1
          by_cases h2 : j < k
          · rw [if_pos h2, if_pos (by omega)]
          · rw [if_neg h2, if_neg (by omega)]))
      have hbel' := Lib.hid (below_setCell hbel.out (p := ⟨w.heap.size + 1, k, none⟩) (by simp) (.int .i64 x))
      clear hx c1 hrow hbel
      go_wp2
      go_roundw
      case rel => exact ⟨k + 1, by omega, by go_num, hbel', hrow'⟩
      case measure => simp [intOf]; omega
    · obtain rfl : k = xs.length := by omega
      have hO := Lib.hid (show Own wr w.heap.size wr.heap.size (.slice (some ⟨w.heap.size + 1, 0, none⟩) xs.length xs.length) xs from
        ⟨_, _, rfl, fun hp => ⟨w.heap.size + 1, 0, rfl, by omega, hrl, fun i hi => by
          have := hrow.out.cell hi
          rw [Nat.zero_add, this]; simp [filled, hi], fun i hi => by rw [Nat.zero_add]; exact hrow.out.frozen i⟩⟩)
      clear hrow
      go_wp2
      go_ret
      exact ⟨_, rfl, hO.out, hbel.out⟩
set_option maxRecDepth 100000 in
set_option maxHeartbeats 4000000 in
theorem fam_fin_k {w W1 : World} {h : Nat} {v : Value} {ys : List Int} (hS : SetL W1 (h + 1) v ys) (hb : Below w.heap.size w W1) (hh : w.heap.size ≤ h) :
    SetL ((W1.setCell ⟨h, 0, none⟩ v).setCell ⟨h, 1, none⟩ (Value.func (.func 106) #[] #[])) w.heap.size v ys ∧ Below w.heap.size w ((W1.setCell ⟨h, 0, none⟩ v).setCell ⟨h, 1, none⟩ (Value.func (.func 106) #[] #[])) :=
  ⟨((hS.store _ _ (by intro e; have := hS.lt _ e; dsimp only at this; omega)).store _ _ (by intro e; have := hS.lt _ e; dsimp only at this; omega)).mono (by omega),
    below_setCell (below_setCell hb hh _) hh _⟩

end
section
/- All sets in ball order, in binary order: the program. -/
open Go.ChangeShapes Go.WideShapes Go.ChangeAt Go.RowKit Go.Proofs

set_option maxRecDepth 100000 in
set_option maxHeartbeats 1000000 in
theorem in_ball (n : Int) (n1 : 1 ≤ n) (n2 : n ≤ 8) (w : World) (hT : Tab w) : Calls Tryz.prog 76 #[balO n] w (FamPostK w (kL (sortL (upI (2 ^ n.toNat))))) := by
  have htl := hT.lt
  have hall := all_sets n n1 n2
  have husz := upI_lt n1 n2
  obtain ⟨us, hus⟩ : ∃ us, sortL (upI (2 ^ n.toNat)) = us := ⟨_, rfl⟩
  have hul : us.length ≤ 256 := asc_len256 (hus ▸ asc_sortL _) (fun z hz => setB_lt (husz z (hus ▸ hz)))
  rw [hus] at hall husz ⊢
  have hpt := Lib.hid (fun W => pts_bal n W)
  have hcm := Lib.hid (fun W => cmp_bal n W)
  have hmt := mth_bal n
  have hfl := fld0b
  have hbb := Lib.hid ((Below.refl w.heap.size w).alloc (Nat.le_refl _) (.cells #[.slice none 0 0, .nilFunc] 44))
  replace hall := Lib.hid hall
  replace husz := Lib.hid husz
  replace hus := Lib.hid hus
  replace hT := Lib.hid hT
  go_enter Tryz.func76, Tryz.ntmps76
  go_wp2_with (go_at_call 153; refine (hpt.out _).mono ?_; rintro e w' ⟨rfl, rfl⟩)
  refine (hall.out _).mono ?_
  rintro e w2 ⟨v2, rfl, hS2, hb2⟩
  obtain ⟨a2, c2, rfl⟩ := hS2.form
  rw [World.size_alloc] at hS2 hb2
  have hz2 := hb2.size
  rw [World.size_alloc] at hz2
  have hbw := hbb.out.trans (hb2.mono (by omega))
  have hsb := Lib.hid (sorted_ball _ us _ w2 hS2.row (Nat.le_refl _) (by omega) (fun x hx => setB_lt (husz.out x hx)) (hT.out.below hbw htl))
  replace hb2 := Lib.hid hb2
  replace hbw := Lib.hid hbw
  clear hS2 hall
  go_wp2_with (go_at_call 97; refine (hcm.out _).mono ?_; rintro e w' ⟨rfl, rfl⟩)
  refine hsb.out.mono ?_
  rintro e w3 ⟨v3, rfl, hS3, hb3⟩
  obtain ⟨a3, c3, rfl⟩ := hS3.form
  have hb4 : Below (w.heap.size + 1) (w.alloc (.cells #[.slice none 0 0, .nilFunc] 44)) w3 := hb2.out.trans (hb3.mono (by omega))
  obtain ⟨d0, d1, df0, df1⟩ := res_cells (new_cell w _ _) hb4
  have rr := two_cells (.slice a3 (unL (kL us)).length c3) (Value.func (.func 106) #[] #[]) d0 d1
  have hff := Lib.hid (fam_fin_k (w := w) (h := w.heap.size) (hS3.mono (by omega)) (hbb.out.trans (hb4.mono (by omega))) (Nat.le_refl _))
  clear hS3 hb3 hb4 hsb
  go_wp2_with fail
  exact bodyPost_ret (v := .agg #[.slice a3 (unL (kL us)).length c3, (Value.func (.func 106) #[] #[])]) (by simp [results, Tryz.results76, go_sem, rr.1, rr.2]) rfl ⟨_, rfl, hff.out⟩
set_option maxRecDepth 100000 in
set_option maxHeartbeats 1000000 in
/-- what BoundaryOrder gives. -/
def orL (n : Int) : List Int := unL (kL (sortL (upI (2 ^ n.toNat))))
theorem kL_up_len {n : Int} (n1 : 1 ≤ n) (n2 : n ≤ 8) : (orL n).length ≤ 256 ∧ ∀ z ∈ orL n, 0 ≤ z ∧ z < 256 := by
  have husz := upI_lt n1 n2
  obtain ⟨us, hus⟩ : ∃ us, sortL (upI (2 ^ n.toNat)) = us := ⟨_, rfl⟩
  have hul : us.length ≤ 256 := asc_len256 (hus ▸ asc_sortL _) (fun z hz => setB_lt (husz z (hus ▸ hz)))
  unfold orL
  rw [hus] at husz ⊢
  rw [unL_len]
  have h := kL_len us us.length (Nat.le_refl _)
  rw [List.take_length] at h
  refine ⟨by omega, fun z hz => ?_⟩
  obtain ⟨k, hk, rfl⟩ := List.mem_map.1 hz
  have := kL_isK (fun x hx => setB_lt (husz x hx)) k hk
  exact ⟨this.1, this.2.1⟩
end
end Go.Proofs.YtpjapoaagbdlfaaGreatDoor
