/- Texts merged: XSrt1 XSrt2 XSrt3 XSrt4 XSrt5 XSrt6 XSrt7 XSrt8 XSrt9. -/
import Derived.Test.YtpjapoaagbdlfaaGreatDoorPut
import Derived.BigQuiet
import Derived.BigRegion
import Derived.Deep.DeepCutAuto
import Derived.Deep.CutBlock
import Derived.Lib.Tables
import Derived.Test.YtpjapoaagbdlfaaGreatDoorBits
namespace Go.Proofs.YtpjapoaagbdlfaaGreatDoor
section
/- A list of sets sorted in place, told of no more than that the same sets stay: swaps, insertion sort, heaps, reversed ranges. -/
open Go.ChangeShapes Go.WideShapes Go.ChangeAt Go.RowKit Go.Proofs

/-- block g holds the sets xs ahead. -/
def Lst (w : World) (g cap : Nat) (xs : List Int) : Prop := ∃ cur : Array Value, w.heap[g]? = some (.cells cur 48 (0, 0)) ∧ cur.size = cap ∧ xs.length ≤ cap ∧ ∀ j, j < xs.length → cur[j]? = some (.int .u64 (xs.getD j 0))
theorem Lst.cell {w : World} {g cap : Nat} {xs : List Int} (h : Lst w g cap xs) {i : Nat} (hi : i < xs.length) : w.cell? ⟨g, i, none⟩ = some (.int .u64 (xs.getD i 0)) := by
  obtain ⟨cur, hg, _, _, hc⟩ := h
  rw [cell_of_row w g i cur 48 (0, 0) hg]; exact hc i hi
theorem Lst.frozen {w : World} {g cap : Nat} {xs : List Int} (h : Lst w g cap xs) (i : Nat) : w.frozen? ⟨g, i, none⟩ = false := by
  obtain ⟨cur, hg, _⟩ := h; exact frozen_of hg i
theorem Lst.lt {w : World} {g cap : Nat} {xs : List Int} (h : Lst w g cap xs) : g < w.heap.size := by
  obtain ⟨cur, hg, _⟩ := h; exact (Array.getElem?_eq_some_iff.1 hg).1
def swpL (xs : List Int) (i j : Nat) : List Int := (xs.set i (xs.getD j 0)).set j (xs.getD i 0)
theorem swpL_perm {xs : List Int} {i j : Nat} (hi : i < xs.length) (hj : j < xs.length) : (swpL xs i j).Perm xs := by
  unfold swpL
  rw [List.getD_eq_getElem?_getD, List.getD_eq_getElem?_getD, List.getElem?_eq_getElem hi, List.getElem?_eq_getElem hj]
  exact List.set_set_perm hi hj
theorem Lst.swap {w : World} {g cap : Nat} {xs : List Int} (h : Lst w g cap xs) {i j : Nat} (hi : i < xs.length) (hj : j < xs.length) :
    Lst ((w.setCell ⟨g, i, none⟩ (.int .u64 (xs.getD j 0))).setCell ⟨g, j, none⟩ (.int .u64 (xs.getD i 0))) g cap (swpL xs i j) := by
  obtain ⟨cur, hg, hs, hl, hc⟩ := h
  unfold swpL
  obtain ⟨X, hX⟩ : ∃ X, xs.getD j 0 = X := ⟨_, rfl⟩
  obtain ⟨Y, hY⟩ : ∃ Y, xs.getD i 0 = Y := ⟨_, rfl⟩
  rw [hX, hY]
  have h1 := heap_setCell_same w g i cur 48 (.int .u64 X) hg
  have h2 := heap_setCell_same _ g j _ 48 (.int .u64 Y) h1
  refine ⟨_, h2, by simp [hs], by simp; exact hl, fun k hk => ?_⟩
  have hk' : k < xs.length := by simpa using hk
  have hck := hc k hk'
  rw [Array.getElem?_setIfInBounds, Array.getElem?_setIfInBounds, List.getD_eq_getElem?_getD, List.getElem?_set, List.getElem?_set, List.length_set]
  by_cases e1 : j = k
  · subst e1
    rw [if_pos rfl, if_pos rfl, if_pos (by simp; omega), if_pos hj]; rfl
  · rw [if_neg e1, if_neg e1]
    by_cases e2 : i = k
    · subst e2
      rw [if_pos rfl, if_pos rfl, if_pos (by omega), if_pos hi]; rfl
    · rw [if_neg e2, if_neg e2, hck]; rw [List.getD_eq_getElem?_getD]

/-- of the world w0 nothing has turned but block g, which holds the sets xs in some order. -/
def St (g cap : Nat) (xs : List Int) (w0 w : World) : Prop := ∃ ys, ys.Perm xs ∧ Lst w g cap ys ∧ w0.grownBy w (some g)
theorem St.start {g cap : Nat} {xs : List Int} {w : World} (h : Lst w g cap xs) : St g cap xs w w := ⟨xs, List.Perm.refl _, h, grown_refl w _⟩
theorem St.drewN {g cap : Nat} {xs : List Int} {w0 w : World} (h : St g cap xs w0 w) (n : Nat) : St g cap xs w0 (w.drewN n) := by
  obtain ⟨ys, hp, hl, hg⟩ := h
  exact ⟨ys, hp, hl, hg.os, hg.tape, hg.output, hg.size, hg.block⟩
theorem St.drew {g cap : Nat} {xs : List Int} {w0 w : World} (h : St g cap xs w0 w) : St g cap xs w0 w.drew := h.drewN 1
theorem St.at {g cap : Nat} {xs : List Int} {w0 w : World} (h : St g cap xs w0 w) {i : Nat} (hi : i < xs.length) : ∃ x, w.cell? ⟨g, i, none⟩ = some (.int .u64 x) := by
  obtain ⟨ys, hp, hl, _⟩ := h
  exact ⟨_, hl.cell (by rw [hp.length_eq]; exact hi)⟩
theorem St.frozen {g cap : Nat} {xs : List Int} {w0 w : World} (h : St g cap xs w0 w) (i : Nat) : w.frozen? ⟨g, i, none⟩ = false := by
  obtain ⟨ys, hp, hl, _⟩ := h; exact hl.frozen i
theorem St.lt {g cap : Nat} {xs : List Int} {w0 w : World} (h : St g cap xs w0 w) : g < w.heap.size := by
  obtain ⟨ys, hp, hl, _⟩ := h; exact hl.lt
theorem St.size {g cap : Nat} {xs : List Int} {w0 w : World} (h : St g cap xs w0 w) : w0.heap.size ≤ w.heap.size := by
  obtain ⟨ys, hp, hl, hg⟩ := h; exact hg.size
theorem St.swap {g cap : Nat} {xs : List Int} {w0 w : World} (h : St g cap xs w0 w) {i j : Nat} (hi : i < xs.length) (hj : j < xs.length) {x y : Int} (hx : w.cell? ⟨g, i, none⟩ = some (.int .u64 x)) (hy : w.cell? ⟨g, j, none⟩ = some (.int .u64 y)) :
    St g cap xs w0 ((w.setCell ⟨g, i, none⟩ (.int .u64 y)).setCell ⟨g, j, none⟩ (.int .u64 x)) := by
  obtain ⟨ys, hp, hl, hg⟩ := h
  have hi' : i < ys.length := by rw [hp.length_eq]; exact hi
  have hj' : j < ys.length := by rw [hp.length_eq]; exact hj
  have ex := (hl.cell hi').symm.trans hx
  have ey := (hl.cell hj').symm.trans hy
  injection ex with ex; injection ex with _ ex
  injection ey with ey; injection ey with _ ey
  refine ⟨swpL ys i j, (swpL_perm hi' hj').trans hp, by rw [← ex, ← ey]; exact hl.swap hi' hj', ?_⟩
  have g1 := grown_setCells (r := some g) (g := g) (.inl rfl) [.int .u64 y] i w hg
  exact grown_setCells (r := some g) (g := g) (.inl rfl) [.int .u64 x] j _ g1
/-- a callee's state on top of the state so far. -/
theorem St.then {g cap : Nat} {xs : List Int} {w0 w w' : World} (h : St g cap xs w0 w) (k : ∀ ys, Lst w g cap ys → ys.length = xs.length → St g cap ys w w') : St g cap xs w0 w' := by
  obtain ⟨ys, hp, hl, hg⟩ := h
  obtain ⟨zs, hq, hl2, hg2⟩ := k ys hl hp.length_eq
  exact ⟨zs, hq.trans hp, hl2, ⟨hg2.os.trans hg.os, hg2.tape.trans hg.tape, hg2.output.trans hg.output, Nat.le_trans hg.size hg2.size, fun j hj hne => (hg2.block j (Nat.lt_of_lt_of_le hj hg.size) hne).trans (hg.block j hj hne)⟩⟩
theorem St.here {g cap : Nat} {xs : List Int} {w0 w : World} (h : St g cap xs w0 w) : ∃ ys, Lst w g cap ys ∧ ys.length = xs.length ∧ ∀ w', St g cap ys w w' → St g cap xs w0 w' := by
  obtain ⟨ys, hp, hl, hg⟩ := h
  refine ⟨ys, hl, hp.length_eq, fun w' ⟨zs, hq, hl2, hg2⟩ => ?_⟩
  exact ⟨zs, hq.trans hp, hl2, ⟨hg2.os.trans hg.os, hg2.tape.trans hg.tape, hg2.output.trans hg.output, Nat.le_trans hg.size hg2.size, fun j hj hne => (hg2.block j (Nat.lt_of_lt_of_le hj hg.size) hne).trans (hg.block j hj hne)⟩⟩

theorem less_vals (x y : Int) (w : World) : Calls Tryz.prog 123 #[.int .u64 x, .int .u64 y] w fun e w' => e = .returned (.bool (decide (x < y))) ∧ w' = w := by
  by_cases h : x < y
  · have hf := Lib.hid (show true = decide (x < y) from (decide_eq_true h).symm)
    go_enter Tryz.func123, Tryz.ntmps123
    go_wp2
    go_ret
    exact ⟨ret_bool (by first | exact hf.out | rfl | simp [h]), rfl⟩
  · have hf := Lib.hid (show false = decide (x < y) from (decide_eq_false h).symm)
    go_enter Tryz.func123, Tryz.ntmps123
    go_wp2
    go_ret
    exact ⟨ret_bool (by first | exact hf.out | rfl | simp [h]), rfl⟩
/-- what a function that sorts in place leaves. -/
def SPost (g cap : Nat) (xs : List Int) (w : World) (e : Ending) (w' : World) : Prop := (∃ v, e = .returned v) ∧ St g cap xs w w'
theorem lessq (x y : Int) : Hid (∀ w, Calls Tryz.prog 123 #[.int .u64 x, .int .u64 y] w fun e w' => e = .returned (.bool (decide (x < y))) ∧ w' = w) := Lib.hid (fun w => less_vals x y w)
theorem pred_i {k : Nat} (h : 1 ≤ k) (h2 : k ≤ 1000000) : IntKind.i64.wrap ((k : Int) - 1) = ((k - 1 : Nat) : Int) := by rw [IntKind.wrap_i64]; omega

set_option maxHeartbeats 1000000 in
theorem insertion (g cap : Nat) (xs : List Int) (a b : Nat) (w : World) (h : Lst w g cap xs) (hl : xs.length ≤ 1000) (hb : b ≤ xs.length) (ha : a ≤ 1000) :
    Calls Tryz.prog 117 #[.slice (some ⟨g, 0, none⟩) xs.length cap, .int .i64 (a : Nat), .int .i64 (b : Nat)] w (SPost g cap xs w) := by
  have hs0 := Lib.hid (St.start h)
  clear h
  go_enter Tryz.func117, Tryz.ntmps117
  go_wp2_with fail
  go_loopw [6] (fun q wr => ∃ k : Nat, a + 1 ≤ k ∧ k ≤ 1001 ∧ q = .int .i64 k ∧ Hid (St g cap xs w wr)) (fun q _ => b - (intOf q).toNat)
  case atStart => exact ⟨a + 1, by omega, by omega, by go_num, hs0⟩
  case round =>
    obtain ⟨k, hk1, hk2, rfl, hs⟩ := hrel
    by_cases hlt : k < b
    · have k2 : (k : Int) < (b : Nat) := by omega
      go_wp2_with fail
      go_loopw [7] (fun q wr => ∃ j : Nat, j ≤ k ∧ q = .int .i64 j ∧ Hid (St g cap xs w wr)) (fun q _ => (intOf q).toNat)
      case atStart => exact ⟨k, Nat.le_refl _, rfl, hs⟩
      case round =>
        obtain ⟨j, hj, rfl, hs⟩ := hrel
        by_cases hja : a < j
        · have hd : decide (a < j) = true := decide_eq_true hja
          obtain ⟨J, hJ⟩ : ∃ J, j = J + 1 := ⟨j - 1, by omega⟩
          have hw : IntKind.i64.wrap ((j : Int) - 1) = (J : Int) := by rw [IntKind.wrap_i64]; omega
          have j1 : (0 : Int) ≤ (j : Int) := by omega
          have j2 : (j : Int) < (xs.length : Nat) := by omega
          have j3 : (0 : Int) ≤ (J : Int) := by omega
          have j4 : (J : Int) < (xs.length : Nat) := by omega
          obtain ⟨x, e1⟩ := hs.out.at (i := j) (by omega)
          obtain ⟨y, e2⟩ := hs.out.at (i := J) (by omega)
          have hq := lessq x y
          replace hJ := Lib.hid hJ
          obtain ⟨c, hc⟩ : ∃ c, decide (x < y) = c := ⟨_, rfl⟩
          rw [hc] at hq
          replace hc := Lib.hid hc
          rcases (by cases c <;> simp : c = true ∨ c = false) with rfl | rfl
          · go_wp2_with fail
            go_quiet ((go_at_call 123; exact Calls.quiet_of_same (hq.out _)))
            have hs2 := hs.out.drewN nq
            have f1 := hs2.frozen j
            have f2 := hs2.frozen J
            have e1' : (wr.drewN nq).cell? ⟨g, j, none⟩ = some (.int .u64 x) := e1
            have e2' : (wr.drewN nq).cell? ⟨g, J, none⟩ = some (.int .u64 y) := e2
            generalize wr.drewN nq = wq at *
            have hs3 := Lib.hid (hs2.swap (by omega) (by have := hJ.out; omega) e1' e2')
            obtain ⟨u, e3⟩ := cell?_setCell_some (p := ⟨g, j, none⟩) (x := .int .u64 y) e2'
            clear e1 e2 hs hs2
            go_wp2_with fail
            go_region
            go_wp2_with fail
            go_roundw
            case rel => exact ⟨J, by have := hJ.out; omega, by go_num, Lib.hid hs3.out.drew⟩
            case measure => have := hJ.out; simp [intOf]; omega
          · go_wp2_with fail
            go_quiet ((go_at_call 123; exact Calls.quiet_of_same (hq.out _)))
            have hs2 := Lib.hid (hs.out.drewN nq)
            go_wp2_with fail
            go_roundw
            case rel => exact ⟨k + 1, by omega, by omega, by go_num, hs2⟩
            case measure => simp [intOf]; omega
        · have hd : decide (a < j) = false := decide_eq_false hja
          go_wp2_with fail
          go_quiet (fail)
          have hs2 := Lib.hid (hs.out.drewN nq)
          go_wp2_with fail
          go_roundw
          case rel => exact ⟨k + 1, by omega, by omega, by go_num, hs2⟩
          case measure => simp [intOf]; omega
    · have k2 : ¬ (k : Int) < (b : Nat) := by omega
      go_wp2_with fail
      go_end0
      exact ⟨⟨_, rfl⟩, hs.out⟩

set_option maxHeartbeats 2000000 in
theorem sift (g cap : Nat) (xs : List Int) (lo hi f : Nat) (w : World) (h : Lst w g cap xs) (hl : xs.length ≤ 1000) (hb : f + hi ≤ xs.length) (ha : lo ≤ 1000) :
    Calls Tryz.prog 131 #[.slice (some ⟨g, 0, none⟩) xs.length cap, .int .i64 (lo : Nat), .int .i64 (hi : Nat), .int .i64 (f : Nat)] w (SPost g cap xs w) := by
  have hs0 := Lib.hid (St.start h)
  clear h
  go_enter Tryz.func131, Tryz.ntmps131
  go_wp2_with fail
  go_loopw [8] (fun q wr => ∃ r : Nat, r ≤ 1000 ∧ q = .int .i64 r ∧ Hid (St g cap xs w wr)) (fun q _ => 1001 - (intOf q).toNat)
  case atStart => exact ⟨lo, ha, rfl, hs0⟩
  case round =>
    obtain ⟨r, hr, rfl, hs⟩ := hrel
    obtain ⟨c, hc⟩ : ∃ c : Nat, 2 * (r : Int) + 1 = (c : Nat) := ⟨2 * r + 1, by omega⟩
    have hcr : c = 2 * r + 1 := by omega
    by_cases hge : hi ≤ c
    · have hd : decide (hi ≤ c) = true := decide_eq_true hge
      replace hcr := Lib.hid hcr
      go_wp2_with fail
      go_end0
      exact ⟨⟨_, rfl⟩, hs.out⟩
    · have hd : decide (hi ≤ c) = false := decide_eq_false hge
      obtain ⟨R0, hR0⟩ : ∃ R0 : Nat, f + r = R0 := ⟨_, rfl⟩
      have w1 : IntKind.i64.wrap ((f : Int) + (r : Int)) = (R0 : Int) := by rw [IntKind.wrap_i64]; omega
      have r1 : (0 : Int) ≤ (R0 : Int) := by omega
      have r2 : (R0 : Int) < (xs.length : Nat) := by omega
      have hR1 : R0 < xs.length := by omega
      have hd2 : ∃ d : Nat, ∃ D0 : Nat, d < hi ∧ r < d ∧ f + d = D0 ∧ D0 < xs.length ∧ IntKind.i64.wrap ((f : Int) + (d : Int)) = (D0 : Int) := ⟨c, f + c, by omega, by omega, rfl, by omega, by rw [IntKind.wrap_i64]; omega⟩
      have w3 : IntKind.i64.wrap ((c : Int) + 1) = ((c + 1 : Nat) : Int) := by rw [IntKind.wrap_i64]; omega
      by_cases hc1 : c + 1 < hi
      · have hdc : decide (c + 1 < hi) = true := decide_eq_true hc1
        obtain ⟨C0, hC0⟩ : ∃ C0 : Nat, f + c = C0 := ⟨_, rfl⟩
        obtain ⟨C1, hC1⟩ : ∃ C1 : Nat, f + c + 1 = C1 := ⟨_, rfl⟩
        obtain ⟨c1, hcc1⟩ : ∃ c1 : Nat, c + 1 = c1 := ⟨_, rfl⟩
        have w2 : IntKind.i64.wrap ((f : Int) + (c : Int)) = (C0 : Int) := by rw [IntKind.wrap_i64]; omega
        have w4 : IntKind.i64.wrap ((C0 : Int) + 1) = (C1 : Int) := by rw [IntKind.wrap_i64]; omega
        have w5 : IntKind.i64.wrap ((f : Int) + (c1 : Int)) = (C1 : Int) := by rw [IntKind.wrap_i64]; omega
        have c1' : (0 : Int) ≤ (C0 : Int) := by omega
        have c2' : (C0 : Int) < (xs.length : Nat) := by omega
        have c3' : (0 : Int) ≤ (C1 : Int) := by omega
        have c4' : (C1 : Int) < (xs.length : Nat) := by omega
        obtain ⟨x, e1⟩ := hs.out.at (i := C0) (by omega)
        obtain ⟨y, e2⟩ := hs.out.at (i := C1) (by omega)
        have hq := lessq x y
        clear w3
        have w6 : (c : Int) + 1 = (c1 : Int) := by omega
        have w7 : IntKind.i64.wrap (c1 : Int) = (c1 : Int) := by rw [IntKind.wrap_i64]; omega
        have hdc : decide (c1 < hi) = true := decide_eq_true (by omega)
        have hdn := hd2
        replace hd2 := Lib.hid hd2
        have hgl := Lib.hid (show f + c = C0 ∧ f + c + 1 = C1 ∧ c + 1 = c1 ∧ c = 2 * r + 1 ∧ f + r = R0 from ⟨hC0, hC1, hcc1, hcr, hR0⟩)
        clear hC0 hC1 hcc1 hcr hR0 hdn
        obtain ⟨v, hv⟩ : ∃ v, decide (x < y) = v := ⟨_, rfl⟩
        rw [hv] at hq
        replace hv := Lib.hid hv
        have hrd := Lib.hid (show r < c ∧ r < c1 from ⟨by have := hgl.out; omega, by have := hgl.out; omega⟩)
        rcases (by cases v <;> simp : v = true ∨ v = false) with rfl | rfl
        · go_wp2_with fail
          go_quiet ((go_at_call 123; exact Calls.quiet_of_same (hq.out _)))
          go_wp2_with fail
          clear e1 e2
          obtain ⟨g1, g2, g3, g4, g5⟩ := hgl.out
          have hC1l : C1 < xs.length := by omega
          have hrc : r < c1 := by omega
          have hch : c1 ≤ 1000 := by omega
          clear g1 g2 g3 g4 g5
          have hs2 := Lib.hid (hs.out.drewN nq)
          generalize wr.drewN nq = wq at *
          clear hs
          obtain ⟨p, e5⟩ := hs2.out.at (i := R0) hR1
          obtain ⟨q, e6⟩ := hs2.out.at (i := C1) (by omega)
          have hq2 := lessq p q
          obtain ⟨v2, hv2⟩ : ∃ v2, decide (p < q) = v2 := ⟨_, rfl⟩
          rw [hv2] at hq2
          replace hv2 := Lib.hid hv2
          rcases (by cases v2 <;> simp : v2 = true ∨ v2 = false) with rfl | rfl
          · go_wp2_with fail
            go_quiet ((go_at_call 123; exact Calls.quiet_of_same (hq2.out _)))
            have hs3 := hs2.out.drewN nq
            have f1 := hs3.frozen R0
            have f2 := hs3.frozen C1
            have e5' : (wq.drewN nq).cell? ⟨g, R0, none⟩ = some (.int .u64 p) := e5
            have e6' : (wq.drewN nq).cell? ⟨g, C1, none⟩ = some (.int .u64 q) := e6
            generalize wq.drewN nq = wz at *
            have hs4 := Lib.hid (hs3.swap hR1 (by omega) e5' e6')
            obtain ⟨u, e7⟩ := cell?_setCell_some (p := ⟨g, R0, none⟩) (x := .int .u64 q) e6'
            clear e5 e6 hs2 hs3
            go_wp2_with fail
            go_region
            go_wp2_with fail
            go_roundw
            case rel => exact ⟨c1, by omega, by first | rfl | go_num, Lib.hid hs4.out.drew⟩
            case measure => simp [intOf]; omega
          · go_wp2_with fail
            go_quiet ((go_at_call 123; exact Calls.quiet_of_same (hq2.out _)))
            have hs3 := Lib.hid (hs2.out.drewN nq)
            go_wp2_with fail
            go_end0
            exact ⟨⟨_, rfl⟩, hs3.out⟩
        · go_wp2_with fail
          go_quiet ((go_at_call 123; exact Calls.quiet_of_same (hq.out _)))
          go_wp2_with fail
          clear e1 e2
          obtain ⟨g1, g2, g3, g4, g5⟩ := hgl.out
          have hC1l : C0 < xs.length := by omega
          have hrc : r < c := by omega
          have hch : c ≤ 1000 := by omega
          clear g1 g2 g3 g4 g5
          have hs2 := Lib.hid (hs.out.drewN nq)
          generalize wr.drewN nq = wq at *
          clear hs
          obtain ⟨p, e5⟩ := hs2.out.at (i := R0) hR1
          obtain ⟨q, e6⟩ := hs2.out.at (i := C0) (by omega)
          have hq2 := lessq p q
          obtain ⟨v2, hv2⟩ : ∃ v2, decide (p < q) = v2 := ⟨_, rfl⟩
          rw [hv2] at hq2
          replace hv2 := Lib.hid hv2
          rcases (by cases v2 <;> simp : v2 = true ∨ v2 = false) with rfl | rfl
          · go_wp2_with fail
            go_quiet ((go_at_call 123; exact Calls.quiet_of_same (hq2.out _)))
            have hs3 := hs2.out.drewN nq
            have f1 := hs3.frozen R0
            have f2 := hs3.frozen C0
            have e5' : (wq.drewN nq).cell? ⟨g, R0, none⟩ = some (.int .u64 p) := e5
            have e6' : (wq.drewN nq).cell? ⟨g, C0, none⟩ = some (.int .u64 q) := e6
            generalize wq.drewN nq = wz at *
            have hs4 := Lib.hid (hs3.swap hR1 (by omega) e5' e6')
            obtain ⟨u, e7⟩ := cell?_setCell_some (p := ⟨g, R0, none⟩) (x := .int .u64 q) e6'
            clear e5 e6 hs2 hs3
            go_wp2_with fail
            go_region
            go_wp2_with fail
            go_roundw
            case rel => exact ⟨c, by omega, by first | rfl | go_num, Lib.hid hs4.out.drew⟩
            case measure => simp [intOf]; omega
          · go_wp2_with fail
            go_quiet ((go_at_call 123; exact Calls.quiet_of_same (hq2.out _)))
            have hs3 := Lib.hid (hs2.out.drewN nq)
            go_wp2_with fail
            go_end0
            exact ⟨⟨_, rfl⟩, hs3.out⟩
      · have hdc : decide ((c : Int) + 1 < (hi : Int)) = false := decide_eq_false (by omega)
        obtain ⟨C0, hC0⟩ : ∃ C0 : Nat, f + c = C0 := ⟨_, rfl⟩
        have w2 : IntKind.i64.wrap ((f : Int) + (c : Int)) = (C0 : Int) := by rw [IntKind.wrap_i64]; omega
        obtain ⟨c1, hcc1⟩ : ∃ c1 : Nat, c + 1 = c1 := ⟨_, rfl⟩
        have w6 : (c : Int) + 1 = (c1 : Int) := by omega
        have w7 : IntKind.i64.wrap (c1 : Int) = (c1 : Int) := by rw [IntKind.wrap_i64]; omega
        have hdc1 : decide (c1 < hi) = false := decide_eq_false (by omega)
        have c1' : (0 : Int) ≤ (C0 : Int) := by omega
        have c2' : (C0 : Int) < (xs.length : Nat) := by omega
        have hC1l : C0 < xs.length := by omega
        have hrc : r < c := by omega
        have hch : c ≤ 1000 := by omega
        replace hd2 := Lib.hid hd2
        have hgl := Lib.hid (show f + c = C0 ∧ c + 1 = c1 ∧ c = 2 * r + 1 ∧ f + r = R0 from ⟨hC0, hcc1, hcr, hR0⟩)
        clear hC0 hcc1 hcr hR0 w3 hdc
        go_wp2_with fail
        go_quiet (fail)
        go_wp2_with fail
        have hs2 := Lib.hid (hs.out.drewN nq)
        generalize wr.drewN nq = wq at *
        clear hs
        obtain ⟨p, e5⟩ := hs2.out.at (i := R0) hR1
        obtain ⟨q, e6⟩ := hs2.out.at (i := C0) (by omega)
        have hq2 := lessq p q
        obtain ⟨v2, hv2⟩ : ∃ v2, decide (p < q) = v2 := ⟨_, rfl⟩
        rw [hv2] at hq2
        replace hv2 := Lib.hid hv2
        rcases (by cases v2 <;> simp : v2 = true ∨ v2 = false) with rfl | rfl
        · go_wp2_with fail
          go_quiet ((go_at_call 123; exact Calls.quiet_of_same (hq2.out _)))
          have hs3 := hs2.out.drewN nq
          have f1 := hs3.frozen R0
          have f2 := hs3.frozen C0
          have e5' : (wq.drewN nq).cell? ⟨g, R0, none⟩ = some (.int .u64 p) := e5
          have e6' : (wq.drewN nq).cell? ⟨g, C0, none⟩ = some (.int .u64 q) := e6
          generalize wq.drewN nq = wz at *
          have hs4 := Lib.hid (hs3.swap hR1 (by omega) e5' e6')
          obtain ⟨u, e7⟩ := cell?_setCell_some (p := ⟨g, R0, none⟩) (x := .int .u64 q) e6'
          clear e5 e6 hs2 hs3
          go_wp2_with fail
          go_region
          go_wp2_with fail
          go_roundw
          case rel => exact ⟨c, by omega, by first | rfl | go_num, Lib.hid hs4.out.drew⟩
          case measure => simp [intOf]; omega
        · go_wp2_with fail
          go_quiet ((go_at_call 123; exact Calls.quiet_of_same (hq2.out _)))
          have hs3 := Lib.hid (hs2.out.drewN nq)
          go_wp2_with fail
          go_end0
          exact ⟨⟨_, rfl⟩, hs3.out⟩

end
section
/- A list of sets sorted in place: heaps, reversed ranges, partitions. -/
open Go.ChangeShapes Go.WideShapes Go.ChangeAt Go.RowKit Go.Proofs

theorem sift_st {g cap : Nat} {xs : List Int} {w0 w : World} (h : St g cap xs w0 w) (lo hi f : Nat) (hl : xs.length ≤ 1000) (hb : f + hi ≤ xs.length) (ha : lo ≤ 1000) :
    Calls Tryz.prog 131 #[.slice (some ⟨g, 0, none⟩) xs.length cap, .int .i64 (lo : Nat), .int .i64 (hi : Nat), .int .i64 (f : Nat)] w fun e w' => (∃ v, e = .returned v) ∧ St g cap xs w0 w' := by
  obtain ⟨ys, hy, hlen, hk⟩ := h.here
  have := sift g cap ys lo hi f w hy (by omega) (by omega) ha
  rw [hlen] at this
  exact this.mono fun _ _ h => ⟨h.1, hk _ h.2⟩
theorem insertion_st {g cap : Nat} {xs : List Int} {w0 w : World} (h : St g cap xs w0 w) (a b : Nat) (hl : xs.length ≤ 1000) (hb : b ≤ xs.length) (ha : a ≤ 1000) :
    Calls Tryz.prog 117 #[.slice (some ⟨g, 0, none⟩) xs.length cap, .int .i64 (a : Nat), .int .i64 (b : Nat)] w fun e w' => (∃ v, e = .returned v) ∧ St g cap xs w0 w' := by
  obtain ⟨ys, hy, hlen, hk⟩ := h.here
  have := insertion g cap ys a b w hy (by omega) (by omega) ha
  rw [hlen] at this
  exact this.mono fun _ _ h => ⟨h.1, hk _ h.2⟩

set_option maxHeartbeats 2000000 in
theorem heap_st {g cap : Nat} {xs : List Int} {w0 w : World} (h : St g cap xs w0 w) (a b : Nat) (hl : xs.length ≤ 1000) (hb : b ≤ xs.length) (hab : a < b) :
    Calls Tryz.prog 118 #[.slice (some ⟨g, 0, none⟩) xs.length cap, .int .i64 (a : Nat), .int .i64 (b : Nat)] w fun e w' => (∃ v, e = .returned v) ∧ St g cap xs w0 w' := by
  have hs0 := Lib.hid h
  obtain ⟨L, hL⟩ : ∃ L : Nat, b - a = L := ⟨_, rfl⟩
  have hLi : (b : Int) - (a : Int) = (L : Int) := by omega
  have hL1 : 1 ≤ L := by omega
  have hLx : a + L ≤ xs.length := by omega
  replace hL := Lib.hid hL
  clear h
  go_enter Tryz.func118, Tryz.ntmps118
  go_wp2_with fail
  go_loopw [9] (fun q wr => ∃ i : Int, q = .int .i64 i ∧ -1 ≤ i ∧ i ≤ 1000 ∧ Hid (St g cap xs w0 wr)) (fun q _ => (intOf q + 1).toNat)
  case atStart => exact ⟨_, rfl, by omega, by omega, hs0⟩
  case round =>
    obtain ⟨i, rfl, i1, i2, hs⟩ := hrel
    by_cases hi : 0 ≤ i
    · obtain ⟨j, rfl⟩ : ∃ j : Nat, i = (j : Nat) := ⟨i.toNat, by omega⟩
      have hc := Lib.hid (sift_st hs.out j L a hl hLx (by omega))
      go_wp2_with fail
      refine hc.out.mono ?_
      rintro e w2 ⟨⟨v, rfl⟩, hs2⟩
      replace hs2 := Lib.hid hs2
      go_wp2_with fail
      go_roundw
      case rel => exact ⟨_, rfl, by omega, by omega, hs2⟩
      case measure => simp [intOf] <;> omega
    · go_wp2_with fail
      go_loopw [10] (fun q wr => ∃ i : Int, q = .int .i64 i ∧ -1 ≤ i ∧ i < (L : Nat) ∧ Hid (St g cap xs w0 wr)) (fun q _ => (intOf q + 1).toNat)
      case atStart => exact ⟨_, rfl, by omega, by omega, hs⟩
      case round =>
        obtain ⟨i, rfl, i1, i2, hs⟩ := hrel
        by_cases hi : 0 ≤ i
        · obtain ⟨j, rfl⟩ : ∃ j : Nat, i = (j : Nat) := ⟨i.toNat, by omega⟩
          obtain ⟨A1, hA1⟩ : ∃ A1 : Nat, a + j = A1 := ⟨_, rfl⟩
          have w1 : IntKind.i64.wrap ((a : Int) + (j : Int)) = (A1 : Int) := by rw [IntKind.wrap_i64]; omega
          have a1 : (0 : Int) ≤ (a : Int) := by omega
          have a2 : (a : Int) < (xs.length : Nat) := by omega
          have a3 : (0 : Int) ≤ (A1 : Int) := by omega
          have a4 : (A1 : Int) < (xs.length : Nat) := by omega
          have hA1x : A1 < xs.length := by omega
          replace hA1 := Lib.hid hA1
          obtain ⟨x, e1⟩ := hs.out.at (i := a) (by omega)
          obtain ⟨y, e2⟩ := hs.out.at (i := A1) hA1x
          have f1 := hs.out.frozen a
          have f2 := hs.out.frozen A1
          have hs3 := Lib.hid (hs.out.swap (by omega) hA1x e1 e2).drew
          obtain ⟨u, e3⟩ := cell?_setCell_some (p := ⟨g, a, none⟩) (x := .int .u64 y) e2
          have hc := Lib.hid (sift_st hs3.out 0 j a hl (by omega) (by omega))
          clear hs
          go_wp2_with fail
          go_region
          go_wp2_with fail
          refine hc.out.mono ?_
          rintro e w2 ⟨⟨v, rfl⟩, hs2⟩
          replace hs2 := Lib.hid hs2
          go_wp2_with fail
          go_roundw
          case rel => exact ⟨_, rfl, by omega, by omega, hs2⟩
          case measure => simp [intOf] <;> omega
        · go_wp2_with fail
          go_end0
          exact ⟨⟨_, rfl⟩, hs.out⟩

set_option maxHeartbeats 1000000 in
theorem reverse_st {g cap : Nat} {xs : List Int} {w0 w : World} (h : St g cap xs w0 w) (a b : Nat) (hl : xs.length ≤ 1000) (hb : b ≤ xs.length) (hab : a < b) :
    Calls Tryz.prog 121 #[.slice (some ⟨g, 0, none⟩) xs.length cap, .int .i64 (a : Nat), .int .i64 (b : Nat)] w fun e w' => (∃ v, e = .returned v) ∧ St g cap xs w0 w' := by
  have hs0 := Lib.hid h
  obtain ⟨B, hB⟩ : ∃ B : Nat, b = B + 1 := ⟨b - 1, by omega⟩
  have hBi : (b : Int) - 1 = (B : Int) := by omega
  have hBx : B < xs.length := by omega
  replace hB := Lib.hid hB
  clear h
  go_enter Tryz.func121, Tryz.ntmps121
  go_wp2_with fail
  go_loopw [6, 7] (fun p q wr => ∃ i j : Nat, p = .int .i64 i ∧ q = .int .i64 j ∧ i ≤ 1000 ∧ j < xs.length ∧ Hid (St g cap xs w0 wr)) (fun p q _ => ((intOf q) - (intOf p)).toNat)
  case atStart => exact ⟨a, B, rfl, by first | rfl | go_num, by omega, by omega, hs0⟩
  case round =>
    obtain ⟨i, j, rfl, rfl, i1, j1, hs⟩ := hrel
    by_cases hij : i < j
    · have hd : decide (i < j) = true := decide_eq_true hij
      obtain ⟨J, hJ⟩ : ∃ J : Nat, j = J + 1 := ⟨j - 1, by omega⟩
      have hJi : (j : Int) - 1 = (J : Int) := by omega
      have a1 : (0 : Int) ≤ (i : Int) := by omega
      have a2 : (i : Int) < (xs.length : Nat) := by omega
      have a3 : (0 : Int) ≤ (j : Int) := by omega
      have a4 : (j : Int) < (xs.length : Nat) := by omega
      obtain ⟨x, e1⟩ := hs.out.at (i := i) (by omega)
      obtain ⟨y, e2⟩ := hs.out.at (i := j) j1
      have f1 := hs.out.frozen i
      have f2 := hs.out.frozen j
      have hs3 := Lib.hid (hs.out.swap (by omega) j1 e1 e2).drew
      obtain ⟨u, e3⟩ := cell?_setCell_some (p := ⟨g, i, none⟩) (x := .int .u64 y) e2
      replace hJ := Lib.hid hJ
      clear hs
      go_wp2_with fail
      go_region
      go_wp2_with fail
      go_roundw
      case rel => exact ⟨i + 1, J, by first | rfl | go_num, by first | rfl | go_num, by omega, by have := hJ.out; omega, hs3⟩
      case measure => have := hJ.out; simp [intOf]; omega
    · have hd : decide (i < j) = false := decide_eq_false hij
      go_wp2_with fail
      go_end0
      exact ⟨⟨_, rfl⟩, hs.out⟩

end
section
/- A list of sets sorted in place: partitions. -/
open Go.ChangeShapes Go.WideShapes Go.ChangeAt Go.RowKit Go.Proofs

/-- what a partition leaves. -/
def PartPost (g cap : Nat) (xs : List Int) (w0 : World) (a b : Nat) (e : Ending) (w' : World) : Prop := ∃ (m : Nat) (f : Bool), e = .returned (.tuple #[.int .i64 m, .bool f]) ∧ a ≤ m ∧ m < b ∧ St g cap xs w0 w'
def PartEPost (g cap : Nat) (xs : List Int) (w0 : World) (a b : Nat) (e : Ending) (w' : World) : Prop := ∃ m : Nat, e = .returned (.int .i64 m) ∧ a + 1 ≤ m ∧ m ≤ b ∧ St g cap xs w0 w'
set_option maxHeartbeats 4000000 in
theorem partition_eq_st {g cap : Nat} {xs : List Int} {w0 w : World} (h : St g cap xs w0 w) (a b p : Nat) (hl : xs.length ≤ 1000) (hb : b ≤ xs.length) (hab : a < b) (hp : p < b) :
    Calls Tryz.prog 124 #[.slice (some ⟨g, 0, none⟩) xs.length cap, .int .i64 (a : Nat), .int .i64 (b : Nat), .int .i64 (p : Nat)] w (PartEPost g cap xs w0 a b) := by
  have hs := Lib.hid h
  obtain ⟨B, hB⟩ : ∃ B : Nat, b = B + 1 := ⟨b - 1, by omega⟩
  have hBi : (b : Int) - 1 = (B : Int) := by omega
  obtain ⟨A, hA⟩ : ∃ A : Nat, a + 1 = A := ⟨_, rfl⟩
  have hAi : (a : Int) + 1 = (A : Int) := by omega
  have hbb : Hid (b = B + 1 ∧ a + 1 = A) := Lib.hid ⟨hB, hA⟩
  have q1 : B < b := by omega
  have q2 : a ≤ B := by omega
  have q3 : A ≤ b := by omega
  have q4 : a < A := by omega
  clear hB hA h
  go_enter Tryz.func124, Tryz.ntmps124
  go_upto_region 1 with fail
  go_cut [] (fun wx => Hid (St g cap xs w0 wx))
  case first =>
    have m1 : (0 : Int) ≤ (a : Int) := by omega
    have m2 : (a : Int) < (xs.length : Nat) := by omega
    have m3 : (0 : Int) ≤ (p : Int) := by omega
    have m4 : (p : Int) < (xs.length : Nat) := by omega
    obtain ⟨x, e1⟩ := hs.out.at (i := a) (by omega)
    obtain ⟨y, e2⟩ := hs.out.at (i := p) (by omega)
    have f1 := hs.out.frozen a
    have f2 := hs.out.frozen p
    have hs3 := Lib.hid (hs.out.swap (i := a) (j := p) (by omega) (by omega) e1 e2).drew
    obtain ⟨u, e3⟩ := cell?_setCell_some (p := ⟨g, a, none⟩) (x := .int .u64 y) e2
    go_region
    all_goals
      go_wp2_with fail
      go_meet
      exact hs3
  replace hs := hcut
  clear hcut
  go_wp2_with fail

  go_loopg [9, 10] (B + 1 - (A)) (fun k p q wr => ∃ i0 j0 : Nat, p = .int .i64 i0 ∧ q = .int .i64 j0 ∧ a < i0 ∧ i0 ≤ b ∧ a ≤ j0 ∧ j0 < b ∧ k = j0 + 1 - i0 ∧ Hid (St g cap xs w0 wr))
  case atStart => exact ⟨A, B, by first | rfl | go_num, by first | rfl | go_num, by omega, by omega, by omega, by omega, rfl, hs⟩
  case round =>
    obtain ⟨i0, j0, rfl, rfl, i01, i02, j01, j02, hk, hs⟩ := hrel
    replace hk := Lib.hid hk
    go_upto_block 2 with fail
    go_cut [9] (fun q wx => ∃ i : Nat, q = .int .i64 i ∧ i0 ≤ i ∧ i ≤ b ∧ Hid (St g cap xs w0 wx))
    case first =>
      go_wp2_with fail
      go_loopw [9] (fun q wr => ∃ i : Nat, q = .int .i64 i ∧ i0 ≤ i ∧ i ≤ b ∧ Hid (St g cap xs w0 wr)) (fun q _ => b - (intOf q).toNat)
      case atStart => exact ⟨i0, by first | rfl | go_num, by omega, by omega, hs⟩
      case round =>
        obtain ⟨i, rfl, i1, i2, hs⟩ := hrel
        by_cases hij : i ≤ j0
        · have hd : decide (i ≤ j0) = true := decide_eq_true hij
          have k1 : (0 : Int) ≤ (i : Int) := by omega
          have k2 : (i : Int) < (xs.length : Nat) := by omega
          have k3 : (0 : Int) ≤ (a : Int) := by omega
          have k4 : (a : Int) < (xs.length : Nat) := by omega
          obtain ⟨x, e1⟩ := hs.out.at (i := i) (by omega)
          obtain ⟨p, e2⟩ := hs.out.at (i := a) (by omega)
          have hq := lessq p x
          obtain ⟨v, hv⟩ : ∃ v, decide (p < x) = v := ⟨_, rfl⟩
          rw [hv] at hq
          replace hv := Lib.hid hv
          rcases (by cases v <;> simp : v = false ∨ v = true) with rfl | rfl
          · go_wp2_with fail
            go_quiet ((go_at_call 123; exact Calls.quiet_of_same (hq.out _)))
            have hs2 := Lib.hid (hs.out.drewN nq)
            go_wp2_with fail
            go_roundw
            case rel => exact ⟨i + 1, by first | rfl | go_num, by omega, by omega, hs2⟩
            case measure => simp [intOf] <;> omega
          · go_wp2_with fail
            go_quiet ((go_at_call 123; exact Calls.quiet_of_same (hq.out _)))
            have hs2 := Lib.hid (hs.out.drewN nq)
            go_wp2_with fail
            go_meet
            exact ⟨i, rfl, i1, i2, hs2⟩
        · have hd : decide (i ≤ j0) = false := decide_eq_false hij
          go_wp2_with fail
          go_quiet (fail)
          have hs2 := Lib.hid (hs.out.drewN nq)
          go_wp2_with fail
          go_meet
          exact ⟨i, rfl, i1, i2, hs2⟩
    obtain ⟨i, rfl, i1, i2, hs⟩ := hcut

    go_upto_block 4 with fail
    go_cut [10] (fun q wx => ∃ j : Nat, q = .int .i64 j ∧ j ≤ j0 ∧ a ≤ j ∧ Hid (St g cap xs w0 wx))
    case first =>
      go_wp2_with fail
      go_loopw [10] (fun q wr => ∃ j : Nat, q = .int .i64 j ∧ j ≤ j0 ∧ a ≤ j ∧ Hid (St g cap xs w0 wr)) (fun q _ => (intOf q).toNat)
      case atStart => exact ⟨j0, by first | rfl | go_num, by omega, by omega, hs⟩
      case round =>
        obtain ⟨j, rfl, j1, j2, hs⟩ := hrel
        by_cases hij : i ≤ j
        · have hd : decide (i ≤ j) = true := decide_eq_true hij
          have k1 : (0 : Int) ≤ (j : Int) := by omega
          have k2 : (j : Int) < (xs.length : Nat) := by omega
          have k3 : (0 : Int) ≤ (a : Int) := by omega
          have k4 : (a : Int) < (xs.length : Nat) := by omega
          obtain ⟨x, e1⟩ := hs.out.at (i := j) (by omega)
          obtain ⟨p, e2⟩ := hs.out.at (i := a) (by omega)
          have hq := lessq p x
          obtain ⟨v, hv⟩ : ∃ v, decide (p < x) = v := ⟨_, rfl⟩
          rw [hv] at hq
          replace hv := Lib.hid hv
          rcases (by cases v <;> simp : v = true ∨ v = false) with rfl | rfl
          · go_wp2_with fail
            go_quiet ((go_at_call 123; exact Calls.quiet_of_same (hq.out _)))
            have hs2 := Lib.hid (hs.out.drewN nq)
            obtain ⟨J1, hJ⟩ : ∃ J1 : Nat, j = J1 + 1 := ⟨j - 1, by omega⟩
            have hJi : (j : Int) - 1 = (J1 : Int) := by omega
            replace hJ := Lib.hid hJ
            go_wp2_with fail
            go_roundw
            case rel => exact ⟨J1, by first | rfl | go_num, by have := hJ.out; omega, by have := hJ.out; omega, hs2⟩
            case measure => have := hJ.out; simp [intOf] <;> omega
          · go_wp2_with fail
            go_quiet ((go_at_call 123; exact Calls.quiet_of_same (hq.out _)))
            have hs2 := Lib.hid (hs.out.drewN nq)
            go_wp2_with fail
            go_meet
            exact ⟨j, rfl, j1, j2, hs2⟩
        · have hd : decide (i ≤ j) = false := decide_eq_false hij
          go_wp2_with fail
          go_quiet (fail)
          have hs2 := Lib.hid (hs.out.drewN nq)
          go_wp2_with fail
          go_meet
          exact ⟨j, rfl, j1, j2, hs2⟩
    obtain ⟨j, rfl, j1, j2, hs⟩ := hcut
    by_cases hgt : j < i
    · have hd2 : decide (j < i) = true := decide_eq_true hgt
      go_wp2_with fail
      go_ret
      exact ⟨i, rfl, by omega, by omega, hs.out⟩
    · have hd2 : decide (j < i) = false := decide_eq_false hgt
      go_upto_region 8 with fail
      go_cut [] (fun wx => Hid (St g cap xs w0 wx))
      case first =>
        have m1 : (0 : Int) ≤ (i : Int) := by omega
        have m2 : (i : Int) < (xs.length : Nat) := by omega
        have m3 : (0 : Int) ≤ (j : Int) := by omega
        have m4 : (j : Int) < (xs.length : Nat) := by omega
        obtain ⟨x, e1⟩ := hs.out.at (i := i) (by omega)
        obtain ⟨y, e2⟩ := hs.out.at (i := j) (by omega)
        have f1 := hs.out.frozen i
        have f2 := hs.out.frozen j
        have hs3 := Lib.hid (hs.out.swap (i := i) (j := j) (by omega) (by omega) e1 e2).drew
        obtain ⟨u, e3⟩ := cell?_setCell_some (p := ⟨g, i, none⟩) (x := .int .u64 y) e2
        go_region
        all_goals
          go_wp2_with fail
          go_meet
          exact hs3
      replace hs := hcut
      clear hcut
      obtain ⟨J0, hJ⟩ : ∃ J0 : Nat, j = J0 + 1 := ⟨j - 1, by omega⟩
      have hJi : (j : Int) - 1 = (J0 : Int) := by omega
      replace hJ := Lib.hid hJ
      go_wp2_with fail
      go_roundg (J0 + 1 - (i + 1))
      case measure => have := hJ.out; have := hk.out; omega
      case rel => exact ⟨i + 1, J0, by first | rfl | go_num, by first | rfl | go_num, by omega, by omega, by have := hJ.out; omega, by have := hJ.out; omega, rfl, hs⟩
set_option maxHeartbeats 4000000 in
set_option maxRecDepth 100000 in
theorem partition_st {g cap : Nat} {xs : List Int} {w0 w : World} (h : St g cap xs w0 w) (a b p : Nat) (hl : xs.length ≤ 1000) (hb : b ≤ xs.length) (hab : a < b) (hp : p < b) :
    Calls Tryz.prog 125 #[.slice (some ⟨g, 0, none⟩) xs.length cap, .int .i64 (a : Nat), .int .i64 (b : Nat), .int .i64 (p : Nat)] w (PartPost g cap xs w0 a b) := by
  have hs := Lib.hid h
  obtain ⟨B, hB⟩ : ∃ B : Nat, b = B + 1 := ⟨b - 1, by omega⟩
  have hBi : (b : Int) - 1 = (B : Int) := by omega
  obtain ⟨A, hA⟩ : ∃ A : Nat, a + 1 = A := ⟨_, rfl⟩
  have hAi : (a : Int) + 1 = (A : Int) := by omega
  have hbb : Hid (b = B + 1 ∧ a + 1 = A) := Lib.hid ⟨hB, hA⟩
  have q1 : B < b := by omega
  have q2 : a ≤ B := by omega
  have q3 : A ≤ b := by omega
  have q4 : a < A := by omega
  clear hB hA h
  go_enter Tryz.func125, Tryz.ntmps125
  go_upto_region 1 with fail
  go_cut [] (fun wx => Hid (St g cap xs w0 wx))
  case first =>
    have m1 : (0 : Int) ≤ (a : Int) := by omega
    have m2 : (a : Int) < (xs.length : Nat) := by omega
    have m3 : (0 : Int) ≤ (p : Int) := by omega
    have m4 : (p : Int) < (xs.length : Nat) := by omega
    obtain ⟨x, e1⟩ := hs.out.at (i := a) (by omega)
    obtain ⟨y, e2⟩ := hs.out.at (i := p) (by omega)
    have f1 := hs.out.frozen a
    have f2 := hs.out.frozen p
    have hs3 := Lib.hid (hs.out.swap (i := a) (j := p) (by omega) (by omega) e1 e2).drew
    obtain ⟨u, e3⟩ := cell?_setCell_some (p := ⟨g, a, none⟩) (x := .int .u64 y) e2
    go_region
    all_goals
      go_wp2_with fail
      go_meet
      exact hs3
  replace hs := hcut
  clear hcut

  go_upto_block 0 with fail
  go_cut [10] (fun q wx => ∃ i : Nat, q = .int .i64 i ∧ A ≤ i ∧ i ≤ b ∧ Hid (St g cap xs w0 wx))
  case first =>
    go_wp2_with fail
    go_loopw [10] (fun q wr => ∃ i : Nat, q = .int .i64 i ∧ A ≤ i ∧ i ≤ b ∧ Hid (St g cap xs w0 wr)) (fun q _ => b - (intOf q).toNat)
    case atStart => exact ⟨A, by first | rfl | go_num, by omega, by omega, hs⟩
    case round =>
      obtain ⟨i, rfl, i1, i2, hs⟩ := hrel
      by_cases hij : i ≤ B
      · have hd : decide (i ≤ B) = true := decide_eq_true hij
        have k1 : (0 : Int) ≤ (i : Int) := by omega
        have k2 : (i : Int) < (xs.length : Nat) := by omega
        have k3 : (0 : Int) ≤ (a : Int) := by omega
        have k4 : (a : Int) < (xs.length : Nat) := by omega
        obtain ⟨x, e1⟩ := hs.out.at (i := i) (by omega)
        obtain ⟨p, e2⟩ := hs.out.at (i := a) (by omega)
        have hq := lessq x p
        obtain ⟨v, hv⟩ : ∃ v, decide (x < p) = v := ⟨_, rfl⟩
        rw [hv] at hq
        replace hv := Lib.hid hv
        rcases (by cases v <;> simp : v = true ∨ v = false) with rfl | rfl
        · go_wp2_with fail
          go_quiet ((go_at_call 123; exact Calls.quiet_of_same (hq.out _)))
          have hs2 := Lib.hid (hs.out.drewN nq)
          go_wp2_with fail
          go_roundw
          case rel => exact ⟨i + 1, by first | rfl | go_num, by omega, by omega, hs2⟩
          case measure => simp [intOf] <;> omega
        · go_wp2_with fail
          go_quiet ((go_at_call 123; exact Calls.quiet_of_same (hq.out _)))
          have hs2 := Lib.hid (hs.out.drewN nq)
          go_wp2_with fail
          go_meet
          exact ⟨i, rfl, i1, i2, hs2⟩
      · have hd : decide (i ≤ B) = false := decide_eq_false hij
        go_wp2_with fail
        go_quiet (fail)
        have hs2 := Lib.hid (hs.out.drewN nq)
        go_wp2_with fail
        go_meet
        exact ⟨i, rfl, i1, i2, hs2⟩
  obtain ⟨i, rfl, i1, i2, hs⟩ := hcut

  go_upto_block 2 with fail
  go_cut [11] (fun q wx => ∃ j : Nat, q = .int .i64 j ∧ j ≤ B ∧ a ≤ j ∧ Hid (St g cap xs w0 wx))
  case first =>
    go_wp2_with fail
    go_loopw [11] (fun q wr => ∃ j : Nat, q = .int .i64 j ∧ j ≤ B ∧ a ≤ j ∧ Hid (St g cap xs w0 wr)) (fun q _ => (intOf q).toNat)
    case atStart => exact ⟨B, by first | rfl | go_num, by omega, by omega, hs⟩
    case round =>
      obtain ⟨j, rfl, j1, j2, hs⟩ := hrel
      by_cases hij : i ≤ j
      · have hd : decide (i ≤ j) = true := decide_eq_true hij
        have k1 : (0 : Int) ≤ (j : Int) := by omega
        have k2 : (j : Int) < (xs.length : Nat) := by omega
        have k3 : (0 : Int) ≤ (a : Int) := by omega
        have k4 : (a : Int) < (xs.length : Nat) := by omega
        obtain ⟨x, e1⟩ := hs.out.at (i := j) (by omega)
        obtain ⟨p, e2⟩ := hs.out.at (i := a) (by omega)
        have hq := lessq x p
        obtain ⟨v, hv⟩ : ∃ v, decide (x < p) = v := ⟨_, rfl⟩
        rw [hv] at hq
        replace hv := Lib.hid hv
        rcases (by cases v <;> simp : v = false ∨ v = true) with rfl | rfl
        · go_wp2_with fail
          go_quiet ((go_at_call 123; exact Calls.quiet_of_same (hq.out _)))
          have hs2 := Lib.hid (hs.out.drewN nq)
          obtain ⟨J1, hJ⟩ : ∃ J1 : Nat, j = J1 + 1 := ⟨j - 1, by omega⟩
          have hJi : (j : Int) - 1 = (J1 : Int) := by omega
          replace hJ := Lib.hid hJ
          go_wp2_with fail
          go_roundw
          case rel => exact ⟨J1, by first | rfl | go_num, by have := hJ.out; omega, by have := hJ.out; omega, hs2⟩
          case measure => have := hJ.out; simp [intOf] <;> omega
        · go_wp2_with fail
          go_quiet ((go_at_call 123; exact Calls.quiet_of_same (hq.out _)))
          have hs2 := Lib.hid (hs.out.drewN nq)
          go_wp2_with fail
          go_meet
          exact ⟨j, rfl, j1, j2, hs2⟩
      · have hd : decide (i ≤ j) = false := decide_eq_false hij
        go_wp2_with fail
        go_quiet (fail)
        have hs2 := Lib.hid (hs.out.drewN nq)
        go_wp2_with fail
        go_meet
        exact ⟨j, rfl, j1, j2, hs2⟩
  obtain ⟨j, rfl, j1, j2, hs⟩ := hcut
  by_cases hgt : j < i
  · have hd2 : decide (j < i) = true := decide_eq_true hgt
    go_upto_region 8 with fail
    go_cut [] (fun wx => Hid (St g cap xs w0 wx))
    case first =>
      have m1 : (0 : Int) ≤ (j : Int) := by omega
      have m2 : (j : Int) < (xs.length : Nat) := by omega
      have m3 : (0 : Int) ≤ (a : Int) := by omega
      have m4 : (a : Int) < (xs.length : Nat) := by omega
      obtain ⟨x, e1⟩ := hs.out.at (i := j) (by omega)
      obtain ⟨y, e2⟩ := hs.out.at (i := a) (by omega)
      have f1 := hs.out.frozen j
      have f2 := hs.out.frozen a
      have hs3 := Lib.hid (hs.out.swap (i := j) (j := a) (by omega) (by omega) e1 e2).drew
      obtain ⟨u, e3⟩ := cell?_setCell_some (p := ⟨g, j, none⟩) (x := .int .u64 y) e2
      go_region
      all_goals
        go_wp2_with fail
        go_meet
        exact hs3
    replace hs := hcut
    clear hcut
    go_wp2_with fail
    go_ret2
    exact ⟨j, _, rfl, by omega, by omega, hs.out⟩
  · have hd2 : decide (j < i) = false := decide_eq_false hgt
    go_upto_region 10 with fail
    go_cut [] (fun wx => Hid (St g cap xs w0 wx))
    case first =>
      have m1 : (0 : Int) ≤ (i : Int) := by omega
      have m2 : (i : Int) < (xs.length : Nat) := by omega
      have m3 : (0 : Int) ≤ (j : Int) := by omega
      have m4 : (j : Int) < (xs.length : Nat) := by omega
      obtain ⟨x, e1⟩ := hs.out.at (i := i) (by omega)
      obtain ⟨y, e2⟩ := hs.out.at (i := j) (by omega)
      have f1 := hs.out.frozen i
      have f2 := hs.out.frozen j
      have hs3 := Lib.hid (hs.out.swap (i := i) (j := j) (by omega) (by omega) e1 e2).drew
      obtain ⟨u, e3⟩ := cell?_setCell_some (p := ⟨g, i, none⟩) (x := .int .u64 y) e2
      go_region
      all_goals
        go_wp2_with fail
        go_meet
        exact hs3
    replace hs := hcut
    clear hcut
    obtain ⟨J0, hJ⟩ : ∃ J0 : Nat, j = J0 + 1 := ⟨j - 1, by omega⟩
    have hJi : (j : Int) - 1 = (J0 : Int) := by omega
    replace hJ := Lib.hid hJ
    obtain ⟨I0, hI⟩ : ∃ I0 : Nat, i + 1 = I0 := ⟨_, rfl⟩
    have hIi : (i : Int) + 1 = (I0 : Int) := by omega
    replace hI := Lib.hid hI
    have z1 : a < I0 := by have := hI.out; omega
    have z2 : I0 ≤ b := by have := hI.out; omega
    go_upto_block 4 with fail
    go_cut [11] (fun q wx => ∃ j : Nat, q = .int .i64 j ∧ a ≤ j ∧ j < b ∧ Hid (St g cap xs w0 wx))
    case first =>
      go_wp2_with fail
      go_loopg [10, 11] (J0 + 1 - (I0)) (fun k p q wr => ∃ i0 j0 : Nat, p = .int .i64 i0 ∧ q = .int .i64 j0 ∧ a < i0 ∧ i0 ≤ b ∧ a ≤ j0 ∧ j0 < b ∧ k = j0 + 1 - i0 ∧ Hid (St g cap xs w0 wr))
      case atStart => exact ⟨I0, J0, by first | rfl | go_num, by first | rfl | go_num, by omega, by omega, by have := hJ.out; omega, by have := hJ.out; omega, rfl, hs⟩
      case round =>
        obtain ⟨i0, j0, rfl, rfl, i01, i02, j01, j02, hk, hs⟩ := hrel
        replace hk := Lib.hid hk
        go_upto_block 6 with fail
        go_cut [10] (fun q wx => ∃ i : Nat, q = .int .i64 i ∧ i0 ≤ i ∧ i ≤ b ∧ Hid (St g cap xs w0 wx))
        case first =>
          go_wp2_with fail
          go_loopw [10] (fun q wr => ∃ i : Nat, q = .int .i64 i ∧ i0 ≤ i ∧ i ≤ b ∧ Hid (St g cap xs w0 wr)) (fun q _ => b - (intOf q).toNat)
          case atStart => exact ⟨i0, by first | rfl | go_num, by omega, by omega, hs⟩
          case round =>
            obtain ⟨i, rfl, i1, i2, hs⟩ := hrel
            by_cases hij : i ≤ j0
            · have hd : decide (i ≤ j0) = true := decide_eq_true hij
              have k1 : (0 : Int) ≤ (i : Int) := by omega
              have k2 : (i : Int) < (xs.length : Nat) := by omega
              have k3 : (0 : Int) ≤ (a : Int) := by omega
              have k4 : (a : Int) < (xs.length : Nat) := by omega
              obtain ⟨x, e1⟩ := hs.out.at (i := i) (by omega)
              obtain ⟨p, e2⟩ := hs.out.at (i := a) (by omega)
              have hq := lessq x p
              obtain ⟨v, hv⟩ : ∃ v, decide (x < p) = v := ⟨_, rfl⟩
              rw [hv] at hq
              replace hv := Lib.hid hv
              rcases (by cases v <;> simp : v = true ∨ v = false) with rfl | rfl
              · go_wp2_with fail
                go_quiet ((go_at_call 123; exact Calls.quiet_of_same (hq.out _)))
                have hs2 := Lib.hid (hs.out.drewN nq)
                go_wp2_with fail
                go_roundw
                case rel => exact ⟨i + 1, by first | rfl | go_num, by omega, by omega, hs2⟩
                case measure => simp [intOf] <;> omega
              · go_wp2_with fail
                go_quiet ((go_at_call 123; exact Calls.quiet_of_same (hq.out _)))
                have hs2 := Lib.hid (hs.out.drewN nq)
                go_wp2_with fail
                go_meet
                exact ⟨i, rfl, i1, i2, hs2⟩
            · have hd : decide (i ≤ j0) = false := decide_eq_false hij
              go_wp2_with fail
              go_quiet (fail)
              have hs2 := Lib.hid (hs.out.drewN nq)
              go_wp2_with fail
              go_meet
              exact ⟨i, rfl, i1, i2, hs2⟩
        obtain ⟨i, rfl, i1, i2, hs⟩ := hcut

        go_upto_block 8 with fail
        go_cut [11] (fun q wx => ∃ j : Nat, q = .int .i64 j ∧ j ≤ j0 ∧ a ≤ j ∧ Hid (St g cap xs w0 wx))
        case first =>
          go_wp2_with fail
          go_loopw [11] (fun q wr => ∃ j : Nat, q = .int .i64 j ∧ j ≤ j0 ∧ a ≤ j ∧ Hid (St g cap xs w0 wr)) (fun q _ => (intOf q).toNat)
          case atStart => exact ⟨j0, by first | rfl | go_num, by omega, by omega, hs⟩
          case round =>
            obtain ⟨j, rfl, j1, j2, hs⟩ := hrel
            by_cases hij : i ≤ j
            · have hd : decide (i ≤ j) = true := decide_eq_true hij
              have k1 : (0 : Int) ≤ (j : Int) := by omega
              have k2 : (j : Int) < (xs.length : Nat) := by omega
              have k3 : (0 : Int) ≤ (a : Int) := by omega
              have k4 : (a : Int) < (xs.length : Nat) := by omega
              obtain ⟨x, e1⟩ := hs.out.at (i := j) (by omega)
              obtain ⟨p, e2⟩ := hs.out.at (i := a) (by omega)
              have hq := lessq x p
              obtain ⟨v, hv⟩ : ∃ v, decide (x < p) = v := ⟨_, rfl⟩
              rw [hv] at hq
              replace hv := Lib.hid hv
              rcases (by cases v <;> simp : v = false ∨ v = true) with rfl | rfl
              · go_wp2_with fail
                go_quiet ((go_at_call 123; exact Calls.quiet_of_same (hq.out _)))
                have hs2 := Lib.hid (hs.out.drewN nq)
                obtain ⟨J1, hJ⟩ : ∃ J1 : Nat, j = J1 + 1 := ⟨j - 1, by omega⟩
                have hJi : (j : Int) - 1 = (J1 : Int) := by omega
                replace hJ := Lib.hid hJ
                go_wp2_with fail
                go_roundw
                case rel => exact ⟨J1, by first | rfl | go_num, by have := hJ.out; omega, by have := hJ.out; omega, hs2⟩
                case measure => have := hJ.out; simp [intOf] <;> omega
              · go_wp2_with fail
                go_quiet ((go_at_call 123; exact Calls.quiet_of_same (hq.out _)))
                have hs2 := Lib.hid (hs.out.drewN nq)
                go_wp2_with fail
                go_meet
                exact ⟨j, rfl, j1, j2, hs2⟩
            · have hd : decide (i ≤ j) = false := decide_eq_false hij
              go_wp2_with fail
              go_quiet (fail)
              have hs2 := Lib.hid (hs.out.drewN nq)
              go_wp2_with fail
              go_meet
              exact ⟨j, rfl, j1, j2, hs2⟩
        obtain ⟨j, rfl, j1, j2, hs⟩ := hcut
        by_cases hgt : j < i
        · have hd2 : decide (j < i) = true := decide_eq_true hgt
          go_wp2_with fail
          go_meet
          exact ⟨j, rfl, by omega, by omega, hs⟩
        · have hd2 : decide (j < i) = false := decide_eq_false hgt
          go_upto_region 18 with fail
          go_cut [] (fun wx => Hid (St g cap xs w0 wx))
          case first =>
            have m1 : (0 : Int) ≤ (i : Int) := by omega
            have m2 : (i : Int) < (xs.length : Nat) := by omega
            have m3 : (0 : Int) ≤ (j : Int) := by omega
            have m4 : (j : Int) < (xs.length : Nat) := by omega
            obtain ⟨x, e1⟩ := hs.out.at (i := i) (by omega)
            obtain ⟨y, e2⟩ := hs.out.at (i := j) (by omega)
            have f1 := hs.out.frozen i
            have f2 := hs.out.frozen j
            have hs3 := Lib.hid (hs.out.swap (i := i) (j := j) (by omega) (by omega) e1 e2).drew
            obtain ⟨u, e3⟩ := cell?_setCell_some (p := ⟨g, i, none⟩) (x := .int .u64 y) e2
            go_region
            all_goals
              go_wp2_with fail
              go_meet
              exact hs3
          replace hs := hcut
          clear hcut
          obtain ⟨J0, hJ⟩ : ∃ J0 : Nat, j = J0 + 1 := ⟨j - 1, by omega⟩
          have hJi : (j : Int) - 1 = (J0 : Int) := by omega
          replace hJ := Lib.hid hJ
          go_wp2_with fail
          go_roundg (J0 + 1 - (i + 1))
          case measure => have := hJ.out; have := hk.out; omega
          case rel => exact ⟨i + 1, J0, by first | rfl | go_num, by first | rfl | go_num, by omega, by omega, by have := hJ.out; omega, by have := hJ.out; omega, rfl, hs⟩
    obtain ⟨j, rfl, y1, y2, hs⟩ := hcut

    go_upto_region 21 with fail
    go_cut [] (fun wx => Hid (St g cap xs w0 wx))
    case first =>
      have m1 : (0 : Int) ≤ (j : Int) := by omega
      have m2 : (j : Int) < (xs.length : Nat) := by omega
      have m3 : (0 : Int) ≤ (a : Int) := by omega
      have m4 : (a : Int) < (xs.length : Nat) := by omega
      obtain ⟨x, e1⟩ := hs.out.at (i := j) (by omega)
      obtain ⟨y, e2⟩ := hs.out.at (i := a) (by omega)
      have f1 := hs.out.frozen j
      have f2 := hs.out.frozen a
      have hs3 := Lib.hid (hs.out.swap (i := j) (j := a) (by omega) (by omega) e1 e2).drew
      obtain ⟨u, e3⟩ := cell?_setCell_some (p := ⟨g, j, none⟩) (x := .int .u64 y) e2
      go_region
      all_goals
        go_wp2_with fail
        go_meet
        exact hs3
    replace hs := hcut
    clear hcut
    go_wp2_with fail
    go_ret2
    exact ⟨j, _, rfl, by omega, by omega, hs.out⟩

end
section
/- A list of sets sorted in place: bits.Len, random numbers, pivots. -/
open Go.ChangeShapes Go.WideShapes Go.ChangeAt Go.RowKit Go.Proofs

theorem tab_size : Lib.len8tab.size = 256 := by decide +kernel
theorem tab_dec : ∀ i : Fin 256, 1 ≤ i.val → (2 : Nat) ^ (Lib.len8tab[i.val]'(by rw [tab_size]; exact i.isLt)).toNat ≤ 2 * i.val ∧ (Lib.len8tab[i.val]'(by rw [tab_size]; exact i.isLt)).toNat ≤ 8 := by decide +kernel
/-- what bits.Len says. -/
def LenPost (x : Int) (w : World) (e : Ending) (w' : World) : Prop := ∃ r : Nat, e = .returned (.int .i64 r) ∧ r ≤ 9 ∧ ((2 ^ r : Nat) : Int) ≤ 2 * x ∧ w = w'
set_option maxHeartbeats 1000000 in
set_option maxRecDepth 1000000 in
theorem len64_lo (x : Int) (h0 : 1 ≤ x) (h1 : x < 256) (w : World) : Calls Tryz.prog 127 #[.int .u64 x] w (LenPost x w) := by
  have hx : x.toNat < Lib.len8tab.size := by rw [tab_size]; omega
  obtain ⟨t1, t2⟩ := tab_dec ⟨x.toNat, by omega⟩ (by show 1 ≤ x.toNat; omega)
  have t1 := Lib.hid t1
  have t2 := Lib.hid t2
  replace hx := Lib.hid hx
  have hsz := Lib.hid tab_size
  go_enter Tryz.func127, Tryz.ntmps127
  go_wp2
  · go_ret
    refine ⟨(Lib.len8tab[x.toNat]'hx.out).toNat, ret_int (by first | rfl | (have := t2.out; unfold wrap64; omega)), by have := t2.out; omega, ?_, rfl⟩
    have h2 : ((2 ^ (Lib.len8tab[x.toNat]'hx.out).toNat : Nat) : Int) ≤ ((2 * x.toNat : Nat) : Int) := Int.ofNat_le.2 t1.out
    omega
  · exfalso
    have := hsz.out
    omega
set_option maxHeartbeats 1000000 in
set_option maxRecDepth 1000000 in
theorem len64_hi (w : World) : Calls Tryz.prog 127 #[.int .u64 256] w (LenPost 256 w) := by
  go_enter Tryz.func127, Tryz.ntmps127
  go_wp2
  go_ret
  exact ⟨9, ret_int (by decide +kernel), by omega, by omega, rfl⟩
theorem len_ok (x : Int) (h0 : 1 ≤ x) (h1 : x ≤ 256) (w : World) : Calls Tryz.prog 111 #[.int .u64 x] w (LenPost x w) := by
  have h64 : ∀ W, Calls Tryz.prog 127 #[.int .u64 x] W (LenPost x W) := fun W => by
    by_cases h : x < 256
    · exact len64_lo x h0 h W
    · obtain rfl : x = 256 := by omega
      exact len64_hi W
  replace h64 := Lib.hid h64
  go_enter Tryz.func111, Tryz.ntmps111
  go_wp2_with (go_at_call 127; refine (h64.out _).mono ?_; rintro e w' ⟨r, rfl, r1, r2, rfl⟩)
  go_ret
  exact ⟨r, rfl, r1, r2, rfl⟩
theorem wrap_pow : ∀ r : Fin 10, IntKind.u64.wrap ((2 : Int) ^ r.val) = ((2 ^ r.val : Nat) : Int) ∧ 1 ≤ 2 ^ r.val ∧ 2 ^ r.val ≤ 512 := by decide +kernel
theorem ret_u {a b : Int} (h : a = b) : Ending.returned (.int .u64 a) = .returned (.int .u64 b) := by rw [h]
theorem next_pow (x : Int) (h0 : 1 ≤ x) (h1 : x ≤ 256) (w : World) : Calls Tryz.prog 132 #[.int .i64 x] w fun e w' => ∃ M : Nat, e = .returned (.int .u64 M) ∧ 1 ≤ M ∧ M ≤ 512 ∧ (M : Int) ≤ 2 * x ∧ w = w' := by
  have h := Lib.hid (len_ok x h0 h1)
  go_enter Tryz.func132, Tryz.ntmps132
  go_wp2_with (go_at_call 111; refine (h.out _).mono ?_; rintro e w' ⟨r, rfl, r1, r2, rfl⟩)
  obtain ⟨p1, p2, p3⟩ := wrap_pow ⟨r, by omega⟩
  go_ret
  exact ⟨2 ^ r, ret_u p1, p2, p3, r2, rfl⟩
/-- what a 64-bit operator leaves lies in range. -/
theorem u64_rng (x : Int) : 0 ≤ IntKind.u64.wrap x ∧ IntKind.u64.wrap x < 18446744073709551616 := by
  rw [IntKind.wrap_u64]; omega
theorem xor_rng (a b : Int) : 0 ≤ bits .xor .u64 a b ∧ bits .xor .u64 a b < 18446744073709551616 := by
  show 0 ≤ IntKind.u64.wrap _ ∧ IntKind.u64.wrap _ < 18446744073709551616
  exact u64_rng _
theorem St.other {g cap : Nat} {xs : List Int} {w0 w : World} (h : St g cap xs w0 w) {p : Addr} (hp : p.block ≠ g) (hb : w0.heap.size ≤ p.block) (v : Value) : St g cap xs w0 (w.setCell p v) := by
  obtain ⟨ys, hq, ⟨cur, h1, h2, h3, h4⟩, hg⟩ := h
  refine ⟨ys, hq, ⟨cur, (heap_setCell_other w p g v (fun e => hp e.symm)).trans h1, h2, h3, h4⟩, ⟨hg.os, hg.tape, hg.output, Nat.le_trans hg.size (by simp [World.setCell]), fun j hj hne => ?_⟩⟩
  exact (heap_setCell_other w p j v (by omega)).trans (hg.block j hj hne)
/-- what a call that turns cell b alone leaves. -/
def TurnB (b : Nat) (w w' : World) : Prop := (∃ y, w'.cell? ⟨b, 0, none⟩ = some (.int .u64 y)) ∧ w'.frozen? ⟨b, 0, none⟩ = false ∧ w'.heap.size = w.heap.size ∧ ∀ (g cap : Nat) (xs : List Int) (w0 : World), b ≠ g → w0.heap.size ≤ b → St g cap xs w0 w → St g cap xs w0 w'
theorem TurnB.step {b : Nat} {w w1 : World} (h : TurnB b w w1) (x : Int) : TurnB b w ((w1.setCell ⟨b, 0, none⟩ (.int .u64 x)).drew) := by
  obtain ⟨⟨y, hy⟩, hf, hz, hs⟩ := h
  refine ⟨⟨x, World.cell?_setCell_same _ _ _ hy⟩, ?_, ?_, fun g cap xs w0 h1 h2 h3 => (St.other (hs g cap xs w0 h1 h2 h3) h1 h2 _).drew⟩
  · show (w1.setCell ⟨b, 0, none⟩ (.int .u64 x)).frozen? ⟨b, 0, none⟩ = false
    simpa using hf
  · show (w1.setCell ⟨b, 0, none⟩ (.int .u64 x)).heap.size = w.heap.size
    simp [World.setCell]; exact hz
theorem TurnB.refl {b : Nat} {w : World} {x : Int} (h : w.cell? ⟨b, 0, none⟩ = some (.int .u64 x)) (hf : w.frozen? ⟨b, 0, none⟩ = false) : TurnB b w w := ⟨⟨x, h⟩, hf, rfl, fun _ _ _ _ _ _ h => h⟩
/-- what Next leaves: some number in the cell. -/
def NextPost (b : Nat) (w : World) (e : Ending) (w' : World) : Prop := ∃ x : Int, e = .returned (.int .u64 x) ∧ 0 ≤ x ∧ x < 18446744073709551616 ∧ TurnB b w w'
set_option maxHeartbeats 1000000 in
theorem next_any (b : Nat) (x : Int) (w : World) (h : w.cell? ⟨b, 0, none⟩ = some (.int .u64 x)) (hf : w.frozen? ⟨b, 0, none⟩ = false) :
    Calls Tryz.prog 133 #[.pointer (some ⟨b, 0, none⟩)] w (NextPost b w) := by
  have ht := TurnB.refl h hf
  obtain ⟨y1, e1⟩ : ∃ y, bits .xor .u64 x (IntKind.u64.wrap (x * 8192)) = y := ⟨_, rfl⟩
  have h1 := Lib.hid (ht.step y1)
  clear ht
  go_enter Tryz.func133, Tryz.ntmps133
  go_wp2
  go_region
  generalize (w.setCell ⟨b, 0, none⟩ (.int .u64 y1)).drew = w1 at *
  clear e1 h hf
  obtain ⟨⟨x1, c1⟩, f1, z1, s1⟩ := id h1.out
  replace s1 := Lib.hid s1
  obtain ⟨y2, e2⟩ : ∃ y, bits .xor .u64 x1 (x1 / 128) = y := ⟨_, rfl⟩
  have h2 := Lib.hid (h1.out.step y2)
  go_wp2
  go_region
  generalize (w1.setCell ⟨b, 0, none⟩ (.int .u64 y2)).drew = w2 at *
  clear e2 h1 c1 f1 z1 s1
  obtain ⟨⟨x2, c2⟩, f2, z2, s2⟩ := id h2.out
  replace s2 := Lib.hid s2
  have hrg := xor_rng x2 (IntKind.u64.wrap (x2 * 131072))
  obtain ⟨y3, e3⟩ : ∃ y, bits .xor .u64 x2 (IntKind.u64.wrap (x2 * 131072)) = y := ⟨_, rfl⟩
  rw [e3] at hrg
  obtain ⟨r1, r2⟩ := hrg
  have h3 := Lib.hid (h2.out.step y3)
  have c3 : ((w2.setCell ⟨b, 0, none⟩ (.int .u64 y3)).drew).cell? ⟨b, 0, none⟩ = some (.int .u64 y3) := World.cell?_setCell_same _ _ _ c2
  go_wp2
  go_region
  generalize (w2.setCell ⟨b, 0, none⟩ (.int .u64 y3)).drew = w3 at *
  clear e3 h2 c2 f2 z2 s2
  go_wp2
  go_ret
  exact ⟨y3, rfl, r1, r2, h3.out⟩

end
section
/- A list of sets sorted in place: pivots, patterns broken. -/
open Go.ChangeShapes Go.WideShapes Go.ChangeAt Go.RowKit Go.Proofs

/-- what a call that turns the counter in cell b alone leaves. -/
def TurnI (b : Nat) (w w' : World) : Prop := (∃ y, w'.cell? ⟨b, 0, none⟩ = some (.int .i64 y)) ∧ w'.frozen? ⟨b, 0, none⟩ = false ∧ w'.heap.size = w.heap.size ∧ ∀ (g cap : Nat) (xs : List Int) (w0 : World), b ≠ g → w0.heap.size ≤ b → St g cap xs w0 w → St g cap xs w0 w'
theorem TurnI.step {b : Nat} {w w1 : World} (h : TurnI b w w1) (x : Int) : TurnI b w (w1.setCell ⟨b, 0, none⟩ (.int .i64 x)) := by
  obtain ⟨⟨y, hy⟩, hf, hz, hs⟩ := h
  refine ⟨⟨x, World.cell?_setCell_same _ _ _ hy⟩, ?_, ?_, fun g cap xs w0 h1 h2 h3 => St.other (hs g cap xs w0 h1 h2 h3) h1 h2 _⟩
  · simpa using hf
  · simp [World.setCell]; exact hz
theorem TurnI.drewN {b : Nat} {w w1 : World} (h : TurnI b w w1) (n : Nat) : TurnI b w (w1.drewN n) := ⟨h.1, h.2.1, h.2.2.1, fun g cap xs w0 h1 h2 h3 => (h.2.2.2 g cap xs w0 h1 h2 h3).drewN n⟩
theorem TurnI.refl {b : Nat} {w : World} {x : Int} (h : w.cell? ⟨b, 0, none⟩ = some (.int .i64 x)) (hf : w.frozen? ⟨b, 0, none⟩ = false) : TurnI b w w := ⟨⟨x, h⟩, hf, rfl, fun _ _ _ _ _ _ h => h⟩
theorem TurnI.trans {b : Nat} {w w1 w2 : World} (h : TurnI b w w1) (k : TurnI b w1 w2) : TurnI b w w2 := ⟨k.1, k.2.1, k.2.2.1.trans h.2.2.1, fun g cap xs w0 h1 h2 h3 => k.2.2.2 g cap xs w0 h1 h2 (h.2.2.2 g cap xs w0 h1 h2 h3)⟩
/-- the list and the counter, side by side. -/
structure Side (g cap c : Nat) (xs : List Int) (w0 w : World) : Prop where
  st : St g cap xs w0 w
  ne : c ≠ g
  lo : w0.heap.size ≤ c
  tu : TurnI c w w
theorem Side.turn {g cap c : Nat} {xs : List Int} {w0 w w' : World} (h : Side g cap c xs w0 w) (k : TurnI c w w') : Side g cap c xs w0 w' := ⟨k.2.2.2 _ _ _ _ h.ne h.lo h.st, h.ne, h.lo, ⟨k.1, k.2.1, rfl, fun _ _ _ _ _ _ h => h⟩⟩
def TwoPost (g cap c : Nat) (xs : List Int) (w0 : World) (a b : Nat) (e : Ending) (w' : World) : Prop := ∃ p q : Nat, e = .returned (.tuple #[.int .i64 p, .int .i64 q]) ∧ ((p = a ∧ q = b) ∨ (p = b ∧ q = a)) ∧ Side g cap c xs w0 w'
set_option maxHeartbeats 1000000 in
theorem order2 {g cap c : Nat} {xs : List Int} {w0 w : World} (h : Side g cap c xs w0 w) (a b : Nat) (_hl : xs.length ≤ 1000) (ha : a < xs.length) (hb : b < xs.length) :
    Calls Tryz.prog 136 #[.slice (some ⟨g, 0, none⟩) xs.length cap, .int .i64 (a : Nat), .int .i64 (b : Nat), .pointer (some ⟨c, 0, none⟩)] w (TwoPost g cap c xs w0 a b) := by
  obtain ⟨x, e1⟩ := h.st.at ha
  obtain ⟨y, e2⟩ := h.st.at hb
  obtain ⟨⟨k, e3⟩, f3, _, _⟩ := h.tu
  have k1 : (0 : Int) ≤ (a : Int) := by omega
  have k2 : (a : Int) < (xs.length : Nat) := by omega
  have k3 : (0 : Int) ≤ (b : Int) := by omega
  have k4 : (b : Int) < (xs.length : Nat) := by omega
  have hq := lessq y x
  obtain ⟨v, hv⟩ : ∃ v, decide (y < x) = v := ⟨_, rfl⟩
  rw [hv] at hq
  replace hv := Lib.hid hv
  replace h := Lib.hid h
  rcases (by cases v <;> simp : v = true ∨ v = false) with rfl | rfl
  · go_enter Tryz.func136, Tryz.ntmps136
    go_wp2_with fail
    go_quiet ((go_at_call 123; exact Calls.quiet_of_same (hq.out _)))
    go_wp2_with fail
    go_ret2
    exact ⟨b, a, rfl, .inr ⟨rfl, rfl⟩, h.out.turn (((TurnI.refl e3 f3).drewN _).step _)⟩
  · go_enter Tryz.func136, Tryz.ntmps136
    go_wp2_with fail
    go_quiet ((go_at_call 123; exact Calls.quiet_of_same (hq.out _)))
    go_wp2_with fail
    go_ret2
    exact ⟨a, b, rfl, .inl ⟨rfl, rfl⟩, h.out.turn ((TurnI.refl e3 f3).drewN _)⟩
def OnePost (g cap c : Nat) (xs : List Int) (w0 : World) (p : Nat → Prop) (e : Ending) (w' : World) : Prop := ∃ m : Nat, e = .returned (.int .i64 m) ∧ p m ∧ Side g cap c xs w0 w'
set_option maxHeartbeats 1000000 in
theorem median {g cap c : Nat} {xs : List Int} {w0 w : World} (h : Side g cap c xs w0 w) (i j k : Nat) (hl : xs.length ≤ 1000) (hi : i < xs.length) (hj : j < xs.length) (hk : k < xs.length) :
    Calls Tryz.prog 135 #[.slice (some ⟨g, 0, none⟩) xs.length cap, .int .i64 (i : Nat), .int .i64 (j : Nat), .int .i64 (k : Nat), .pointer (some ⟨c, 0, none⟩)] w (OnePost g cap c xs w0 fun m => m = i ∨ m = j ∨ m = k) := by
  have h1 := Lib.hid (order2 h i j hl hi hj)
  clear h
  go_enter Tryz.func135, Tryz.ntmps135
  go_wp2_with fail
  refine h1.out.mono ?_
  rintro e w1 ⟨p, q, rfl, hpq, hs⟩
  have h2 := Lib.hid (order2 hs q k hl (by omega) hk)
  replace hs := Lib.hid hs
  clear h1
  go_wp2_with fail
  refine h2.out.mono ?_
  rintro e w2 ⟨r, s, rfl, hrs, hs2⟩
  have h3 := Lib.hid (order2 hs2 p r hl (by omega) (by omega))
  replace hs2 := Lib.hid hs2
  clear h2
  go_wp2_with fail
  refine h3.out.mono ?_
  rintro e w3 ⟨t, u, rfl, htu, hs3⟩
  replace hs3 := Lib.hid hs3
  clear h3
  go_wp2_with fail
  go_ret
  exact ⟨u, rfl, by omega, hs3.out⟩
theorem median_adj {g cap c : Nat} {xs : List Int} {w0 w : World} (h : Side g cap c xs w0 w) (i : Nat) (hl : xs.length ≤ 1000) (h1 : 1 ≤ i) (hi : i + 1 < xs.length) :
    Calls Tryz.prog 134 #[.slice (some ⟨g, 0, none⟩) xs.length cap, .int .i64 (i : Nat), .pointer (some ⟨c, 0, none⟩)] w (OnePost g cap c xs w0 fun m => i ≤ m + 1 ∧ m ≤ i + 1) := by
  obtain ⟨i0, hi0⟩ : ∃ i0, i = i0 + 1 := ⟨i - 1, by omega⟩
  obtain ⟨i1, hi1⟩ : ∃ i1, i + 1 = i1 := ⟨_, rfl⟩
  have q0 : (i : Int) - 1 = (i0 : Int) := by omega
  have q1 : (i : Int) + 1 = (i1 : Int) := by omega
  have hm := Lib.hid (median h i0 i i1 hl (by omega) (by omega) (by omega))
  have hg := Lib.hid (show i = i0 + 1 ∧ i + 1 = i1 from ⟨hi0, hi1⟩)
  clear hi0 hi1 h
  go_enter Tryz.func134, Tryz.ntmps134
  go_wp2_with fail
  refine hm.out.mono ?_
  rintro e w1 ⟨m, rfl, hm1, hs⟩
  replace hs := Lib.hid hs
  go_wp2_with fail
  go_ret
  exact ⟨m, rfl, by have := hg.out; omega, hs.out⟩
theorem St.alloc {g cap : Nat} {xs : List Int} {w0 w : World} (h : St g cap xs w0 w) (o : Obj) : St g cap xs w0 (w.alloc o) := by
  obtain ⟨ys, hq, ⟨cur, h1, h2, h3, h4⟩, hg⟩ := h
  have hlt := (Array.getElem?_eq_some_iff.1 h1).1
  exact ⟨ys, hq, ⟨cur, (Below.heap_alloc _ _ _ hlt).trans h1, h2, h3, h4⟩, ⟨hg.os, hg.tape, hg.output, Nat.le_trans hg.size (by simp), fun j hj hne => (Below.heap_alloc _ _ _ (Nat.lt_of_lt_of_le hj hg.size)).trans (hg.block j hj hne)⟩⟩
theorem Side.new {g cap : Nat} {xs : List Int} {w0 w : World} (h : St g cap xs w0 w) (x : Int) : Side g cap w.heap.size xs w0 (w.alloc (.cells #[.int .i64 x] 3)) := by
  have hlt := h.lt
  refine ⟨h.alloc _, by omega, h.size, TurnI.refl (x := x) ?_ ?_⟩
  · rw [cell_of_row _ _ 0 _ 3 (0, 0) (heap_alloc_new w _)]; rfl
  · exact frozen_of (heap_alloc_new w _) 0
/-- what choosePivot leaves. -/
def PivPost (g cap : Nat) (xs : List Int) (w0 : World) (a b : Nat) (e : Ending) (w' : World) : Prop := ∃ (m : Nat) (h : Int), e = .returned (.tuple #[.int .i64 m, .int .i64 h]) ∧ a ≤ m ∧ m < b ∧ 0 ≤ h ∧ h ≤ 2 ∧ St g cap xs w0 w'
set_option maxHeartbeats 4000000 in
theorem pivot_st {g cap : Nat} {xs : List Int} {w0 w : World} (h : St g cap xs w0 w) (a b : Nat) (hl : xs.length ≤ 1000) (hb : b ≤ xs.length) (hab : a + 13 ≤ b) :
    Calls Tryz.prog 120 #[.slice (some ⟨g, 0, none⟩) xs.length cap, .int .i64 (a : Nat), .int .i64 (b : Nat)] w (PivPost g cap xs w0 a b) := by
  have hs := Lib.hid (Side.new h 0)
  obtain ⟨L, hL⟩ : ∃ L : Nat, b - a = L := ⟨_, rfl⟩
  have hLi : (b : Int) - (a : Int) = (L : Int) := by omega
  obtain ⟨Q, hQ⟩ : ∃ Q : Nat, L / 4 = Q := ⟨_, rfl⟩
  have hQi : (L : Int) / 4 = (Q : Int) := by omega
  obtain ⟨I, hI⟩ : ∃ I : Nat, a + Q = I := ⟨_, rfl⟩
  have hIi : (a : Int) + (Q : Int) = (I : Int) := by omega
  obtain ⟨J, hJ⟩ : ∃ J : Nat, a + Q * 2 = J := ⟨_, rfl⟩
  have hJi : (a : Int) + (Q : Int) * 2 = (J : Int) := by omega
  obtain ⟨K, hK⟩ : ∃ K : Nat, a + Q * 3 = K := ⟨_, rfl⟩
  have hKi : (a : Int) + (Q : Int) * 3 = (K : Int) := by omega
  have hL8 : (8 : Int) ≤ (L : Int) := by omega
  have hin : Hid (a ≤ I ∧ I < b ∧ a ≤ J ∧ J < b ∧ a ≤ K ∧ K < b ∧ (50 ≤ L → a + 12 ≤ I ∧ I + 1 < b ∧ a + 12 ≤ J ∧ J + 1 < b ∧ a + 12 ≤ K ∧ K + 1 < b)) := Lib.hid (by refine ⟨?_, ?_, ?_, ?_, ?_, ?_, fun hh => ?_⟩ <;> omega)
  replace hL := Lib.hid hL
  replace hQ := Lib.hid hQ
  replace hI := Lib.hid hI
  replace hJ := Lib.hid hJ
  replace hK := Lib.hid hK
  clear h
  have hpost : ∀ (m : Nat) (w' : World), a ≤ m → m < b → Side g cap w.heap.size xs w0 w' → ∀ hh : Int, 0 ≤ hh → hh ≤ 2 → PivPost g cap xs w0 a b (.returned (.tuple #[.int .i64 m, .int .i64 hh])) w' := fun m w' h1 h2 h3 hh h4 h5 => ⟨m, hh, rfl, h1, h2, h4, h5, h3.st⟩
  replace hpost := Lib.hid hpost
  go_enter Tryz.func120, Tryz.ntmps120
  by_cases h50 : 50 ≤ L
  · have h50i : (50 : Int) ≤ (L : Int) := by omega
    obtain ⟨g1, g2, g3, g4, g5, g6, g7⟩ := hin.out
    obtain ⟨m1, m2, m3, m4, m5, m6⟩ := g7 h50
    have c1 := Lib.hid (median_adj hs.out I hl (by omega) (by omega))
    go_wp2_with fail
    refine c1.out.mono ?_
    rintro e w1 ⟨i, rfl, hi, hs1⟩
    have c2 := Lib.hid (median_adj hs1 J hl (by omega) (by omega))
    clear hs1 c1
    go_wp2_with fail
    refine c2.out.mono ?_
    rintro e w2 ⟨j, rfl, hj, hs2⟩
    have c3 := Lib.hid (median_adj hs2 K hl (by omega) (by omega))
    clear hs2 c2
    go_wp2_with fail
    refine c3.out.mono ?_
    rintro e w3 ⟨k, rfl, hk, hs3⟩
    have c4 := Lib.hid (median hs3 i j k hl (by omega) (by omega) (by omega))
    clear hs3 c3
    go_wp2_with fail
    refine c4.out.mono ?_
    rintro e w4 ⟨m, rfl, hm, hs4⟩
    have hm1 : a ≤ m := by omega
    have hm2 : m < b := by omega
    obtain ⟨⟨y, ey⟩, _, _, _⟩ := hs4.tu
    replace hs4 := Lib.hid hs4
    clear c4
    by_cases hy0 : y = 0
    · subst hy0
      go_wp2_with fail
      go_ret2
      exact hpost.out m _ hm1 hm2 hs4.out 1 (by omega) (by omega)
    · have hd0 : (y == 0) = false := by simp [hy0]
      by_cases hy12 : y = 12
      · subst hy12
        go_wp2_with fail
        go_ret2
        exact hpost.out m _ hm1 hm2 hs4.out 2 (by omega) (by omega)
      · have hd12 : (y == 12) = false := by simp [hy12]
        go_wp2_with fail
        go_ret2
        exact hpost.out m _ hm1 hm2 hs4.out 0 (by omega) (by omega)
  · have h50i : ¬ (50 : Int) ≤ (L : Int) := by omega
    obtain ⟨g1, g2, g3, g4, g5, g6, g7⟩ := hin.out
    have c4 := Lib.hid (median hs.out I J K hl (by omega) (by omega) (by omega))
    clear g7
    go_wp2_with fail
    refine c4.out.mono ?_
    rintro e w4 ⟨m, rfl, hm, hs4⟩
    have hm1 : a ≤ m := by omega
    have hm2 : m < b := by omega
    obtain ⟨⟨y, ey⟩, _, _, _⟩ := hs4.tu
    replace hs4 := Lib.hid hs4
    clear c4
    by_cases hy0 : y = 0
    · subst hy0
      go_wp2_with fail
      go_ret2
      exact hpost.out m _ hm1 hm2 hs4.out 1 (by omega) (by omega)
    · have hd0 : (y == 0) = false := by simp [hy0]
      by_cases hy12 : y = 12
      · subst hy12
        go_wp2_with fail
        go_ret2
        exact hpost.out m _ hm1 hm2 hs4.out 2 (by omega) (by omega)
      · have hd12 : (y == 12) = false := by simp [hy12]
        go_wp2_with fail
        go_ret2
        exact hpost.out m _ hm1 hm2 hs4.out 0 (by omega) (by omega)

end
section
/- A list of sets sorted in place: patterns broken, a few steps of insertion. -/
open Go.ChangeShapes Go.WideShapes Go.ChangeAt Go.RowKit Go.Proofs

/-- the list and the random number, side by side. -/
structure SideU (g cap c : Nat) (xs : List Int) (w0 w : World) : Prop where
  st : St g cap xs w0 w
  ne : c ≠ g
  lo : w0.heap.size ≤ c
  tu : TurnB c w w
theorem SideU.turn {g cap c : Nat} {xs : List Int} {w0 w w' : World} (h : SideU g cap c xs w0 w) (k : TurnB c w w') : SideU g cap c xs w0 w' := ⟨k.2.2.2 _ _ _ _ h.ne h.lo h.st, h.ne, h.lo, ⟨k.1, k.2.1, rfl, fun _ _ _ _ _ _ h => h⟩⟩
theorem SideU.swap {g cap c : Nat} {xs : List Int} {w0 w : World} (h : SideU g cap c xs w0 w) {i j : Nat} (hi : i < xs.length) (hj : j < xs.length) {x y : Int} (hx : w.cell? ⟨g, i, none⟩ = some (.int .u64 x)) (hy : w.cell? ⟨g, j, none⟩ = some (.int .u64 y)) :
    SideU g cap c xs w0 ((w.setCell ⟨g, i, none⟩ (.int .u64 y)).setCell ⟨g, j, none⟩ (.int .u64 x)).drew := by
  obtain ⟨⟨z, hz⟩, hf, _, _⟩ := h.tu
  have hne := h.ne
  refine ⟨(h.st.swap hi hj hx hy).drew, h.ne, h.lo, ⟨⟨z, ?_⟩, ?_, rfl, fun _ _ _ _ _ _ h => h⟩⟩
  · show ((w.setCell ⟨g, i, none⟩ (.int .u64 y)).setCell ⟨g, j, none⟩ (.int .u64 x)).cell? ⟨c, 0, none⟩ = _
    rw [World.cell?_setCell_other _ _ _ _ (by intro e; injection e with e; exact hne e.symm), World.cell?_setCell_other _ _ _ _ (by intro e; injection e with e; exact hne e.symm)]
    exact hz
  · show ((w.setCell ⟨g, i, none⟩ (.int .u64 y)).setCell ⟨g, j, none⟩ (.int .u64 x)).frozen? ⟨c, 0, none⟩ = false
    simpa using hf
theorem and_le {x : Int} {M : Nat} (h0 : 0 ≤ x) (h1 : x < 18446744073709551616) (hM : 1 ≤ M) (hM2 : M ≤ 512) : ∃ O : Nat, bits .and .u64 x ((M : Int) - 1) = (O : Int) ∧ O + 1 ≤ M := by
  refine ⟨x.toNat &&& ((M : Int) - 1).toNat, u64_and x _ h0 (by omega) (by omega) (by omega), ?_⟩
  have := Nat.and_le_right (n := x.toNat) (m := ((M : Int) - 1).toNat)
  omega

set_option maxHeartbeats 4000000 in
theorem break_st {g cap : Nat} {xs : List Int} {w0 w : World} (h : St g cap xs w0 w) (a b : Nat) (hl : xs.length ≤ 256) (hb : b ≤ xs.length) (hab : a + 13 ≤ b) :
    Calls Tryz.prog 119 #[.slice (some ⟨g, 0, none⟩) xs.length cap, .int .i64 (a : Nat), .int .i64 (b : Nat)] w fun e w' => (∃ v, e = .returned v) ∧ St g cap xs w0 w' := by
  obtain ⟨L, hL⟩ : ∃ L : Nat, b - a = L := ⟨_, rfl⟩
  have hLi : (b : Int) - (a : Int) = (L : Int) := by omega
  have hlt := h.lt
  have hz0 := h.size
  have hs0 : SideU g cap w.heap.size xs w0 (w.alloc (.cells #[.int .u64 (L : Nat)] 124)) := by
    refine ⟨h.alloc _, by omega, h.size, TurnB.refl (x := (L : Nat)) ?_ ?_⟩
    · rw [cell_of_row _ _ 0 _ _ (0, 0) (heap_alloc_new w _)]; rfl
    · exact frozen_of (heap_alloc_new w _) 0
  obtain ⟨Q, hQ⟩ : ∃ Q : Nat, L / 4 = Q := ⟨_, rfl⟩
  have hQi : (L : Int) / 4 = (Q : Int) := by omega
  obtain ⟨J, hJ⟩ : ∃ J : Nat, a + Q * 2 = J := ⟨_, rfl⟩
  have hJi : (a : Int) + (Q : Int) * 2 = (J : Int) := by omega
  obtain ⟨J0, hJ0⟩ : ∃ J0 : Nat, J = J0 + 1 := ⟨J - 1, by omega⟩
  have hJ0i : (J : Int) - 1 = (J0 : Int) := by omega
  have hL8 : (8 : Int) ≤ (L : Int) := by omega
  have hin : Hid (a ≤ J0 ∧ J0 + 2 < b ∧ a + L = b ∧ J = J0 + 1) := Lib.hid (by refine ⟨?_, ?_, ?_, ?_⟩ <;> omega)
  have hnp := Lib.hid (fun W => next_pow (L : Int) (by omega) (by omega) W)
  replace hL := Lib.hid hL
  replace hQ := Lib.hid hQ
  replace hJ := Lib.hid hJ
  replace hJ0 := Lib.hid hJ0
  replace hs0 := Lib.hid hs0
  clear h hlt
  go_enter Tryz.func119, Tryz.ntmps119
  go_wp2_with (go_at_call 132; refine (hnp.out _).mono ?_; rintro e w' ⟨M, rfl, M1, M2, M3, rfl⟩)
  go_loopw [9] (fun q wr => ∃ i : Nat, q = .int .i64 i ∧ J0 ≤ i ∧ i ≤ J0 + 3 ∧ Hid (SideU g cap w.heap.size xs w0 wr)) (fun q _ => J0 + 4 - (intOf q).toNat)
  case atStart => exact ⟨J0, by first | rfl | go_num, by omega, by omega, hs0⟩
  case round =>
    obtain ⟨i, rfl, i1, i2, hs⟩ := hrel
    by_cases hi : i ≤ J0 + 2
    · have hii : (i : Int) ≤ (J : Int) + 1 := by have := hin.out; omega
      obtain ⟨⟨y0, e0⟩, f0, _, _⟩ := hs.out.tu
      have hnx := Lib.hid (next_any w.heap.size y0 wr e0 f0)
      go_wp2_with fail
      refine hnx.out.mono ?_
      rintro e w2 ⟨x, rfl, x0, x1, ht⟩
      have hs2 := hs.out.turn ht
      obtain ⟨O, hO, hO2⟩ := and_le (M := M) x0 x1 M1 M2
      obtain ⟨P, hP, hPx⟩ : ∃ P : Nat, (P = if O < L then O else O - L) ∧ P < L := ⟨_, rfl, by split <;> omega⟩
      obtain ⟨A1, hA1⟩ : ∃ A1 : Nat, a + P = A1 := ⟨_, rfl⟩
      have hin' := hin.out
      have w1 : IntKind.i64.wrap ((a : Int) + (P : Int)) = (A1 : Int) := by rw [IntKind.wrap_i64]; omega
      have a1 : (0 : Int) ≤ (i : Int) := by omega
      have a2 : (i : Int) < (xs.length : Nat) := by omega
      have a3 : (0 : Int) ≤ (A1 : Int) := by omega
      have a4 : (A1 : Int) < (xs.length : Nat) := by omega
      have hix : i < xs.length := by omega
      have hA1x : A1 < xs.length := by omega
      obtain ⟨x2, e1⟩ := hs2.st.at (i := i) hix
      obtain ⟨y2, e2⟩ := hs2.st.at (i := A1) hA1x
      have f1 := hs2.st.frozen i
      have f2 := hs2.st.frozen A1
      have hs3 := Lib.hid (hs2.swap hix hA1x e1 e2)
      obtain ⟨u, e3⟩ := cell?_setCell_some (p := ⟨g, i, none⟩) (x := .int .u64 y2) e2
      replace hA1 := Lib.hid hA1
      clear hs hs2 ht hnx e0 f0 hin'
      by_cases hOL : O < L
      · have hd : decide (L ≤ O) = false := decide_eq_false (by omega)
        rw [if_pos hOL] at hP
        subst hP
        go_wp2_with fail
        go_region
        all_goals
          go_wp2_with fail
          go_roundw
          case rel => exact ⟨i + 1, by first | rfl | go_num, by omega, by omega, hs3⟩
          case measure => simp [intOf] <;> omega
      · have hd : decide (L ≤ O) = true := decide_eq_true (by omega)
        rw [if_neg hOL] at hP
        have hPi : (O : Int) - (L : Int) = (P : Int) := by omega
        replace hP := Lib.hid hP
        go_wp2_with fail
        go_region
        all_goals
          go_wp2_with fail
          go_roundw
          case rel => exact ⟨i + 1, by first | rfl | go_num, by omega, by omega, hs3⟩
          case measure => simp [intOf] <;> omega
    · have hii : ¬ (i : Int) ≤ (J : Int) + 1 := by have := hin.out; omega
      go_wp2_with fail
      go_end0
      exact ⟨⟨_, rfl⟩, hs.out.st⟩

end
section
/- A list of sets sorted in place: a few steps of insertion. -/
open Go.ChangeShapes Go.WideShapes Go.ChangeAt Go.RowKit Go.Proofs

/-- a bool, and the state. -/
def BoolSt (g cap : Nat) (xs : List Int) (w0 : World) (e : Ending) (w' : World) : Prop := (∃ v, e = .returned (.bool v)) ∧ St g cap xs w0 w'
set_option maxHeartbeats 8000000 in
set_option maxRecDepth 100000 in
theorem partial_st {g cap : Nat} {xs : List Int} {w0 w : World} (h : St g cap xs w0 w) (a b : Nat) (hl : xs.length ≤ 1000) (hb : b ≤ xs.length) (hab : a < b) :
    Calls Tryz.prog 122 #[.slice (some ⟨g, 0, none⟩) xs.length cap, .int .i64 (a : Nat), .int .i64 (b : Nat)] w (BoolSt g cap xs w0) := by
  have hs := Lib.hid h
  obtain ⟨L, hL⟩ : ∃ L : Nat, b - a = L := ⟨_, rfl⟩
  have hLi : (b : Int) - (a : Int) = (L : Int) := by omega
  replace hL := Lib.hid hL
  clear h
  go_enter Tryz.func122, Tryz.ntmps122
  go_wp2_with fail
  go_loopg [7, 8] 5 (fun k p q wr => ∃ i j : Nat, p = .int .i64 i ∧ q = .int .i64 j ∧ a + 1 ≤ i ∧ i ≤ b ∧ j ≤ 5 ∧ k = 5 - j ∧ Hid (St g cap xs w0 wr))
  case atStart => exact ⟨a + 1, 0, by first | rfl | go_num, by first | rfl | go_num, by omega, by omega, by omega, rfl, hs⟩
  case round =>
    obtain ⟨i0, jj, rfl, rfl, i01, i02, jj5, hk, hs⟩ := hrel
    replace hk := Lib.hid hk
    by_cases hjj : jj < 5
    · have hjd : decide (jj < 5) = true := decide_eq_true hjj
      have hji : (jj : Int) < 5 := by omega
      go_upto_block 2 with fail
      go_cut [7] (fun q wx => ∃ i : Nat, q = .int .i64 i ∧ a + 1 ≤ i ∧ i ≤ b ∧ Hid (St g cap xs w0 wx))
      case first =>
        go_wp2_with fail
        go_loopw [7] (fun q wr => ∃ i : Nat, q = .int .i64 i ∧ a + 1 ≤ i ∧ i ≤ b ∧ Hid (St g cap xs w0 wr)) (fun q _ => b - (intOf q).toNat)
        case atStart => exact ⟨i0, rfl, i01, i02, hs⟩
        case round =>
          obtain ⟨i, rfl, i1, i2, hs⟩ := hrel
          by_cases hi : i < b
          · have hid : decide (i < b) = true := decide_eq_true hi
            obtain ⟨J, hJ⟩ : ∃ J : Nat, i = J + 1 := ⟨i - 1, by omega⟩
            have hJw : IntKind.i64.wrap ((i : Int) - 1) = (J : Int) := by rw [IntKind.wrap_i64]; omega
            have hJi : (i : Int) - 1 = (J : Int) := by omega
            have hJx : J < xs.length := by omega
            have hjx : i < xs.length := by omega
            have k1 : (0 : Int) ≤ (i : Int) := by omega
            have k2 : (i : Int) < (xs.length : Nat) := by omega
            have k3 : (0 : Int) ≤ (J : Int) := by omega
            have k4 : (J : Int) < (xs.length : Nat) := by omega
            replace hJ := Lib.hid hJ
            obtain ⟨x, e1⟩ := hs.out.at (i := i) hjx
            obtain ⟨y, e2⟩ := hs.out.at (i := J) hJx
            have hq := lessq x y
            obtain ⟨v, hv⟩ : ∃ v, decide (x < y) = v := ⟨_, rfl⟩
            rw [hv] at hq
            replace hv := Lib.hid hv
            rcases (by cases v <;> simp : v = false ∨ v = true) with rfl | rfl
            · go_wp2_with fail
              go_quiet ((go_at_call 123; exact Calls.quiet_of_same (hq.out _)))
              have hs2 := Lib.hid (hs.out.drewN nq)
              go_wp2_with fail
              go_roundw
              case rel => exact ⟨i + 1, by first | rfl | go_num, by omega, by omega, hs2⟩
              case measure => simp [intOf] <;> omega
            · go_wp2_with fail
              go_quiet ((go_at_call 123; exact Calls.quiet_of_same (hq.out _)))
              have hs2 := Lib.hid (hs.out.drewN nq)
              go_wp2_with fail
              go_meet
              exact ⟨i, rfl, i1, i2, hs2⟩
          · have hid : decide (i < b) = false := decide_eq_false hi
            go_wp2_with fail
            go_quiet (fail)
            have hs2 := Lib.hid (hs.out.drewN nq)
            go_wp2_with fail
            go_meet
            exact ⟨i, rfl, i1, i2, hs2⟩
      obtain ⟨i, rfl, i1, i2, hs⟩ := hcut
      by_cases hib : i = b
      · subst hib
        go_wp2_with fail
        go_ret
        exact ⟨⟨_, rfl⟩, hs.out⟩
      · have hid : ((i : Int) == (b : Int)) = false := by rw [beq_eq_false_iff_ne]; omega
        have hidn : (i == b) = false := by rw [beq_eq_false_iff_ne]; omega
        have hidd : decide (i = b) = false := decide_eq_false hib
        have hine : ¬ (i : Int) = (b : Int) := by omega
        have hilt : i < b := by omega
        by_cases hL50 : L < 50
        · have hLd : decide (L < 50) = true := decide_eq_true hL50
          have hLz : (L : Int) < 50 := by omega
          go_wp2_with fail
          go_ret
          exact ⟨⟨_, rfl⟩, hs.out⟩
        · have hLd : decide (L < 50) = false := decide_eq_false hL50
          have hLz : ¬ (L : Int) < 50 := by omega
          go_upto_region 11 with fail
          go_cut [] (fun wx => Hid (St g cap xs w0 wx))
          case first =>
            obtain ⟨J, hJ⟩ : ∃ J : Nat, i = J + 1 := ⟨i - 1, by omega⟩
            have hJw : IntKind.i64.wrap ((i : Int) - 1) = (J : Int) := by rw [IntKind.wrap_i64]; omega
            have hJi : (i : Int) - 1 = (J : Int) := by omega
            have hJx : J < xs.length := by omega
            have hjx : i < xs.length := by omega
            have k1 : (0 : Int) ≤ (i : Int) := by omega
            have k2 : (i : Int) < (xs.length : Nat) := by omega
            have k3 : (0 : Int) ≤ (J : Int) := by omega
            have k4 : (J : Int) < (xs.length : Nat) := by omega
            replace hJ := Lib.hid hJ
            obtain ⟨x, e1⟩ := hs.out.at (i := i) hjx
            obtain ⟨y, e2⟩ := hs.out.at (i := J) hJx
            have f1 := hs.out.frozen i
            have f2 := hs.out.frozen J
            have hs3 := Lib.hid (hs.out.swap (i := i) (j := J) hjx hJx e1 e2).drew
            obtain ⟨u, e3⟩ := cell?_setCell_some (p := ⟨g, i, none⟩) (x := .int .u64 y) e2
            go_region
            all_goals
              go_wp2_with fail
              go_meet
              exact hs3
          replace hs := hcut
          clear hcut
          go_upto_if 61 with fail
          go_cut [] (fun wx => Hid (St g cap xs w0 wx))
          case first =>
            obtain ⟨I0, hI0⟩ : ∃ I0 : Nat, i = I0 + 1 := ⟨i - 1, by omega⟩
            have hI0i : (i : Int) - 1 = (I0 : Int) := by omega
            have hI0b : I0 < b := by omega
            replace hI0 := Lib.hid hI0
            by_cases h2 : 2 ≤ (i : Int) - (a : Int)
            · go_wp2_with fail
              go_loopw [9] (fun q wr => ∃ j : Nat, q = .int .i64 j ∧ 0 ≤ j ∧ j < b ∧ Hid (St g cap xs w0 wr)) (fun q _ => (intOf q).toNat)
              case atStart => exact ⟨I0, by first | rfl | go_num, by omega, hI0b, hs⟩
              case round =>
                obtain ⟨j, rfl, j1, j2, hs⟩ := hrel
                by_cases hj : 1 ≤ j
                · have hjd : decide (1 ≤ j) = true := decide_eq_true hj
                  obtain ⟨J, hJ⟩ : ∃ J : Nat, j = J + 1 := ⟨j - 1, by omega⟩
                  have hJw : IntKind.i64.wrap ((j : Int) - 1) = (J : Int) := by rw [IntKind.wrap_i64]; omega
                  have hJi : (j : Int) - 1 = (J : Int) := by omega
                  have hJx : J < xs.length := by omega
                  have hjx : j < xs.length := by omega
                  have k1 : (0 : Int) ≤ (j : Int) := by omega
                  have k2 : (j : Int) < (xs.length : Nat) := by omega
                  have k3 : (0 : Int) ≤ (J : Int) := by omega
                  have k4 : (J : Int) < (xs.length : Nat) := by omega
                  replace hJ := Lib.hid hJ
                  obtain ⟨x, e1⟩ := hs.out.at (i := j) hjx
                  obtain ⟨y, e2⟩ := hs.out.at (i := J) hJx
                  have hq := lessq x y
                  obtain ⟨v, hv⟩ : ∃ v, decide (x < y) = v := ⟨_, rfl⟩
                  rw [hv] at hq
                  replace hv := Lib.hid hv
                  rcases (by cases v <;> simp : v = true ∨ v = false) with rfl | rfl
                  · go_wp2_with fail
                    go_quiet ((go_at_call 123; exact Calls.quiet_of_same (hq.out _)))
                    have hs2 := hs.out.drewN nq
                    have e1' : (wr.drewN nq).cell? ⟨g, j, none⟩ = some (.int .u64 x) := e1
                    have e2' : (wr.drewN nq).cell? ⟨g, J, none⟩ = some (.int .u64 y) := e2
                    clear hs e1 e2
                    generalize wr.drewN nq = wq at *
                    have f1 := hs2.frozen j
                    have f2 := hs2.frozen J
                    have hs3 := Lib.hid (hs2.swap (i := j) (j := J) hjx hJx e1' e2').drew
                    obtain ⟨u, e3⟩ := cell?_setCell_some (p := ⟨g, j, none⟩) (x := .int .u64 y) e2'
                    clear hs2
                    go_wp2_with fail
                    go_region
                    all_goals
                      go_wp2_with fail
                      go_roundw
                      case rel => exact ⟨J, by first | rfl | go_num, by have := hJ.out; omega, by have := hJ.out; omega, hs3⟩
                      case measure => have := hJ.out; simp [intOf] <;> omega
                  · go_wp2_with fail
                    go_quiet ((go_at_call 123; exact Calls.quiet_of_same (hq.out _)))
                    have hs2 := Lib.hid (hs.out.drewN nq)
                    go_wp2_with fail
                    go_meet
                    exact hs2
                · have hjd : decide (1 ≤ j) = false := decide_eq_false hj
                  go_wp2_with fail
                  go_meet
                  exact hs
            · go_wp2_with fail
              go_meet
              exact hs
          replace hs := hcut
          clear hcut
          by_cases h2 : 2 ≤ (b : Int) - (i : Int)
          · go_wp2_with fail
            go_loopw [10] (fun q wr => ∃ j : Nat, q = .int .i64 j ∧ 1 ≤ j ∧ j ≤ b ∧ Hid (St g cap xs w0 wr)) (fun q _ => b - (intOf q).toNat)
            case atStart => exact ⟨i + 1, by first | rfl | go_num, by omega, by omega, hs⟩
            case round =>
              obtain ⟨j, rfl, j1, j2, hs⟩ := hrel
              by_cases hj : j < b
              · have hjd : decide (j < b) = true := decide_eq_true hj
                obtain ⟨J, hJ⟩ : ∃ J : Nat, j = J + 1 := ⟨j - 1, by omega⟩
                have hJw : IntKind.i64.wrap ((j : Int) - 1) = (J : Int) := by rw [IntKind.wrap_i64]; omega
                have hJi : (j : Int) - 1 = (J : Int) := by omega
                have hJx : J < xs.length := by omega
                have hjx : j < xs.length := by omega
                have k1 : (0 : Int) ≤ (j : Int) := by omega
                have k2 : (j : Int) < (xs.length : Nat) := by omega
                have k3 : (0 : Int) ≤ (J : Int) := by omega
                have k4 : (J : Int) < (xs.length : Nat) := by omega
                replace hJ := Lib.hid hJ
                obtain ⟨x, e1⟩ := hs.out.at (i := j) hjx
                obtain ⟨y, e2⟩ := hs.out.at (i := J) hJx
                have hq := lessq x y
                obtain ⟨v, hv⟩ : ∃ v, decide (x < y) = v := ⟨_, rfl⟩
                rw [hv] at hq
                replace hv := Lib.hid hv
                rcases (by cases v <;> simp : v = true ∨ v = false) with rfl | rfl
                · go_wp2_with fail
                  go_quiet ((go_at_call 123; exact Calls.quiet_of_same (hq.out _)))
                  have hs2 := hs.out.drewN nq
                  have e1' : (wr.drewN nq).cell? ⟨g, j, none⟩ = some (.int .u64 x) := e1
                  have e2' : (wr.drewN nq).cell? ⟨g, J, none⟩ = some (.int .u64 y) := e2
                  clear hs e1 e2
                  generalize wr.drewN nq = wq at *
                  have f1 := hs2.frozen j
                  have f2 := hs2.frozen J
                  have hs3 := Lib.hid (hs2.swap (i := j) (j := J) hjx hJx e1' e2').drew
                  obtain ⟨u, e3⟩ := cell?_setCell_some (p := ⟨g, j, none⟩) (x := .int .u64 y) e2'
                  clear hs2
                  go_wp2_with fail
                  go_region
                  all_goals
                    go_wp2_with fail
                    go_roundw
                    case rel => exact ⟨j + 1, by first | rfl | go_num, by have := hJ.out; omega, by have := hJ.out; omega, hs3⟩
                    case measure => have := hJ.out; simp [intOf] <;> omega
                · go_wp2_with fail
                  go_quiet ((go_at_call 123; exact Calls.quiet_of_same (hq.out _)))
                  have hs2 := Lib.hid (hs.out.drewN nq)
                  go_wp2_with fail
                  go_roundg (5 - (jj + 1))
                  case measure => have := hk.out; omega
                  case rel => exact ⟨i, jj + 1, by first | rfl | go_num, by first | rfl | go_num, i1, i2, by omega, rfl, hs2⟩
              · have hjd : decide (j < b) = false := decide_eq_false hj
                go_wp2_with fail
                go_roundg (5 - (jj + 1))
                case measure => have := hk.out; omega
                case rel => exact ⟨i, jj + 1, by first | rfl | go_num, by first | rfl | go_num, i1, i2, by omega, rfl, hs⟩
          · go_wp2_with fail
            go_roundg (5 - (jj + 1))
            case measure => have := hk.out; omega
            case rel => exact ⟨i, jj + 1, by first | rfl | go_num, by first | rfl | go_num, i1, i2, by omega, rfl, hs⟩
    · have hjd : decide (jj < 5) = false := decide_eq_false hjj
      have hji : ¬ (jj : Int) < 5 := by omega
      go_wp2_with fail
      go_ret
      exact ⟨⟨_, rfl⟩, hs.out⟩

end
section
/- A list of sets sorted in place: pdqsort, slices.Sort. -/
open Go.ChangeShapes Go.WideShapes Go.ChangeAt Go.RowKit Go.Proofs

/-- what a sort leaves. -/
def DoneSt (g cap : Nat) (xs : List Int) (w0 : World) (e : Ending) (w' : World) : Prop := (∃ v, e = .returned v) ∧ St g cap xs w0 w'
set_option maxHeartbeats 16000000 in
set_option maxRecDepth 100000 in
theorem pdq_step {g cap : Nat} (n : Nat) (xs : List Int) (hl : xs.length ≤ 256)
    (ih : ∀ (w0 w : World) (a b : Nat) (lim : Int), St g cap xs w0 w → a ≤ b → b ≤ xs.length → b - a < n → 0 ≤ lim → lim ≤ 64 →
      Calls Tryz.prog 110 #[.slice (some ⟨g, 0, none⟩) xs.length cap, .int .i64 (a : Nat), .int .i64 (b : Nat), .int .i64 lim] w (DoneSt g cap xs w0))
    (w0 w : World) (a b : Nat) (lim : Int) (h : St g cap xs w0 w) (hab : a ≤ b) (hb : b ≤ xs.length) (hn : b - a ≤ n) (l0 : 0 ≤ lim) (l1 : lim ≤ 64) :
    Calls Tryz.prog 110 #[.slice (some ⟨g, 0, none⟩) xs.length cap, .int .i64 (a : Nat), .int .i64 (b : Nat), .int .i64 lim] w (DoneSt g cap xs w0) := by
  have hs := Lib.hid h
  replace ih := Lib.hid ih
  clear h
  go_enter Tryz.func110, Tryz.ntmps110
  go_wp2_with fail
  go_loopg [1, 2, 3, 8, 9] (b - a) (fun k s1 s2 s3 s8 s9 wr => ∃ (a b : Nat) (lim : Int) (p q : Bool), s1 = .int .i64 a ∧ s2 = .int .i64 b ∧ s3 = .int .i64 lim ∧ s8 = .bool p ∧ s9 = .bool q ∧ a ≤ b ∧ b ≤ xs.length ∧ b - a ≤ n ∧ 0 ≤ lim ∧ lim ≤ 64 ∧ k = b - a ∧ Hid (St g cap xs w0 wr))
  case atStart => exact ⟨a, b, lim, true, true, rfl, rfl, rfl, rfl, rfl, hab, hb, hn, l0, l1, rfl, hs⟩
  case round =>
    clear hs hab hb hn l0 l1
    obtain ⟨a, b, lim, p, q, rfl, rfl, rfl, rfl, rfl, hab, hb, hn, l0, l1, hk, hs⟩ := hrel
    replace hk := Lib.hid hk
    obtain ⟨L, hL⟩ : ∃ L : Nat, b - a = L := ⟨_, rfl⟩
    have hLi : (b : Int) - (a : Int) = (L : Int) := by omega
    have hbL : b = a + L := by omega
    replace hL := Lib.hid hL
    replace hbL := Lib.hid hbL
    by_cases h12 : L ≤ 12
    · have h12i : (L : Int) ≤ 12 := by omega
      have h12d : decide (L ≤ 12) = true := decide_eq_true h12
      have hc := Lib.hid (insertion_st hs.out a b (by omega) hb (by omega))
      go_wp2_with fail
      refine hc.out.mono ?_
      rintro e w2 ⟨⟨v, rfl⟩, hs2⟩
      replace hs2 := Lib.hid hs2
      go_wp2_with fail
      go_end0
      exact ⟨⟨_, rfl⟩, hs2.out⟩
    · have h12i : ¬ (L : Int) ≤ 12 := by omega
      have h12d : decide (L ≤ 12) = false := decide_eq_false h12
      have hab13 : a + 13 ≤ b := by have := hbL.out; omega
      by_cases hlim : lim = 0
      · subst hlim
        have hc := Lib.hid (heap_st hs.out a b (by omega) hb (by omega))
        go_wp2_with fail
        refine hc.out.mono ?_
        rintro e w2 ⟨⟨v, rfl⟩, hs2⟩
        replace hs2 := Lib.hid hs2
        go_wp2_with fail
        go_end0
        exact ⟨⟨_, rfl⟩, hs2.out⟩
      · have hlimd : (lim == 0) = false := by simp [hlim]
        go_upto_if 35 with fail
        go_cut [3] (fun s3 wx => ∃ lim : Int, s3 = .int .i64 lim ∧ 0 ≤ lim ∧ lim ≤ 64 ∧ Hid (St g cap xs w0 wx))
        case first =>
          rcases (by cases p <;> simp : p = true ∨ p = false) with rfl | rfl
          · go_wp2_with fail
            go_meet
            exact ⟨lim, rfl, l0, l1, hs⟩
          · have hc := Lib.hid (break_st hs.out a b hl hb hab13)
            go_wp2_with fail
            refine hc.out.mono ?_
            rintro e w2 ⟨⟨v, rfl⟩, hs2⟩
            replace hs2 := Lib.hid hs2
            go_wp2_with fail
            go_meet
            exact ⟨lim - 1, by first | rfl | go_num, by omega, by omega, hs2⟩
        clear hlim hlimd l0 l1 hs
        obtain ⟨lim, rfl, l0, l1, hs⟩ := hcut
        have hc := Lib.hid (pivot_st hs.out a b (by omega) hb hab13)
        go_wp2_with fail
        refine hc.out.mono ?_
        rintro e w2 ⟨m, hh, rfl, m1, m2, hh0, hh1, hs2⟩
        clear hs hc
        have hs := Lib.hid hs2
        clear hs2
        go_upto_if 50 with fail
        go_cut [11, 12] (fun s11 s12 wx => ∃ (m : Nat) (hh : Int), s11 = .int .i64 m ∧ s12 = .int .i64 hh ∧ a ≤ m ∧ m < b ∧ Hid (St g cap xs w0 wx))
        case first =>
          by_cases h2 : hh = 2
          · subst h2
            have hc := Lib.hid (reverse_st hs.out a b (by omega) hb (by omega))
            go_wp2_with fail
            refine hc.out.mono ?_
            rintro e w2 ⟨⟨v, rfl⟩, hs2⟩
            replace hs2 := Lib.hid hs2
            go_wp2_with fail
            go_meet
            exact ⟨b - 1 - (m - a), 1, by first | rfl | go_num | (congr 1; omega), rfl, by omega, by omega, hs2⟩
          · have h2d : (hh == 2) = false := by simp [h2]
            go_wp2_with fail
            go_meet
            exact ⟨m, hh, rfl, rfl, m1, m2, hs⟩
        clear m1 m2 hh0 hh1 hs
        obtain ⟨m, hh, rfl, rfl, m1, m2, hs⟩ := hcut
        go_upto_region 15 with fail
        go_cut [68] (fun s68 wx => ∃ v : Bool, s68 = .bool v ∧ Hid (St g cap xs w0 wx))
        case first =>
          rcases (by cases p <;> simp : p = true ∨ p = false) with rfl | rfl
          · rcases (by cases q <;> simp : q = true ∨ q = false) with rfl | rfl
            · go_wp2_with fail
              go_meet
              exact ⟨_, rfl, hs⟩
            · go_wp2_with fail
              go_meet
              exact ⟨_, rfl, hs⟩
          · go_wp2_with fail
            go_meet
            exact ⟨_, rfl, hs⟩
        clear hs
        obtain ⟨v, rfl, hs⟩ := hcut
        go_upto_if 68 with fail
        go_cut [] (fun wx => Hid (St g cap xs w0 wx))
        case first =>
          rcases (by cases v <;> simp : v = true ∨ v = false) with rfl | rfl
          · have hc := Lib.hid (partial_st hs.out a b (by omega) hb (by omega))
            go_wp2_with fail
            refine hc.out.mono ?_
            rintro e w2 ⟨⟨v, rfl⟩, hs2⟩
            replace hs2 := Lib.hid hs2
            rcases (by cases v <;> simp : v = true ∨ v = false) with rfl | rfl
            · go_wp2_with fail
              go_end0
              exact ⟨⟨_, rfl⟩, hs2.out⟩
            · go_wp2_with fail
              go_meet
              exact hs2
          · go_wp2_with fail
            go_meet
            exact hs
        clear hs
        have hs := hcut
        clear hcut
        go_upto_region 17 with fail
        go_cut [87] (fun s87 wx => ∃ v : Bool, s87 = .bool v ∧ Hid (St g cap xs w0 wx))
        case first =>
          by_cases ha0 : 0 < a
          · have had : decide (0 < a) = true := decide_eq_true ha0
            obtain ⟨A, hA⟩ : ∃ A : Nat, a = A + 1 := ⟨a - 1, by omega⟩
            have hAw : IntKind.i64.wrap ((a : Int) - 1) = (A : Int) := by rw [IntKind.wrap_i64]; omega
            have hAx : A < xs.length := by omega
            have hmx : m < xs.length := by omega
            have k1 : (0 : Int) ≤ (A : Int) := by omega
            have k2 : (A : Int) < (xs.length : Nat) := by omega
            have k3 : (0 : Int) ≤ (m : Int) := by omega
            have k4 : (m : Int) < (xs.length : Nat) := by omega
            obtain ⟨x, e1⟩ := hs.out.at hAx
            obtain ⟨y, e2⟩ := hs.out.at hmx
            have hq := lessq x y
            obtain ⟨c, hc⟩ : ∃ c, decide (x < y) = c := ⟨_, rfl⟩
            rw [hc] at hq
            replace hc := Lib.hid hc
            replace hA := Lib.hid hA
            go_quiet ((go_at_call 123; exact Calls.quiet_of_same (hq.out _)))
            have hs2 := Lib.hid (hs.out.drewN nq)
            go_wp2_with fail
            go_meet
            exact ⟨_, rfl, hs2⟩
          · have had : decide (0 < a) = false := decide_eq_false ha0
            have ha0' : a = 0 := by omega
            replace ha0' := Lib.hid ha0'
            go_quiet (fail)
            have hs2 := Lib.hid (hs.out.drewN nq)
            go_wp2_with fail
            go_meet
            exact ⟨_, rfl, hs2⟩
        clear hs v
        obtain ⟨v, rfl, hs⟩ := hcut
        rcases (by cases v <;> simp : v = true ∨ v = false) with rfl | rfl
        · have hc := Lib.hid (partition_eq_st hs.out a b m (by omega) hb (by omega) m2)
          go_wp2_with fail
          refine hc.out.mono ?_
          rintro e w2 ⟨t, rfl, t1, t2, hs2⟩
          replace hs2 := Lib.hid hs2
          go_wp2_with fail
          go_roundg (b - t)
          case measure => have := hk.out; omega
          case rel => exact ⟨t, b, lim, _, _, rfl, rfl, rfl, rfl, rfl, t2, hb, by omega, l0, l1, rfl, hs2⟩
        · have hc := Lib.hid (partition_st hs.out a b m (by omega) hb (by omega) m2)
          go_wp2_with fail
          refine hc.out.mono ?_
          rintro e w2 ⟨t, f, rfl, t1, t2, hs2⟩
          clear hs hc
          have hL8 : (0 : Int) ≤ (L : Int) := by omega
          by_cases hlr : (t : Int) - (a : Int) < (b : Int) - (t : Int)
          · have hrec := Lib.hid (ih.out w0 w2 a t lim hs2 t1 (by omega) (by omega) l0 l1)
            replace hs2 := Lib.hid hs2
            go_wp2_with fail
            refine hrec.out.mono ?_
            rintro e w3 ⟨⟨v, rfl⟩, hs3⟩
            replace hs3 := Lib.hid hs3
            go_wp2_with fail
            go_roundg (b - (t + 1))
            case measure => have := hk.out; omega
            case rel => exact ⟨t + 1, b, lim, _, _, by first | rfl | go_num, rfl, rfl, rfl, rfl, by omega, hb, by omega, l0, l1, rfl, hs3⟩
          · obtain ⟨T, hT⟩ : ∃ T : Nat, t + 1 = T := ⟨_, rfl⟩
            have hTi : (t : Int) + 1 = (T : Int) := by omega
            have hrec := Lib.hid (ih.out w0 w2 T b lim hs2 (by omega) hb (by omega) l0 l1)
            replace hs2 := Lib.hid hs2
            replace hT := Lib.hid hT
            go_wp2_with fail
            refine hrec.out.mono ?_
            rintro e w3 ⟨⟨v, rfl⟩, hs3⟩
            replace hs3 := Lib.hid hs3
            go_wp2_with fail
            go_roundg (t - a)
            case measure => have := hk.out; omega
            case rel => exact ⟨a, t, lim, _, _, rfl, rfl, rfl, rfl, rfl, t1, by omega, by omega, l0, l1, rfl, hs3⟩
theorem pdq_st {g cap : Nat} (n : Nat) (xs : List Int) (hl : xs.length ≤ 256) : ∀ (w0 w : World) (a b : Nat) (lim : Int), St g cap xs w0 w → a ≤ b → b ≤ xs.length → b - a ≤ n → 0 ≤ lim → lim ≤ 64 →
      Calls Tryz.prog 110 #[.slice (some ⟨g, 0, none⟩) xs.length cap, .int .i64 (a : Nat), .int .i64 (b : Nat), .int .i64 lim] w (DoneSt g cap xs w0) := by
  induction n with
  | zero => exact fun w0 w a b lim => pdq_step 0 xs hl (fun _ _ _ _ _ _ _ _ h => absurd h (Nat.not_lt_zero _)) w0 w a b lim
  | succ n ih => exact fun w0 w a b lim => pdq_step (n + 1) xs hl (fun w0 w a b lim h1 h2 h3 h4 => ih w0 w a b lim h1 h2 h3 (by omega)) w0 w a b lim

end
section
/- A list of sets sorted in place: slices.Sort, on lists that the call owns. -/
open Go.ChangeShapes Go.WideShapes Go.ChangeAt Go.RowKit Go.Proofs

set_option maxRecDepth 1000000 in
theorem len64_nil (w : World) : Calls Tryz.prog 127 #[.int .u64 0] w fun e w' => e = .returned (.int .i64 0) ∧ w = w' := by
  go_enter Tryz.func127, Tryz.ntmps127
  go_wp2
  go_ret
  exact ⟨ret_int (by decide +kernel), rfl⟩
theorem len_nil (w : World) : Calls Tryz.prog 111 #[.int .u64 0] w fun e w' => e = .returned (.int .i64 0) ∧ w = w' := by
  have h := Lib.hid len64_nil
  go_enter Tryz.func111, Tryz.ntmps111
  go_wp2_with (go_at_call 127; refine (h.out _).mono ?_; rintro e w' ⟨rfl, rfl⟩)
  go_ret
  exact ⟨rfl, rfl⟩
theorem insertion_nil (a : Option Addr) (cap : Nat) (w : World) : Calls Tryz.prog 117 #[.slice a 0 cap, .int .i64 0, .int .i64 0] w fun e w' => (∃ v, e = .returned v) ∧ w = w' := by
  go_enter Tryz.func117, Tryz.ntmps117
  go_wp2_with fail
  go_loopw [6] (fun q wr => q = .int .i64 1 ∧ w = wr) (fun _ _ => 0)
  case atStart => exact ⟨rfl, rfl⟩
  case round =>
    obtain ⟨rfl, rfl⟩ := hrel
    go_wp2_with fail
    go_end0
    exact ⟨⟨_, rfl⟩, rfl⟩
set_option maxRecDepth 100000 in
theorem pdq_nil (a : Option Addr) (cap : Nat) (w : World) : Calls Tryz.prog 110 #[.slice a 0 cap, .int .i64 0, .int .i64 0, .int .i64 0] w fun e w' => (∃ v, e = .returned v) ∧ w = w' := by
  have hc := Lib.hid (insertion_nil a cap)
  go_enter Tryz.func110, Tryz.ntmps110
  go_wp2_with fail
  go_loopg [1, 2, 3, 8, 9] 0 (fun k s1 s2 s3 s8 s9 wr => s1 = .int .i64 0 ∧ s2 = .int .i64 0 ∧ s3 = .int .i64 0 ∧ s8 = .bool true ∧ s9 = .bool true ∧ k = 0 ∧ w = wr)
  case atStart => exact ⟨rfl, rfl, rfl, rfl, rfl, rfl, rfl⟩
  case round =>
    obtain ⟨rfl, rfl, rfl, rfl, rfl, hk, rfl⟩ := hrel
    replace hk := Lib.hid hk
    go_wp2_with fail
    refine (hc.out _).mono ?_
    rintro e w2 ⟨⟨v, rfl⟩, rfl⟩
    go_wp2_with fail
    refine bodyPost_ret (results_none rfl _ _ _) rfl ?_
    exact ⟨⟨_, rfl⟩, rfl⟩
set_option maxRecDepth 100000 in
theorem sort_nil (a : Option Addr) (cap : Nat) (w : World) : Calls Tryz.prog 103 #[.slice a 0 cap] w fun e w' => (∃ v, e = .returned v) ∧ w = w' := by
  have hc := Lib.hid (pdq_nil a cap)
  have hl := Lib.hid len_nil
  go_enter Tryz.func103, Tryz.ntmps103
  go_wp2_with fail
  refine (hl.out _).mono ?_
  rintro e w2 ⟨rfl, rfl⟩
  go_wp2_with fail
  refine (hc.out _).mono ?_
  rintro e w2 ⟨⟨v, rfl⟩, rfl⟩
  go_wp2_with fail
  go_end0
  exact ⟨⟨_, rfl⟩, rfl⟩
set_option maxRecDepth 100000 in
theorem sort_st (g cap : Nat) (xs : List Int) (hl : xs.length ≤ 256) (h0 : 1 ≤ xs.length) (w : World) (h : Lst w g cap xs) : Calls Tryz.prog 103 #[.slice (some ⟨g, 0, none⟩) xs.length cap] w (DoneSt g cap xs w) := by
  have hc := Lib.hid (fun w' (lim : Int) (hs : St g cap xs w w') h1 h2 => pdq_st xs.length xs hl w w' 0 xs.length lim hs (Nat.zero_le _) (Nat.le_refl _) (by omega) h1 h2)
  have hn := Lib.hid (fun W => len_ok (xs.length : Nat) (by omega) (by omega) W)
  have hw : IntKind.u64.wrap ((xs.length : Nat) : Int) = (xs.length : Nat) := by rw [IntKind.wrap_u64]; omega
  have hs := Lib.hid (St.start h)
  clear h
  go_enter Tryz.func103, Tryz.ntmps103
  go_wp2_with fail
  refine (hn.out _).mono ?_
  rintro e w2 ⟨r, rfl, r1, r2, rfl⟩
  go_wp2_with fail
  refine (hc.out _ _ hs.out (by omega) (by omega)).mono ?_
  rintro e w2 ⟨⟨v, rfl⟩, hs2⟩
  replace hs2 := Lib.hid hs2
  go_wp2_with fail
  go_end0
  exact ⟨⟨_, rfl⟩, hs2.out⟩
/-- a list sorted in place: the same sets in some order, nothing below turned. -/
def SortPost (B : Nat) (v : Value) (xs : List Int) (w : World) (e : Ending) (w' : World) : Prop := (∃ u, e = .returned u) ∧ (∃ ys, ys.Perm xs ∧ SetL w' B v ys) ∧ w.grownBy w' v.ownBlock
theorem sort_set (B : Nat) (v : Value) (xs : List Int) (hl : xs.length ≤ 256) (w : World) (h : SetL w B v xs) : Calls Tryz.prog 103 #[v] w (SortPost B v xs w) := by
  by_cases h0 : xs = []
  · subst h0
    obtain ⟨a, cap, rfl⟩ := h.form
    refine (sort_nil a cap w).mono ?_
    rintro e w' ⟨he, rfl⟩
    exact ⟨he, ⟨[], List.Perm.refl _, h⟩, grown_refl _ _⟩
  · rcases h.out with ⟨_, rfl⟩ | ⟨g, cap, cur, rfl, hB, hg, hn, hm, hs, hc⟩
    · exact absurd rfl h0
    · have h1 : 1 ≤ xs.length := List.length_pos_iff.2 h0
      have hL : Lst w g cap xs := ⟨cur, hg, hs, hn, fun j hj => by rw [← cell_of_row w g j cur 48 (0, 0) hg]; exact hc j hj⟩
      refine (sort_st g cap xs hl h1 w hL).mono ?_
      rintro e w' ⟨he, ys, hp, hL2, hgr⟩
      obtain ⟨cur2, hg2, hs2, hn2, hc2⟩ := hL2
      refine ⟨he, ⟨ys, hp, ?_⟩, hgr⟩
      rw [← hp.length_eq]
      exact SetL.mk hB hg2 hn2 hm hs2 (fun j hj => by rw [cell_of_row w' g j cur2 48 (0, 0) hg2]; exact hc2 j hj)

end
end Go.Proofs.YtpjapoaagbdlfaaGreatDoor
