/- A list of sets sorted in place, told of no more than that the same sets stay: swaps, insertion sort, heaps, reversed ranges. -/
import Derived.Test.YtgfmfecalhmplaaDoorPut
import Derived.BigQuiet
import Derived.BigRegion
namespace Go.Proofs.YtgfmfecalhmplaaDoor
open Go.ChangeShapes Go.WideShapes Go.ChangeAt Go.RowKit Go.Proofs

/-- block g holds the sets xs ahead. -/
def Lst (w : World) (g cap : Nat) (xs : List Int) : Prop := ∃ cur : Array Value, w.heap[g]? = some (.cells cur 64 (0, 0)) ∧ cur.size = cap ∧ xs.length ≤ cap ∧ ∀ j, j < xs.length → cur[j]? = some (.int .u64 (xs.getD j 0))
theorem Lst.cell {w : World} {g cap : Nat} {xs : List Int} (h : Lst w g cap xs) {i : Nat} (hi : i < xs.length) : w.cell? ⟨g, i, none⟩ = some (.int .u64 (xs.getD i 0)) := by
  obtain ⟨cur, hg, _, _, hc⟩ := h
  rw [cell_of_row w g i cur 64 (0, 0) hg]; exact hc i hi
theorem Lst.frozen {w : World} {g cap : Nat} {xs : List Int} (h : Lst w g cap xs) (i : Nat) : w.frozen? ⟨g, i, none⟩ = false := by
  obtain ⟨cur, hg, _⟩ := h; exact frozen_of hg i
theorem Lst.lt {w : World} {g cap : Nat} {xs : List Int} (h : Lst w g cap xs) : g < w.heap.size := by
  obtain ⟨cur, hg, _⟩ := h; exact (Array.getElem?_eq_some_iff.1 hg).1
def swpL (xs : List Int) (i j : Nat) : List Int := (xs.set i (xs.getD j 0)).set j (xs.getD i 0)
theorem swpL_perm {xs : List Int} {i j : Nat} (hi : i < xs.length) (hj : j < xs.length) : (swpL xs i j).Perm xs := by
  unfold swpL
  rw [List.getD_eq_getElem?_getD, List.getD_eq_getElem?_getD, List.getElem?_eq_getElem hi, List.getElem?_eq_getElem hj]
  exact List.set_set_perm hi hj
theorem Lst.swap {w : World} {g cap : Nat} {xs : List Int} (h : Lst w g cap xs) {i j : Nat} (hi : i < xs.length) (hj : j < xs.length) :
    Lst ((w.setCell ⟨g, i, none⟩ (.int .u64 (xs.getD j 0))).setCell ⟨g, j, none⟩ (.int .u64 (xs.getD i 0))) g cap (swpL xs i j) := by
  obtain ⟨cur, hg, hs, hl, hc⟩ := h
  unfold swpL
  obtain ⟨X, hX⟩ : ∃ X, xs.getD j 0 = X := ⟨_, rfl⟩
  obtain ⟨Y, hY⟩ : ∃ Y, xs.getD i 0 = Y := ⟨_, rfl⟩
  rw [hX, hY]
  have h1 := heap_setCell_same w g i cur 64 (.int .u64 X) hg
  have h2 := heap_setCell_same _ g j _ 64 (.int .u64 Y) h1
  refine ⟨_, h2, by simp [hs], by simp; exact hl, fun k hk => ?_⟩
  have hk' : k < xs.length := by simpa using hk
  have hck := hc k hk'
  rw [Array.getElem?_setIfInBounds, Array.getElem?_setIfInBounds, List.getD_eq_getElem?_getD, List.getElem?_set, List.getElem?_set, List.length_set]
  by_cases e1 : j = k
  · subst e1
    rw [if_pos rfl, if_pos rfl, if_pos (by simp; omega), if_pos hj]; rfl
  · rw [if_neg e1, if_neg e1]
    by_cases e2 : i = k
    · subst e2
      rw [if_pos rfl, if_pos rfl, if_pos (by omega), if_pos hi]; rfl
    · rw [if_neg e2, if_neg e2, hck]; rw [List.getD_eq_getElem?_getD]

/-- of the world w0 nothing has turned but block g, which holds the sets xs in some order. -/
def St (g cap : Nat) (xs : List Int) (w0 w : World) : Prop := ∃ ys, ys.Perm xs ∧ Lst w g cap ys ∧ w0.grownBy w (some g)
theorem St.start {g cap : Nat} {xs : List Int} {w : World} (h : Lst w g cap xs) : St g cap xs w w := ⟨xs, List.Perm.refl _, h, grown_refl w _⟩
theorem St.drewN {g cap : Nat} {xs : List Int} {w0 w : World} (h : St g cap xs w0 w) (n : Nat) : St g cap xs w0 (w.drewN n) := by
  obtain ⟨ys, hp, hl, hg⟩ := h
  exact ⟨ys, hp, hl, hg.os, hg.tape, hg.output, hg.size, hg.block⟩
theorem St.drew {g cap : Nat} {xs : List Int} {w0 w : World} (h : St g cap xs w0 w) : St g cap xs w0 w.drew := h.drewN 1
theorem St.at {g cap : Nat} {xs : List Int} {w0 w : World} (h : St g cap xs w0 w) {i : Nat} (hi : i < xs.length) : ∃ x, w.cell? ⟨g, i, none⟩ = some (.int .u64 x) := by
  obtain ⟨ys, hp, hl, _⟩ := h
  exact ⟨_, hl.cell (by rw [hp.length_eq]; exact hi)⟩
theorem St.frozen {g cap : Nat} {xs : List Int} {w0 w : World} (h : St g cap xs w0 w) (i : Nat) : w.frozen? ⟨g, i, none⟩ = false := by
  obtain ⟨ys, hp, hl, _⟩ := h; exact hl.frozen i
theorem St.lt {g cap : Nat} {xs : List Int} {w0 w : World} (h : St g cap xs w0 w) : g < w.heap.size := by
  obtain ⟨ys, hp, hl, _⟩ := h; exact hl.lt
theorem St.size {g cap : Nat} {xs : List Int} {w0 w : World} (h : St g cap xs w0 w) : w0.heap.size ≤ w.heap.size := by
  obtain ⟨ys, hp, hl, hg⟩ := h; exact hg.size
theorem St.swap {g cap : Nat} {xs : List Int} {w0 w : World} (h : St g cap xs w0 w) {i j : Nat} (hi : i < xs.length) (hj : j < xs.length) {x y : Int} (hx : w.cell? ⟨g, i, none⟩ = some (.int .u64 x)) (hy : w.cell? ⟨g, j, none⟩ = some (.int .u64 y)) :
    St g cap xs w0 ((w.setCell ⟨g, i, none⟩ (.int .u64 y)).setCell ⟨g, j, none⟩ (.int .u64 x)) := by
  obtain ⟨ys, hp, hl, hg⟩ := h
  have hi' : i < ys.length := by rw [hp.length_eq]; exact hi
  have hj' : j < ys.length := by rw [hp.length_eq]; exact hj
  have ex := (hl.cell hi').symm.trans hx
  have ey := (hl.cell hj').symm.trans hy
  injection ex with ex; injection ex with _ ex
  injection ey with ey; injection ey with _ ey
  refine ⟨swpL ys i j, (swpL_perm hi' hj').trans hp, by rw [← ex, ← ey]; exact hl.swap hi' hj', ?_⟩
  have g1 := grown_setCells (r := some g) (g := g) (.inl rfl) [.int .u64 y] i w hg
  exact grown_setCells (r := some g) (g := g) (.inl rfl) [.int .u64 x] j _ g1
/-- a callee's state on top of the state so far. -/
theorem St.then {g cap : Nat} {xs : List Int} {w0 w w' : World} (h : St g cap xs w0 w) (k : ∀ ys, Lst w g cap ys → ys.length = xs.length → St g cap ys w w') : St g cap xs w0 w' := by
  obtain ⟨ys, hp, hl, hg⟩ := h
  obtain ⟨zs, hq, hl2, hg2⟩ := k ys hl hp.length_eq
  exact ⟨zs, hq.trans hp, hl2, ⟨hg2.os.trans hg.os, hg2.tape.trans hg.tape, hg2.output.trans hg.output, Nat.le_trans hg.size hg2.size, fun j hj hne => (hg2.block j (Nat.lt_of_lt_of_le hj hg.size) hne).trans (hg.block j hj hne)⟩⟩
theorem St.here {g cap : Nat} {xs : List Int} {w0 w : World} (h : St g cap xs w0 w) : ∃ ys, Lst w g cap ys ∧ ys.length = xs.length ∧ ∀ w', St g cap ys w w' → St g cap xs w0 w' := by
  obtain ⟨ys, hp, hl, hg⟩ := h
  refine ⟨ys, hl, hp.length_eq, fun w' ⟨zs, hq, hl2, hg2⟩ => ?_⟩
  exact ⟨zs, hq.trans hp, hl2, ⟨hg2.os.trans hg.os, hg2.tape.trans hg.tape, hg2.output.trans hg.output, Nat.le_trans hg.size hg2.size, fun j hj hne => (hg2.block j (Nat.lt_of_lt_of_le hj hg.size) hne).trans (hg.block j hj hne)⟩⟩

theorem less_vals (x y : Int) (w : World) : Calls Tryd.prog 116 #[.int .u64 x, .int .u64 y] w fun e w' => e = .returned (.bool (decide (x < y))) ∧ w' = w := by
  by_cases h : x < y
  · have hf := Lib.hid (show true = decide (x < y) from (decide_eq_true h).symm)
    go_enter Tryd.func116, Tryd.ntmps116
    go_wp2
    go_ret
    exact ⟨ret_bool (by first | exact hf.out | rfl | simp [h]), rfl⟩
  · have hf := Lib.hid (show false = decide (x < y) from (decide_eq_false h).symm)
    go_enter Tryd.func116, Tryd.ntmps116
    go_wp2
    go_ret
    exact ⟨ret_bool (by first | exact hf.out | rfl | simp [h]), rfl⟩
/-- what a function that sorts in place leaves. -/
def SPost (g cap : Nat) (xs : List Int) (w : World) (e : Ending) (w' : World) : Prop := (∃ v, e = .returned v) ∧ St g cap xs w w'
theorem lessq (x y : Int) : Hid (∀ w, Calls Tryd.prog 116 #[.int .u64 x, .int .u64 y] w fun e w' => e = .returned (.bool (decide (x < y))) ∧ w' = w) := Lib.hid (fun w => less_vals x y w)
theorem pred_i {k : Nat} (h : 1 ≤ k) (h2 : k ≤ 1000000) : IntKind.i64.wrap ((k : Int) - 1) = ((k - 1 : Nat) : Int) := by rw [IntKind.wrap_i64]; omega

set_option maxHeartbeats 1000000 in
theorem insertion (g cap : Nat) (xs : List Int) (a b : Nat) (w : World) (h : Lst w g cap xs) (hl : xs.length ≤ 1000) (hb : b ≤ xs.length) (ha : a ≤ 1000) :
    Calls Tryd.prog 110 #[.slice (some ⟨g, 0, none⟩) xs.length cap, .int .i64 (a : Nat), .int .i64 (b : Nat)] w (SPost g cap xs w) := by
  have hs0 := Lib.hid (St.start h)
  clear h
  go_enter Tryd.func110, Tryd.ntmps110
  go_wp2_with fail
  go_loopw [6] (fun q wr => ∃ k : Nat, a + 1 ≤ k ∧ k ≤ 1001 ∧ q = .int .i64 k ∧ Hid (St g cap xs w wr)) (fun q _ => b - (intOf q).toNat)
  case atStart => exact ⟨a + 1, by omega, by omega, by go_num, hs0⟩
  case round =>
    obtain ⟨k, hk1, hk2, rfl, hs⟩ := hrel
    by_cases hlt : k < b
    · have k2 : (k : Int) < (b : Nat) := by omega
      go_wp2_with fail
      go_loopw [7] (fun q wr => ∃ j : Nat, j ≤ k ∧ q = .int .i64 j ∧ Hid (St g cap xs w wr)) (fun q _ => (intOf q).toNat)
      case atStart => exact ⟨k, Nat.le_refl _, rfl, hs⟩
      case round =>
        obtain ⟨j, hj, rfl, hs⟩ := hrel
        by_cases hja : a < j
        · have hd : decide (a < j) = true := decide_eq_true hja
          obtain ⟨J, hJ⟩ : ∃ J, j = J + 1 := ⟨j - 1, by omega⟩
          have hw : IntKind.i64.wrap ((j : Int) - 1) = (J : Int) := by rw [IntKind.wrap_i64]; omega
          have j1 : (0 : Int) ≤ (j : Int) := by omega
          have j2 : (j : Int) < (xs.length : Nat) := by omega
          have j3 : (0 : Int) ≤ (J : Int) := by omega
          have j4 : (J : Int) < (xs.length : Nat) := by omega
          obtain ⟨x, e1⟩ := hs.out.at (i := j) (by omega)
          obtain ⟨y, e2⟩ := hs.out.at (i := J) (by omega)
          have hq := lessq x y
          replace hJ := Lib.hid hJ
          obtain ⟨c, hc⟩ : ∃ c, decide (x < y) = c := ⟨_, rfl⟩
          rw [hc] at hq
          replace hc := Lib.hid hc
          rcases (by cases c <;> simp : c = true ∨ c = false) with rfl | rfl
          · go_wp2_with fail
            go_quiet ((go_at_call 116; exact Calls.quiet_of_same (hq.out _)))
            have hs2 := hs.out.drewN nq
            have f1 := hs2.frozen j
            have f2 := hs2.frozen J
            have e1' : (wr.drewN nq).cell? ⟨g, j, none⟩ = some (.int .u64 x) := e1
            have e2' : (wr.drewN nq).cell? ⟨g, J, none⟩ = some (.int .u64 y) := e2
            generalize wr.drewN nq = wq at *
            have hs3 := Lib.hid (hs2.swap (by omega) (by have := hJ.out; omega) e1' e2')
            obtain ⟨u, e3⟩ := cell?_setCell_some (p := ⟨g, j, none⟩) (x := .int .u64 y) e2'
            clear e1 e2 hs hs2
            go_wp2_with fail
            go_region
            go_wp2_with fail
            go_roundw
            case rel => exact ⟨J, by have := hJ.out; omega, by go_num, Lib.hid hs3.out.drew⟩
            case measure => have := hJ.out; simp [intOf]; omega
          · go_wp2_with fail
            go_quiet ((go_at_call 116; exact Calls.quiet_of_same (hq.out _)))
            have hs2 := Lib.hid (hs.out.drewN nq)
            go_wp2_with fail
            go_roundw
            case rel => exact ⟨k + 1, by omega, by omega, by go_num, hs2⟩
            case measure => simp [intOf]; omega
        · have hd : decide (a < j) = false := decide_eq_false hja
          go_wp2_with fail
          go_quiet (fail)
          have hs2 := Lib.hid (hs.out.drewN nq)
          go_wp2_with fail
          go_roundw
          case rel => exact ⟨k + 1, by omega, by omega, by go_num, hs2⟩
          case measure => simp [intOf]; omega
    · have k2 : ¬ (k : Int) < (b : Nat) := by omega
      go_wp2_with fail
      go_end0
      exact ⟨⟨_, rfl⟩, hs.out⟩

set_option maxHeartbeats 2000000 in
theorem sift (g cap : Nat) (xs : List Int) (lo hi f : Nat) (w : World) (h : Lst w g cap xs) (hl : xs.length ≤ 1000) (hb : f + hi ≤ xs.length) (ha : lo ≤ 1000) :
    Calls Tryd.prog 121 #[.slice (some ⟨g, 0, none⟩) xs.length cap, .int .i64 (lo : Nat), .int .i64 (hi : Nat), .int .i64 (f : Nat)] w (SPost g cap xs w) := by
  have hs0 := Lib.hid (St.start h)
  clear h
  go_enter Tryd.func121, Tryd.ntmps121
  go_wp2_with fail
  go_loopw [8] (fun q wr => ∃ r : Nat, r ≤ 1000 ∧ q = .int .i64 r ∧ Hid (St g cap xs w wr)) (fun q _ => 1001 - (intOf q).toNat)
  case atStart => exact ⟨lo, ha, rfl, hs0⟩
  case round =>
    obtain ⟨r, hr, rfl, hs⟩ := hrel
    obtain ⟨c, hc⟩ : ∃ c : Nat, 2 * (r : Int) + 1 = (c : Nat) := ⟨2 * r + 1, by omega⟩
    have hcr : c = 2 * r + 1 := by omega
    by_cases hge : hi ≤ c
    · have hd : decide (hi ≤ c) = true := decide_eq_true hge
      replace hcr := Lib.hid hcr
      go_wp2_with fail
      go_end0
      exact ⟨⟨_, rfl⟩, hs.out⟩
    · have hd : decide (hi ≤ c) = false := decide_eq_false hge
      obtain ⟨R0, hR0⟩ : ∃ R0 : Nat, f + r = R0 := ⟨_, rfl⟩
      have w1 : IntKind.i64.wrap ((f : Int) + (r : Int)) = (R0 : Int) := by rw [IntKind.wrap_i64]; omega
      have r1 : (0 : Int) ≤ (R0 : Int) := by omega
      have r2 : (R0 : Int) < (xs.length : Nat) := by omega
      have hR1 : R0 < xs.length := by omega
      have hd2 : ∃ d : Nat, ∃ D0 : Nat, d < hi ∧ r < d ∧ f + d = D0 ∧ D0 < xs.length ∧ IntKind.i64.wrap ((f : Int) + (d : Int)) = (D0 : Int) := ⟨c, f + c, by omega, by omega, rfl, by omega, by rw [IntKind.wrap_i64]; omega⟩
      have w3 : IntKind.i64.wrap ((c : Int) + 1) = ((c + 1 : Nat) : Int) := by rw [IntKind.wrap_i64]; omega
      by_cases hc1 : c + 1 < hi
      · have hdc : decide (c + 1 < hi) = true := decide_eq_true hc1
        obtain ⟨C0, hC0⟩ : ∃ C0 : Nat, f + c = C0 := ⟨_, rfl⟩
        obtain ⟨C1, hC1⟩ : ∃ C1 : Nat, f + c + 1 = C1 := ⟨_, rfl⟩
        obtain ⟨c1, hcc1⟩ : ∃ c1 : Nat, c + 1 = c1 := ⟨_, rfl⟩
        have w2 : IntKind.i64.wrap ((f : Int) + (c : Int)) = (C0 : Int) := by rw [IntKind.wrap_i64]; omega
        have w4 : IntKind.i64.wrap ((C0 : Int) + 1) = (C1 : Int) := by rw [IntKind.wrap_i64]; omega
        have w5 : IntKind.i64.wrap ((f : Int) + (c1 : Int)) = (C1 : Int) := by rw [IntKind.wrap_i64]; omega
        have c1' : (0 : Int) ≤ (C0 : Int) := by omega
        have c2' : (C0 : Int) < (xs.length : Nat) := by omega
        have c3' : (0 : Int) ≤ (C1 : Int) := by omega
        have c4' : (C1 : Int) < (xs.length : Nat) := by omega
        obtain ⟨x, e1⟩ := hs.out.at (i := C0) (by omega)
        obtain ⟨y, e2⟩ := hs.out.at (i := C1) (by omega)
        have hq := lessq x y
        clear w3
        have w6 : (c : Int) + 1 = (c1 : Int) := by omega
        have w7 : IntKind.i64.wrap (c1 : Int) = (c1 : Int) := by rw [IntKind.wrap_i64]; omega
        have hdc : decide (c1 < hi) = true := decide_eq_true (by omega)
        have hdn := hd2
        replace hd2 := Lib.hid hd2
        have hgl := Lib.hid (show f + c = C0 ∧ f + c + 1 = C1 ∧ c + 1 = c1 ∧ c = 2 * r + 1 ∧ f + r = R0 from ⟨hC0, hC1, hcc1, hcr, hR0⟩)
        clear hC0 hC1 hcc1 hcr hR0 hdn
        obtain ⟨v, hv⟩ : ∃ v, decide (x < y) = v := ⟨_, rfl⟩
        rw [hv] at hq
        replace hv := Lib.hid hv
        have hrd := Lib.hid (show r < c ∧ r < c1 from ⟨by have := hgl.out; omega, by have := hgl.out; omega⟩)
        rcases (by cases v <;> simp : v = true ∨ v = false) with rfl | rfl
        · go_wp2_with fail
          go_quiet ((go_at_call 116; exact Calls.quiet_of_same (hq.out _)))
          go_wp2_with fail
          clear e1 e2
          obtain ⟨g1, g2, g3, g4, g5⟩ := hgl.out
          have hC1l : C1 < xs.length := by omega
          have hrc : r < c1 := by omega
          have hch : c1 ≤ 1000 := by omega
          clear g1 g2 g3 g4 g5
          have hs2 := Lib.hid (hs.out.drewN nq)
          generalize wr.drewN nq = wq at *
          clear hs
          obtain ⟨p, e5⟩ := hs2.out.at (i := R0) hR1
          obtain ⟨q, e6⟩ := hs2.out.at (i := C1) (by omega)
          have hq2 := lessq p q
          obtain ⟨v2, hv2⟩ : ∃ v2, decide (p < q) = v2 := ⟨_, rfl⟩
          rw [hv2] at hq2
          replace hv2 := Lib.hid hv2
          rcases (by cases v2 <;> simp : v2 = true ∨ v2 = false) with rfl | rfl
          · go_wp2_with fail
            go_quiet ((go_at_call 116; exact Calls.quiet_of_same (hq2.out _)))
            have hs3 := hs2.out.drewN nq
            have f1 := hs3.frozen R0
            have f2 := hs3.frozen C1
            have e5' : (wq.drewN nq).cell? ⟨g, R0, none⟩ = some (.int .u64 p) := e5
            have e6' : (wq.drewN nq).cell? ⟨g, C1, none⟩ = some (.int .u64 q) := e6
            generalize wq.drewN nq = wz at *
            have hs4 := Lib.hid (hs3.swap hR1 (by omega) e5' e6')
            obtain ⟨u, e7⟩ := cell?_setCell_some (p := ⟨g, R0, none⟩) (x := .int .u64 q) e6'
            clear e5 e6 hs2 hs3
            go_wp2_with fail
            go_region
            go_wp2_with fail
            go_roundw
            case rel => exact ⟨c1, by omega, by first | rfl | go_num, Lib.hid hs4.out.drew⟩
            case measure => simp [intOf]; omega
          · go_wp2_with fail
            go_quiet ((go_at_call 116; exact Calls.quiet_of_same (hq2.out _)))
            have hs3 := Lib.hid (hs2.out.drewN nq)
            go_wp2_with fail
            go_end0
            exact ⟨⟨_, rfl⟩, hs3.out⟩
        · go_wp2_with fail
          go_quiet ((go_at_call 116; exact Calls.quiet_of_same (hq.out _)))
          go_wp2_with fail
          clear e1 e2
          obtain ⟨g1, g2, g3, g4, g5⟩ := hgl.out
          have hC1l : C0 < xs.length := by omega
          have hrc : r < c := by omega
          have hch : c ≤ 1000 := by omega
          clear g1 g2 g3 g4 g5
          have hs2 := Lib.hid (hs.out.drewN nq)
          generalize wr.drewN nq = wq at *
          clear hs
          obtain ⟨p, e5⟩ := hs2.out.at (i := R0) hR1
          obtain ⟨q, e6⟩ := hs2.out.at (i := C0) (by omega)
          have hq2 := lessq p q
          obtain ⟨v2, hv2⟩ : ∃ v2, decide (p < q) = v2 := ⟨_, rfl⟩
          rw [hv2] at hq2
          replace hv2 := Lib.hid hv2
          rcases (by cases v2 <;> simp : v2 = true ∨ v2 = false) with rfl | rfl
          · go_wp2_with fail
            go_quiet ((go_at_call 116; exact Calls.quiet_of_same (hq2.out _)))
            have hs3 := hs2.out.drewN nq
            have f1 := hs3.frozen R0
            have f2 := hs3.frozen C0
            have e5' : (wq.drewN nq).cell? ⟨g, R0, none⟩ = some (.int .u64 p) := e5
            have e6' : (wq.drewN nq).cell? ⟨g, C0, none⟩ = some (.int .u64 q) := e6
            generalize wq.drewN nq = wz at *
            have hs4 := Lib.hid (hs3.swap hR1 (by omega) e5' e6')
            obtain ⟨u, e7⟩ := cell?_setCell_some (p := ⟨g, R0, none⟩) (x := .int .u64 q) e6'
            clear e5 e6 hs2 hs3
            go_wp2_with fail
            go_region
            go_wp2_with fail
            go_roundw
            case rel => exact ⟨c, by omega, by first | rfl | go_num, Lib.hid hs4.out.drew⟩
            case measure => simp [intOf]; omega
          · go_wp2_with fail
            go_quiet ((go_at_call 116; exact Calls.quiet_of_same (hq2.out _)))
            have hs3 := Lib.hid (hs2.out.drewN nq)
            go_wp2_with fail
            go_end0
            exact ⟨⟨_, rfl⟩, hs3.out⟩
      · have hdc : decide ((c : Int) + 1 < (hi : Int)) = false := decide_eq_false (by omega)
        obtain ⟨C0, hC0⟩ : ∃ C0 : Nat, f + c = C0 := ⟨_, rfl⟩
        have w2 : IntKind.i64.wrap ((f : Int) + (c : Int)) = (C0 : Int) := by rw [IntKind.wrap_i64]; omega
        obtain ⟨c1, hcc1⟩ : ∃ c1 : Nat, c + 1 = c1 := ⟨_, rfl⟩
        have w6 : (c : Int) + 1 = (c1 : Int) := by omega
        have w7 : IntKind.i64.wrap (c1 : Int) = (c1 : Int) := by rw [IntKind.wrap_i64]; omega
        have hdc1 : decide (c1 < hi) = false := decide_eq_false (by omega)
        have c1' : (0 : Int) ≤ (C0 : Int) := by omega
        have c2' : (C0 : Int) < (xs.length : Nat) := by omega
        have hC1l : C0 < xs.length := by omega
        have hrc : r < c := by omega
        have hch : c ≤ 1000 := by omega
        replace hd2 := Lib.hid hd2
        have hgl := Lib.hid (show f + c = C0 ∧ c + 1 = c1 ∧ c = 2 * r + 1 ∧ f + r = R0 from ⟨hC0, hcc1, hcr, hR0⟩)
        clear hC0 hcc1 hcr hR0 w3 hdc
        go_wp2_with fail
        go_quiet (fail)
        go_wp2_with fail
        have hs2 := Lib.hid (hs.out.drewN nq)
        generalize wr.drewN nq = wq at *
        clear hs
        obtain ⟨p, e5⟩ := hs2.out.at (i := R0) hR1
        obtain ⟨q, e6⟩ := hs2.out.at (i := C0) (by omega)
        have hq2 := lessq p q
        obtain ⟨v2, hv2⟩ : ∃ v2, decide (p < q) = v2 := ⟨_, rfl⟩
        rw [hv2] at hq2
        replace hv2 := Lib.hid hv2
        rcases (by cases v2 <;> simp : v2 = true ∨ v2 = false) with rfl | rfl
        · go_wp2_with fail
          go_quiet ((go_at_call 116; exact Calls.quiet_of_same (hq2.out _)))
          have hs3 := hs2.out.drewN nq
          have f1 := hs3.frozen R0
          have f2 := hs3.frozen C0
          have e5' : (wq.drewN nq).cell? ⟨g, R0, none⟩ = some (.int .u64 p) := e5
          have e6' : (wq.drewN nq).cell? ⟨g, C0, none⟩ = some (.int .u64 q) := e6
          generalize wq.drewN nq = wz at *
          have hs4 := Lib.hid (hs3.swap hR1 (by omega) e5' e6')
          obtain ⟨u, e7⟩ := cell?_setCell_some (p := ⟨g, R0, none⟩) (x := .int .u64 q) e6'
          clear e5 e6 hs2 hs3
          go_wp2_with fail
          go_region
          go_wp2_with fail
          go_roundw
          case rel => exact ⟨c, by omega, by first | rfl | go_num, Lib.hid hs4.out.drew⟩
          case measure => simp [intOf]; omega
        · go_wp2_with fail
          go_quiet ((go_at_call 116; exact Calls.quiet_of_same (hq2.out _)))
          have hs3 := Lib.hid (hs2.out.drewN nq)
          go_wp2_with fail
          go_end0
          exact ⟨⟨_, rfl⟩, hs3.out⟩
end Go.Proofs.YtgfmfecalhmplaaDoor
