/- Inner edges: the program. -/
import Derived.Test.YtpepcjffolbdcaaDoorBe1
import Derived.Test.YtpepcjffolbdcaaDoorAllShm
import Derived.Test.YtpepcjffolbdcaaDoorLawBool
namespace Go.Proofs.YtpepcjffolbdcaaDoor
open Go.ChangeShapes Go.WideShapes Go.ChangeAt Go.RowKit Go.Proofs Go.Shelf
attribute [local go_sem] Oper.semAt_some

theorem countP_snoc (p : Int → Bool) (l : List Int) (x : Int) : (l ++ [x]).countP p = l.countP p + (if p x then 1 else 0) := by
  rw [List.countP_append]; simp [List.countP_cons]
set_option maxRecDepth 100000 in
set_option maxHeartbeats 4000000 in
theorem inner_edges (a : Option Addr) (cap : Nat) (xs : List Int) (S : Nat) (w : World) (hx : SRow w S (.slice a xs.length cap) xs) (hA : Asc xs) (hl : xs.length ≤ 256) (hS : S ≤ w.heap.size) (hz : ∀ z ∈ xs, 0 ≤ z ∧ z < 256) (hT : Tab w) :
    Calls Tryd.prog 45 #[.agg #[.slice a xs.length cap, (Value.func (.func 115) #[] #[])]] w fun e w' => e = .returned (.int .i64 (ieN xs : Nat)) ∧ Below w.heap.size w w' := by
  have htl := hT.lt
  obtain ⟨a', cap', he, ha⟩ := id hx
  cases he
  have hxS := Lib.hid hx
  replace ha := Lib.hid ha
  replace hz := Lib.hid hz
  replace hT := Lib.hid hT
  replace hA := Lib.hid hA
  clear hx
  refine (callsIn_wide (n := 10)).1 ?_
  refine callsIn_of_wp_marks Tryd.func45 rfl trivial ?_ rfl
  simp only [Tryd.ntmps45, List.size_toArray, List.length_cons, List.length_nil, Nat.reduceAdd, Nat.reduceSub, Array.replicate_succ, Array.replicate_zero, List.push_toArray, List.append_toArray, List.nil_append, List.cons_append]
  gi_wp2_with fail
  refine wpIn_loop (fun a9 wr => ∃ u5 u6 u10 u11 u12 u13 u14 u15 u16 u17 u18 u19 u20 u21 u22 u23 u24 : Value, ∃ ds : List Deferred, (∃ k : Nat, k ≤ xs.length ∧ u10 = .int .i64 k ∧ Hid (Below w.heap.size w wr) ∧ Hid (wr.heap[w.heap.size]? = some (.cells #[.slice a xs.length cap, (Value.func (.func 115) #[] #[])] 46 (0, 0))) ∧ Hid (Boxed wr (w.heap.size + 1) 3 (.int .i64 (colT (inP xs) (xs.take k) 8 : Nat))) ∧ Hid (DefsOK w.heap.size ds wr.heap.size wr)) ∧ a9 = { tmps := #[.agg #[.slice a xs.length cap, (Value.func (.func 115) #[] #[])], .pointer (some ⟨w.heap.size, 0, none⟩), .int .i64 0, .pointer (some ⟨w.heap.size + 1, 0, none⟩), undef, u5, u6, .pointer (some ⟨w.heap.size, 0, none⟩), .slice a xs.length cap, .int .i64 (xs.length : Nat), u10, u11, u12, u13, u14, u15, u16, u17, u18, u19, u20, u21, u22, u23, u24, undef], defers := ds }) (fun a9 _ => xs.length - (intOf (a9.tmps.getD 10 undef)).toNat) ?atStart ?round
  case atStart =>
    refine ⟨_, _, _, _, _, _, _, _, _, _, _, _, _, _, _, _, _, [], ⟨0, by omega, rfl, ?_, ?_, ?_, Lib.hid trivial⟩, rfl⟩
    · exact Lib.hid (((Below.refl _ _).alloc (Nat.le_refl _) _).alloc (by simp) _)
    · exact Lib.hid (by rw [Below.heap_alloc _ _ _ (by simp)]; exact heap_alloc_new w _)
    · have bO := Boxed.new (w.alloc (.cells #[.slice a xs.length cap, (Value.func (.func 115) #[] #[])] 46)) 3 (.int .i64 0)
      rw [World.size_alloc] at bO
      exact Lib.hid (by rw [List.take_zero, colT_nil]; exact bO)
  case round =>
    rintro a9 wr ⟨u5, u6, u10, u11, u12, u13, u14, u15, u16, u17, u18, u19, u20, u21, u22, u23, u24, ds, ⟨k, hk, rfl, hbel, hagg, hbox, hds⟩, rfl⟩
    dsimp only
    have hz1 := hbel.out.size
    have hlw := hbox.out.lt
    by_cases hk2 : k < xs.length
    · obtain ⟨b1, o1, rfl, s1, c1⟩ := ha.out (by omega)
      have k1 : (0 : Int) ≤ (k : Int) := by omega
      have k2 : (k : Int) < (xs.length : Nat) := by omega
      have e1 : wr.cell? ⟨b1, o1 + k, none⟩ = some (.int .u64 (xs.getD k 0)) := (hbel.out.cell (p := ⟨b1, o1 + k, none⟩) (show b1 < w.heap.size by omega)).trans (c1 k hk2)
      obtain ⟨x, hx0⟩ : ∃ x, xs.getD k 0 = x := ⟨_, rfl⟩
      have hmx : x ∈ xs := by rw [← hx0]; exact getD_mem hk2
      rw [hx0] at e1
      obtain ⟨x1, x2⟩ := hz.out x hmx
      have hstep : colT (inP xs) (xs.take (k + 1)) 8 = colT (inP xs) (xs.take k) 8 + (ptsI x).countP (fun p => memB (lessI x p) xs) := by
        rw [colT_take _ hk2 hx0, row_ptsI]
      have hbd := colT_le (inP xs) (xs.take k) 8
      rw [List.length_take] at hbd
      have hbd2 : colT (inP xs) (xs.take k) 8 ≤ 2048 := by omega
      obtain ⟨s0, hs0⟩ : ∃ s0, colT (inP xs) (xs.take k) 8 = s0 := ⟨_, rfl⟩
      rw [hs0] at hbd2 hstep hbox
      replace hs0 := Lib.hid hs0
      replace hstep := Lib.hid hstep
      replace c1 := Lib.hid c1
      replace hx0 := Lib.hid hx0
      replace hmx := Lib.hid hmx
      clear hbd
      gi_wp2_with (refine ⟨trivial, ?_⟩; gi_at_call 83; refine (pts_make _ _).mono ?_; rintro e w' ⟨rfl, rfl⟩)
      have bS := Boxed.new wr 59 (.int .u64 x)
      have bN : Boxed ((wr.alloc (.cells #[.int .u64 x] 59)).alloc (.cells #[.int .u64 x] 59)) (wr.heap.size + 1) 59 (.int .u64 x) := by
        have := Boxed.new (wr.alloc (.cells #[.int .u64 x] 59)) 59 (.int .u64 x)
        rw [World.size_alloc] at this
        exact this
      have hW0 : Below w.heap.size w ((wr.alloc (.cells #[.int .u64 x] 59)).alloc (.cells #[.int .u64 x] 59)) := (hbel.out.alloc hz1 _).alloc (by simp; omega) _
      have hT1 : Tab ((wr.alloc (.cells #[.int .u64 x] 59)).alloc (.cells #[.int .u64 x] 59)) := hT.out.below hW0 htl
      refine wpIn_rangeFunc_ownG rfl (by omega) (gf := 111) (lb := #[.pointer (some ⟨wr.heap.size + 1, 0, none⟩)]) rfl trivial (enters_of Tryd.func111 (by kernel_rfl) rfl)
        (pts_stops _ (by omega) (wr.heap.size + 1) w.heap.size x x1 x2 _ (by simp) bN.cell hT1 htl) belowK_t (belowK_b (by simp; omega)) (Below.refl _ _) (fun _ => rfl)
        (fun (pre : List (PtOf x)) W => ((Boxed W wr.heap.size 59 (.int .u64 x) ∧ Boxed W (w.heap.size + 1) 3 (.int .i64 (s0 + (vals pre).countP (fun p => memB (lessI x p) xs) : Nat))) ∧ DefsOK w.heap.size ds wr.heap.size W) ∧ Below w.heap.size w W ∧ W.heap[w.heap.size]? = some (.cells #[.slice (some ⟨b1, o1, none⟩) xs.length cap, (Value.func (.func 115) #[] #[])] 46 (0, 0)))
        (fun _ _ _ => False)
        (OwnFrom.and (OwnFrom.and (OwnFrom.and (_root_.Go.Own.from (boxed_own _ _ (fun _ => .int .u64 x)) _) (_root_.Go.Own.from (boxed_own _ _ (fun (pre : List (PtOf x)) => .int .i64 (s0 + (vals pre).countP (fun p => memB (lessI x p) xs) : Nat))) _)) (defs_own _ _ _ _ (by simp; omega))) (OwnFrom.and (ownFrom_below (Nat.le_refl _) (by simp; omega)) (fun _ W W' row hs hg hr => by
          have hlt := (Array.getElem?_eq_some_iff.1 hs).1
          exact (hg.block _ hlt (fun e => by
            have := (hr _ e.symm).1
            simp at this; omega)).trans hs)))
        (fun _ _ _ _ _ hs _ _ => hs)
        ⟨⟨⟨bS.alloc _, by simpa [vals] using (hbox.out.alloc _).alloc _⟩, (hds.out.alloc _).alloc _⟩, hW0, by rw [Below.heap_alloc _ _ _ (by simp; omega), Below.heap_alloc _ _ _ (by omega)]; exact hagg.out⟩
        (fun p => { tmps := #[.agg #[.slice (some ⟨b1, o1, none⟩) xs.length cap, (Value.func (.func 115) #[] #[])], .pointer (some ⟨w.heap.size, 0, none⟩), .int .i64 0, .pointer (some ⟨w.heap.size + 1, 0, none⟩), undef, .pointer (some ⟨wr.heap.size, 0, none⟩), .int .i64 p.1, .pointer (some ⟨w.heap.size, 0, none⟩), .slice (some ⟨b1, o1, none⟩) xs.length cap, .int .i64 (xs.length : Nat), .int .i64 (k : Nat), .bool true, .pointer (some ⟨b1, o1 + k, none⟩), .int .u64 x, .int .u64 x, .func (.func 111) #[] #[.pointer (some ⟨wr.heap.size + 1, 0, none⟩)], .int .i64 p.1, u17, u18, u19, u20, u21, u22, u23, u24, undef], defers := [] }) ?assign ?body ?done ?stop
      case assign =>
        intro l p W K hK
        gi_wp2
        exact hK
      case body =>
        rintro l pre ⟨p, p1, p2, p3⟩ W ⟨⟨⟨hbx, hv⟩, hdf⟩, hB, hag⟩ hlen
        have hp8 : pre.length ≤ 8 := by have := ptsTo_len x 8; unfold ptsI at hlen; omega
        have hcn : (vals pre).countP (fun p => memB (lessI x p) xs) ≤ 8 := by
          have := List.countP_le_length (p := fun p => memB (lessI x p) xs) (l := vals pre)
          rw [vals_len] at this; omega
        have hnx := countP_snoc (fun p => memB (lessI x p) xs) (vals pre) p
        have hnv : vals (pre ++ [(⟨p, p1, p2, p3⟩ : PtOf x)]) = vals pre ++ [p] := vals_snoc _ _
        rw [← hnv] at hnx
        have hmx : Tryd.prog.follows .mixedOrders = true := by kernel_rfl
        obtain ⟨l1, l2⟩ := less_lt x1 x2 p1 p2
        have hwo := fun W => set_without x p x1 x2 p1 p2 W
        obtain ⟨y, hy⟩ : ∃ y, lessI x p = y := ⟨_, rfl⟩
        rw [hy] at hnx l1 l2 hwo
        obtain ⟨c, hcc⟩ : ∃ c : Nat, s0 + (vals pre).countP (fun p => memB (lessI x p) xs) = c := ⟨_, rfl⟩
        have hc8 : c ≤ 2056 := by omega
        have hnc : s0 + (vals (pre ++ [(⟨p, p1, p2, p3⟩ : PtOf x)])).countP (fun p => memB (lessI x p) xs) = c + (if memB y xs then 1 else 0) := by rw [hnx, ← hcc]; omega
        rw [hcc] at hv
        have c5 := hbx.cell
        have g0 : W.cell? ⟨w.heap.size, 0, none⟩ = some (.slice (some ⟨b1, o1, none⟩) xs.length cap) := by rw [cell_of_row W _ 0 _ 46 (0, 0) hag]; rfl
        have g1 : W.cell? ⟨w.heap.size, 1, none⟩ = some (Value.func (.func 115) #[] #[]) := by rw [cell_of_row W _ 1 _ 46 (0, 0) hag]; rfl
        have hhas : ∀ W', Below w.heap.size w W' → Boxed W' (w.heap.size + 1) 3 (.int .i64 (c : Nat)) → Calls Tryd.prog 84 #[.agg #[.slice (some ⟨b1, o1, none⟩) xs.length cap, (Value.func (.func 115) #[] #[])], .int .u64 y] W' fun e w1 => e = .returned (.bool (memB y xs)) ∧ w1.cell? ⟨w.heap.size + 1, 0, none⟩ = some (.int .i64 (c : Nat)) ∧ w1.frozen? ⟨w.heap.size + 1, 0, none⟩ = false ∧ Hid (Below W'.heap.size W' w1) := fun W' hb hv' => by
          refine (has_any _ xs y S W' (hxS.out.below hb (by omega)) hA.out (by omega) (by have := hb.size; omega)).mono ?_
          rintro e w1 ⟨rfl, hb1⟩
          exact ⟨rfl, (hb1.cell (p := ⟨w.heap.size + 1, 0, none⟩) hv'.lt).trans hv'.cell, (hb1.frozen (p := ⟨w.heap.size + 1, 0, none⟩) hv'.lt).trans hv'.frozen, Lib.hid hb1⟩
        have hkeep : ∀ (w1 : World) (b : Nat), Below W.drew.heap.size W.drew w1 → KeepsFrom b W w1 ∧ Below w.heap.size W w1 ∧ Boxed w1 wr.heap.size 59 (.int .u64 x) ∧ Boxed w1 (w.heap.size + 1) 3 (.int .i64 (c : Nat)) ∧ DefsOK w.heap.size ds wr.heap.size w1 ∧ Below w.heap.size w w1 ∧ w1.heap[w.heap.size]? = some (.cells #[.slice (some ⟨b1, o1, none⟩) xs.length cap, (Value.func (.func 115) #[] #[])] 46 (0, 0)) := fun w1 b h => by
          have hk : Below W.heap.size W w1 := ⟨h.os, h.tape, h.output, h.size, h.block⟩
          have hko : KeepsOthers W w1 := ⟨hk.size, fun k o ho _ => (hk.block k (Array.getElem?_eq_some_iff.1 ho).1).trans ho⟩
          have hW := hB.size
          exact ⟨hko.from b, hk.mono hW, (hk.block _ hbx.lt).trans hbx, (hk.block _ hv.lt).trans hv, hdf.keep (fun D hD e => (hk.block D (Array.getElem?_eq_some_iff.1 e).1).trans e), hB.trans (hk.mono hW), (hk.block _ (Array.getElem?_eq_some_iff.1 hag).1).trans hag⟩
        have hset : ∀ (w1 : World) (b : Nat), Below W.drew.heap.size W.drew w1 → KeepsFrom b W (w1.setCell ⟨w.heap.size + 1, 0, none⟩ (.int .i64 ((c : Nat) + 1 : Int))) ∧ Below w.heap.size W (w1.setCell ⟨w.heap.size + 1, 0, none⟩ (.int .i64 ((c : Nat) + 1 : Int))) ∧ Boxed (w1.setCell ⟨w.heap.size + 1, 0, none⟩ (.int .i64 ((c : Nat) + 1 : Int))) wr.heap.size 59 (.int .u64 x) ∧ Boxed (w1.setCell ⟨w.heap.size + 1, 0, none⟩ (.int .i64 ((c : Nat) + 1 : Int))) (w.heap.size + 1) 3 (.int .i64 ((c : Nat) + 1 : Int)) ∧ DefsOK w.heap.size ds wr.heap.size (w1.setCell ⟨w.heap.size + 1, 0, none⟩ (.int .i64 ((c : Nat) + 1 : Int))) ∧ Below w.heap.size w (w1.setCell ⟨w.heap.size + 1, 0, none⟩ (.int .i64 ((c : Nat) + 1 : Int))) ∧ (w1.setCell ⟨w.heap.size + 1, 0, none⟩ (.int .i64 ((c : Nat) + 1 : Int))).heap[w.heap.size]? = some (.cells #[.slice (some ⟨b1, o1, none⟩) xs.length cap, (Value.func (.func 115) #[] #[])] 46 (0, 0)) := fun w1 b h => by
          have hk : Below W.heap.size W w1 := ⟨h.os, h.tape, h.output, h.size, h.block⟩
          have hko : KeepsOthers W w1 := ⟨hk.size, fun k o ho _ => (hk.block k (Array.getElem?_eq_some_iff.1 ho).1).trans ho⟩
          obtain ⟨q1, q2, q3, q4, q5, q6, q7⟩ := hkeep w1 b h
          refine ⟨(hko.trans (KeepsOthers.setCell _ _ _)).from b, below_setCell q2 (by simp) _, ?_, Boxed.set _ q4, q5.keep (fun D hD e => ?_), below_setCell q6 (by simp) _, ?_⟩
          · show (w1.setCell _ _).heap[_]? = _
            rw [Below.heap_setCell _ _ _ _ (show wr.heap.size ≠ w.heap.size + 1 by omega)]; exact q3
          · by_cases hD2 : D = w.heap.size + 1
            · subst hD2
              have q4' : w1.heap[w.heap.size + 1]? = _ := q4
              rw [q4'] at e
              cases e
            · rw [Below.heap_setCell _ _ _ _ hD2]; exact e
          · rw [Below.heap_setCell _ _ _ _ (show w.heap.size ≠ w.heap.size + 1 by omega)]; exact q7
        have hbd : Below w.heap.size w W.drew := ⟨hB.os, hB.tape, hB.output, hB.size, hB.block⟩
        have hvd : Boxed W.drew (w.heap.size + 1) 3 (.int .i64 (c : Nat)) := hv
        replace hset := Lib.hid hset
        replace hkeep := Lib.hid hkeep
        replace hwo := Lib.hid hwo
        replace hhas := Lib.hid (hhas W.drew hbd hvd)
        replace hy := Lib.hid hy
        replace hcc := Lib.hid hcc
        rcases (by cases memB y xs <;> simp : memB y xs = true ∨ memB y xs = false) with hm | hm
        · have hh := hhas.out
          rw [hm] at hh hnc
          rw [if_pos rfl] at hnc
          replace hhas := Lib.hid hh
          replace hnc := Lib.hid hnc
          replace hm := Lib.hid hm
          clear hv hB hdf hag hbx hnx hnv hh hbd hvd
          gi_wp2
          gi_region_with_o (first | (refine ⟨trivial, ?_⟩; gi_at_call 85; refine (CallsIn.inRound l (callsIn_wide.2 (hwo.out _))).mono ?_; rintro e w2 ⟨rfl, rfl⟩) | (refine ⟨trivial, ?_⟩; gi_at_call 84; refine (CallsIn.inRound l (callsIn_wide.2 hhas.out)).mono ?_; rintro e w1 ⟨rfl, d0, f0, hb1⟩))
          all_goals gi_wp2
          all_goals
            obtain ⟨q1, q2, q3, q4, q5, q6, q7⟩ := hset.out w1 _ hb1.out
            exact ⟨q1, q2, ⟨⟨q3, by rw [hnc.out]; exact q4⟩, q5⟩, q6, q7⟩
        · have hh := hhas.out
          rw [hm] at hh hnc
          rw [if_neg (by simp), Nat.add_zero] at hnc
          replace hhas := Lib.hid hh
          replace hnc := Lib.hid hnc
          replace hm := Lib.hid hm
          clear hv hB hdf hag hbx hnx hnv hh hbd hvd
          gi_wp2
          gi_region_with_o (first | (refine ⟨trivial, ?_⟩; gi_at_call 85; refine (CallsIn.inRound l (callsIn_wide.2 (hwo.out _))).mono ?_; rintro e w2 ⟨rfl, rfl⟩) | (refine ⟨trivial, ?_⟩; gi_at_call 84; refine (CallsIn.inRound l (callsIn_wide.2 hhas.out)).mono ?_; rintro e w1 ⟨rfl, d0, f0, hb1⟩))
          all_goals gi_wp2
          all_goals
            obtain ⟨q1, q2, q3, q4, q5, q6, q7⟩ := hkeep.out w1 _ hb1.out
            exact ⟨q1, q2, ⟨⟨q3, by rw [hnc.out]; exact q4⟩, q5⟩, q6, q7⟩
      case done =>
        rintro D ys W hD hys ⟨⟨⟨hbx, hv⟩, hdf⟩, hB, hag⟩ hK
        rw [hys, ← hstep.out] at hv
        gi_wp2
        simp at hD
        have hDl := (Array.getElem?_eq_some_iff.1 hK).1
        refine ⟨⟨_, _, _, _, _, _, _, _, _, _, _, _, _, _, _, _, _, { target := .collected D, args := #[] } :: ds, ⟨k + 1, by omega, by go_num, Lib.hid hB, Lib.hid hag, Lib.hid hv, Lib.hid ⟨D, rfl, by omega, hDl, hK, hdf.mono (by omega)⟩⟩, rfl⟩, ?_⟩
        simp [intOf]; omega
      case stop =>
        rintro D c pre W _ _ h _
        exact h.elim
    · obtain rfl : k = xs.length := by omega
      have hr2 := hbox.out
      rw [List.take_length] at hr2
      have hc := hr2.cell
      have q2 := ieN_le hl
      change wr.cell? _ = some (.int .i64 (ieN xs : Nat)) at hc
      obtain ⟨s0, hs0⟩ : ∃ s0, ieN xs = s0 := ⟨_, rfl⟩
      rw [hs0] at hc q2
      replace hs0 := Lib.hid hs0
      replace hr2 := Lib.hid hr2
      clear hbox
      gi_wp2_with fail
      refine leaves_all (B := w.heap.size) (fun W => Below w.heap.size w W) (fun W D h hD e => h.trans (belowK_b (w := w) (Nat.le_refl _) W D _ _ hD e rfl rfl)) (fun W h => ?_) ds _ _ hds.out hbel.out
      exact ⟨_, results_tmp rfl _ _ _, by rw [hs0.out]; rfl, h⟩
end Go.Proofs.YtpepcjffolbdcaaDoor
