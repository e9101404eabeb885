/- Two sets compared in ball order: the program. -/
import Derived.Test.YtpjapoaagbdlfaaGreatDoorBo2
import Derived.Test.YtpjapoaagbdlfaaGreatDoorAllShm
namespace Go.Proofs.YtpjapoaagbdlfaaGreatDoor
open Go.ChangeShapes Go.WideShapes Go.ChangeAt Go.RowKit Go.Proofs Go.Shelf
attribute [local go_sem] Oper.semAt_some

theorem cmp_int (x y : Int) (w : World) : Calls Tryz.prog 113 #[.int .i64 x, .int .i64 y] w fun e w' => e = .returned (.int .i64 (cmI x y)) ∧ w = w' := by
  by_cases h1 : x < y
  · have hf := Lib.hid (show (-1 : Int) = cmI x y by unfold cmI; rw [if_pos h1])
    go_enter Tryz.func113, Tryz.ntmps113
    go_wp2
    go_ret
    exact ⟨ret_int hf.out, rfl⟩
  · by_cases h2 : y < x
    · have hf := Lib.hid (show (1 : Int) = cmI x y by unfold cmI; rw [if_neg h1, if_pos h2])
      go_enter Tryz.func113, Tryz.ntmps113
      go_wp2
      go_ret
      exact ⟨ret_int hf.out, rfl⟩
    · have hf := Lib.hid (show (0 : Int) = cmI x y by unfold cmI; rw [if_neg h1, if_neg h2])
      go_enter Tryz.func113, Tryz.ntmps113
      go_wp2
      go_ret
      exact ⟨ret_int hf.out, rfl⟩
theorem lex_step {xs ys : List Int} {k : Nat} (h1 : k < xs.length) (h2 : k < ys.length) : lexI (xs.drop k) (ys.drop k) = if xs.getD k 0 < ys.getD k 0 then -1 else if ys.getD k 0 < xs.getD k 0 then 1 else lexI (xs.drop (k + 1)) (ys.drop (k + 1)) := by
  rw [List.drop_eq_getElem_cons h1, List.drop_eq_getElem_cons h2]
  have e1 : xs.getD k 0 = xs[k] := by simp [List.getD, h1]
  have e2 : ys.getD k 0 = ys[k] := by simp [List.getD, h2]
  rw [e1, e2]; rfl
theorem lex_y {xs ys : List Int} {k : Nat} (h1 : k < xs.length) (h2 : ys.length ≤ k) : lexI (xs.drop k) (ys.drop k) = 1 := by
  rw [List.drop_eq_getElem_cons h1, List.drop_eq_nil_of_le h2]; rfl
theorem lex_x {xs ys : List Int} {k : Nat} (h1 : xs.length ≤ k) (h2 : k < ys.length) : lexI (xs.drop k) (ys.drop k) = -1 := by
  rw [List.drop_eq_getElem_cons h2, List.drop_eq_nil_of_le h1]; rfl
theorem lex_n {xs ys : List Int} {k : Nat} (h1 : xs.length ≤ k) (h2 : ys.length ≤ k) : lexI (xs.drop k) (ys.drop k) = 0 := by
  rw [List.drop_eq_nil_of_le h1, List.drop_eq_nil_of_le h2]; rfl
set_option maxHeartbeats 1000000 in
theorem lex_ints (v u : Value) (xs ys : List Int) (S : Nat) (w : World) (hx : Row w S v xs) (hy : Row w S u ys) (hl : xs.length ≤ 100000) (hl2 : ys.length ≤ 100000) :
    Calls Tryz.prog 114 #[v, u] w fun e w' => e = .returned (.int .i64 (lexI xs ys)) ∧ w = w' := by
  obtain ⟨a, cap, rfl, ha⟩ := hx
  obtain ⟨b, cb, rfl, hb⟩ := hy
  replace ha := Lib.hid ha
  replace hb := Lib.hid hb
  go_enter Tryz.func114, Tryz.ntmps114
  go_wp2_with fail
  go_loopw [11] (fun q wr => ∃ k : Nat, k ≤ xs.length ∧ q = .int .i64 k ∧ Hid (k ≤ ys.length ∧ lexI xs ys = lexI (xs.drop k) (ys.drop k)) ∧ wr = w) (fun q _ => xs.length - (intOf q).toNat)
  case atStart => exact ⟨0, by omega, rfl, Lib.hid ⟨by omega, rfl⟩, rfl⟩
  case round =>
    obtain ⟨k, hk, rfl, hR, rfl⟩ := hrel
    obtain ⟨hky, hL⟩ := hR.out
    by_cases hlt : k < xs.length
    · obtain ⟨b1, o1, rfl, t1, c1⟩ := ha.out (by omega)
      have k1 : (0 : Int) ≤ (k : Int) := by omega
      have k2 : (k : Int) < (xs.length : Nat) := by omega
      have e1 := c1 k hlt
      by_cases hly : k < ys.length
      · obtain ⟨b2, o2, rfl, t2, c2⟩ := hb.out (by omega)
        have k3 : (k : Int) < (ys.length : Nat) := by omega
        have e2 := c2 k hly
        have hst := lex_step hlt hly
        obtain ⟨x, hx⟩ : ∃ x, xs.getD k 0 = x := ⟨_, rfl⟩
        obtain ⟨y, hy⟩ : ∃ y, ys.getD k 0 = y := ⟨_, rfl⟩
        rw [hx] at e1 hst
        rw [hy] at e2 hst
        have hc := fun W => cmp_int x y W
        unfold cmI at hc
        replace hx := Lib.hid hx
        replace hy := Lib.hid hy
        clear hR c1 c2 hky
        by_cases h1 : x < y
        · rw [if_pos h1] at hst hc
          rw [hst] at hL
          replace hL := Lib.hid hL.symm
          replace hc := Lib.hid hc
          replace hst := Lib.hid hst
          go_wp2_with (go_at_call 113; refine (hc.out _).mono ?_; rintro e w' ⟨rfl, rfl⟩)
          go_ret
          exact ⟨ret_int hL.out, rfl⟩
        · rw [if_neg h1] at hst hc
          by_cases h2 : y < x
          · rw [if_pos h2] at hst hc
            rw [hst] at hL
            replace hL := Lib.hid hL.symm
            replace hc := Lib.hid hc
            replace hst := Lib.hid hst
            go_wp2_with (go_at_call 113; refine (hc.out _).mono ?_; rintro e w' ⟨rfl, rfl⟩)
            go_ret
            exact ⟨ret_int hL.out, rfl⟩
          · rw [if_neg h2] at hst hc
            rw [hst] at hL
            have hR2 := Lib.hid (show k + 1 ≤ ys.length ∧ lexI xs ys = lexI (xs.drop (k + 1)) (ys.drop (k + 1)) from ⟨by omega, hL⟩)
            replace hL := Lib.hid hL
            replace hc := Lib.hid hc
            replace hst := Lib.hid hst
            go_wp2_with (go_at_call 113; refine (hc.out _).mono ?_; rintro e w' ⟨rfl, rfl⟩)
            go_roundw
            case rel => exact ⟨k + 1, by omega, by go_num, hR2, by first | trivial | rfl⟩
            case measure => simp [intOf]; omega
      · have k3 : ¬ ((k : Int) < (ys.length : Nat)) := by omega
        have k4 : ((ys.length : Nat) : Int) ≤ (k : Int) := by omega
        rw [lex_y hlt (by omega)] at hL
        replace hL := Lib.hid hL.symm
        obtain ⟨x, hx⟩ : ∃ x, xs.getD k 0 = x := ⟨_, rfl⟩
        rw [hx] at e1
        replace hx := Lib.hid hx
        clear hR c1 hky
        go_wp2_with fail
        go_ret
        exact ⟨ret_int hL.out, rfl⟩
    · obtain rfl : k = xs.length := by omega
      by_cases hly : xs.length < ys.length
      · rw [lex_x (by omega) hly] at hL
        have k3 : ((xs.length : Nat) : Int) < (ys.length : Nat) := by omega
        replace hL := Lib.hid hL.symm
        clear hR hky
        go_wp2_with fail
        go_ret
        exact ⟨ret_int hL.out, rfl⟩
      · rw [lex_n (by omega) (by omega)] at hL
        have k3 : ¬ (((xs.length : Nat) : Int) < (ys.length : Nat)) := by omega
        replace hL := Lib.hid hL.symm
        clear hR hky
        go_wp2_with fail
        go_ret
        exact ⟨ret_int hL.out, rfl⟩
/-- what collecting the points leaves. -/
def PtsPost (s : Int) (w : World) (e : Ending) (w' : World) : Prop := ∃ v, e = .returned v ∧ OwnL w' w.heap.size v (ptsI s) ∧ Below w.heap.size w w'
set_option maxRecDepth 100000 in
set_option maxHeartbeats 4000000 in
theorem appseq_pts (n : Nat) (hn : 3 ≤ n) (Bn : Nat) (s : Int) (w : World) (s1 : 0 ≤ s) (s2 : s < 256) (hBn : Bn < w.heap.size) (hc0 : w.cell? ⟨Bn, 0, none⟩ = some (.int .u64 s)) (hT : Tab w) :
    CallsIn Fence.wide n Tryz.prog 129 #[.slice none 0 0, .func (.func 90) #[] #[.pointer (some ⟨Bn, 0, none⟩)]] w (PtsPost s w) := by
  have htl := hT.lt
  replace hT := Lib.hid hT
  replace hc0 := Lib.hid hc0
  refine callsIn_of_wp_marks Tryz.func129 rfl trivial ?_ rfl
  simp only [Tryz.ntmps129, List.size_toArray, List.length_cons, List.length_nil, Nat.reduceAdd, Nat.reduceSub, Array.replicate_succ, Array.replicate_zero, List.push_toArray, List.append_toArray, List.nil_append, List.cons_append]
  gi_wp2
  have hW0 : Below w.heap.size w (w.alloc (.cells #[.slice none 0 0] 23)) := (Below.refl _ w).alloc (Nat.le_refl _) _
  have bO := Boxed.new w 23 (.slice none 0 0)
  obtain ⟨i0, hi, hz0, hz1, hz2⟩ := info_parts Tryz.intInfo
  refine wpIn_rangeFunc_ownG rfl (by omega) (gf := 90) (lb := #[.pointer (some ⟨Bn, 0, none⟩)]) rfl trivial (enters_of Tryz.func90 (by kernel_rfl) rfl)
    (pts_stops _ (by omega) Bn w.heap.size s s1 s2 _ (by simp; omega) ((hW0.cell (p := ⟨Bn, 0, none⟩) hBn).trans hc0.out) (hT.out.below hW0 htl) htl) belowK_t (belowK_b (by simp)) (Below.refl _ _) (fun _ => rfl)
    (fun (pre : List (PtOf s)) W => (∃ v, Boxed W w.heap.size 23 v ∧ W.ownsRow w.heap.size 3 1 v pre.length ((vals pre).map (Value.int .i64)) ∧ True) ∧ Below w.heap.size w W)
    (fun _ _ _ => False)
    (OwnFrom.and (_root_.Go.Own.from (holdsRow_own w.heap.size w.heap.size 23 3 1 (fun (pre : List (PtOf s)) => pre.length) (fun pre => (vals pre).map (Value.int .i64)) (fun _ _ => True)) _) (ownFrom_below (Nat.le_refl _) (by simp)))
    (fun _ _ _ _ _ hs _ _ => hs)
    ⟨⟨_, bO, World.ownsRow_nil _ _ _ 1, trivial⟩, hW0⟩
    (fun p => { tmps := #[.slice none 0 0, .func (.func 90) #[] #[.pointer (some ⟨Bn, 0, none⟩)], .pointer (some ⟨w.heap.size, 0, none⟩), undef, .slice none 0 0, .int .i64 p.1, .func (.func 90) #[] #[.pointer (some ⟨Bn, 0, none⟩)], .int .i64 p.1, undef, undef, undef, undef, undef], defers := [] }) ?assign ?body ?done ?stop
  case assign =>
    intro l p W K hK
    gi_wp2
    exact hK
  case body =>
    rintro l pre ⟨p, p1, p2, p3⟩ W ⟨⟨v, hv, hrow, -⟩, hB⟩ hlen
    have hc := hv.cell
    have hp8 : pre.length ≤ 8 := by have := ptsTo_len s 8; unfold ptsI at hlen; omega
    gi_wp2_with (gi_at_builtin; refine wpListIn_append_own _ rfl _ _ 23 rfl w.heap.size 3 i0 (.int .i64 0) 1 8 Tryz.underlying23 hi hz0 hz1 hz2 rfl (by decide) _ _ _ rfl (hrow.alloc _) ⟨W.heap.size, 0, none⟩ 1 1 [.int .i64 p] rfl rfl (cell_one_new _ _ _) (by simp [Value.oneCell']) (by unfold maxLen; omega) (by omega) (by have := hB.size; simp; omega) ?_; intro v' w1 hown' hgrow _; obtain ⟨g', cap', rfl⟩ := ownsRow_succ hown'; obtain ⟨hv1, hv2, hr2, hk2, hb2⟩ := hv.appended (by decide) hrow hB.size (Nat.le_refl _) hown' hgrow; have hc1 := hv1.cell; have hf1 := hv1.frozen)
    have e1 : (pre ++ [(⟨p, p1, p2, p3⟩ : PtOf s)]).length = pre.length + 1 := by simp
    have e2 : (vals (pre ++ [(⟨p, p1, p2, p3⟩ : PtOf s)])).map (Value.int .i64) = (vals pre).map (Value.int .i64) ++ [.int .i64 p] := by rw [vals_snoc, List.map_append]; rfl
    refine ⟨hk2.from _, hb2, ⟨_, hv2, ?_⟩, hB.trans hb2⟩
    rw [e1, e2]
    exact hr2
  case done =>
    rintro D ys W hD hys ⟨⟨v, hv, hrow, -⟩, hB⟩ hK
    have hc := hv.cell
    gi_wp2
    refine ⟨by simp, .inl ⟨_, _, rfl, run_takeDeferred hK, ?_⟩⟩
    have hrow' := ownsRow_putObj hrow (.deferred none) hK rfl
    refine ⟨_, results_tmp rfl _ _ _, v, rfl, ?_, hB.trans (belowK_b (w := w) (Nat.le_refl _) W D _ _ (by simp at hD; omega) hK rfl rfl)⟩
    have hlen : ys.length = (ptsI s).length := by rw [← hys, vals_len]
    rw [hys, hlen] at hrow'
    exact hrow'
  case stop =>
    rintro D c pre W _ _ h _
    exact h.elim
theorem collect_pts (Bn : Nat) (s : Int) (w : World) (s1 : 0 ≤ s) (s2 : s < 256) (hBn : Bn < w.heap.size) (hc0 : w.cell? ⟨Bn, 0, none⟩ = some (.int .u64 s)) (hT : Tab w) :
    Calls Tryz.prog 115 #[.func (.func 90) #[] #[.pointer (some ⟨Bn, 0, none⟩)]] w (PtsPost s w) := by
  have hc := Lib.hid (appseq_pts 9 (by omega) Bn s w s1 s2 hBn hc0 hT)
  refine (callsIn_wide (n := 10)).1 ?_
  refine callsIn_of_wp Tryz.func115 rfl trivial ?_ rfl
  simp only [Tryz.ntmps115, List.size_toArray, List.length_cons, List.length_nil, Nat.reduceAdd, Nat.reduceSub, Array.replicate_succ, Array.replicate_zero, List.push_toArray, List.append_toArray, List.nil_append, List.cons_append]
  gi_wp2_with fail
  refine ⟨trivial, hc.out.mono ?_⟩
  rintro e w' ⟨u, rfl, hS, hb⟩
  gi_wp2
  go_ret
  exact ⟨_, rfl, hS, hb⟩
theorem pts_made (s : Int) (w : World) : Calls Tryz.prog 65 #[.int .u64 s] w fun e w' =>
    e = .returned (.func (.func 90) #[] #[.pointer (some ⟨w.heap.size, 0, none⟩)]) ∧ w' = w.alloc (.cells #[.int .u64 s] 48) := (callsIn_wide (n := 9)).1 (pts_make s w)
set_option maxHeartbeats 1000000 in
theorem or_two (c d : Int) (B : Nat) (w : World) (hc : w.heap[B]? = some (.cells #[.int .i64 c, .int .i64 d] 3 (0, 0))) :
    Calls Tryz.prog 112 #[.slice (some ⟨B, 0, none⟩) 2 2] w fun e w' => e = .returned (.int .i64 (if c != 0 then c else d)) ∧ w = w' := by
  have e0 : w.cell? ⟨B, 0, none⟩ = some (.int .i64 c) := by rw [cell_of_row w B 0 _ 3 (0, 0) hc]; rfl
  have e1 : w.cell? ⟨B, 1, none⟩ = some (.int .i64 d) := by rw [cell_of_row w B 1 _ 3 (0, 0) hc]; rfl
  clear hc
  by_cases h : c = 0
  · subst h
    have hf := Lib.hid (show d = (if (0 : Int) != 0 then 0 else d) by simp)
    by_cases h2 : d = 0
    · subst h2
      go_enter Tryz.func112, Tryz.ntmps112
      go_wp2
      go_loopw [8] (fun q wr => ∃ k : Nat, k ≤ 2 ∧ q = .int .i64 k ∧ wr = w) (fun q _ => 2 - (intOf q).toNat)
      case atStart => exact ⟨0, by omega, rfl, rfl⟩
      case round =>
        obtain ⟨k, hk, rfl, rfl⟩ := hrel
        rcases (by omega : k = 0 ∨ k = 1 ∨ k = 2) with rfl | rfl | rfl
        · go_wp2
          go_roundw
          case rel => exact ⟨1, by omega, rfl, by first | trivial | rfl⟩
          case measure => simp [intOf]
        · go_wp2
          go_roundw
          case rel => exact ⟨2, by omega, rfl, by first | trivial | rfl⟩
          case measure => simp [intOf]
        · go_wp2
          go_ret
          exact ⟨ret_int hf.out, rfl⟩
    · have hd : (d != 0) = true := by simp [h2]
      go_enter Tryz.func112, Tryz.ntmps112
      go_wp2
      go_loopw [8] (fun q wr => ∃ k : Nat, k ≤ 1 ∧ q = .int .i64 k ∧ wr = w) (fun q _ => 2 - (intOf q).toNat)
      case atStart => exact ⟨0, by omega, rfl, rfl⟩
      case round =>
        obtain ⟨k, hk, rfl, rfl⟩ := hrel
        rcases (by omega : k = 0 ∨ k = 1) with rfl | rfl
        · go_wp2
          go_roundw
          case rel => exact ⟨1, by omega, rfl, by first | trivial | rfl⟩
          case measure => simp [intOf]
        · go_wp2
          go_ret
          exact ⟨ret_int hf.out, rfl⟩
  · have hd : (c != 0) = true := by simp [h]
    have hf := Lib.hid (show c = (if c != 0 then c else d) by rw [if_pos hd])
    go_enter Tryz.func112, Tryz.ntmps112
    go_wp2
    go_loopw [8] (fun q wr => q = .int .i64 0 ∧ wr = w) (fun q _ => 2 - (intOf q).toNat)
    case atStart => exact ⟨rfl, rfl⟩
    case round =>
      obtain ⟨rfl, rfl⟩ := hrel
      go_wp2
      go_ret
      first | exact ⟨rfl, rfl⟩ | exact ⟨ret_int hf.out, rfl⟩
set_option maxRecDepth 100000 in
set_option maxHeartbeats 2000000 in
theorem ball_cmp (x y : Int) (x1 : 0 ≤ x) (x2 : x < 256) (y1 : 0 ≤ y) (y2 : y < 256) (w : World) (hT : Tab w) :
    Calls Tryz.prog 106 #[.int .u64 x, .int .u64 y] w fun e w' => e = .returned (.int .i64 (cmI (bkI x) (bkI y))) ∧ Below w.heap.size w w' := by
  have htl := hT.lt
  have hV := Lib.hid (bc_key x1 x2 y1 y2)
  have hs1 := Lib.hid (fun W => set_size x x1 x2 W)
  have hs2 := Lib.hid (fun W => set_size y y1 y2 W)
  have hc1 := Lib.hid (fun a b W => cmp_int a b W)
  have hp1 := Lib.hid (fun W => pts_made x W)
  have hp2 := Lib.hid (fun W => pts_made y W)
  have hb1 := (Below.refl w.heap.size w).alloc (Nat.le_refl _) (.cells #[.int .u64 x] 48)
  have hk1 := Lib.hid (collect_pts w.heap.size x (w.alloc (.cells #[.int .u64 x] 48)) x1 x2 (by simp) (cell_new _ _ _) (hT.below hb1 htl))
  replace hT := Lib.hid hT
  replace hb1 := Lib.hid hb1
  go_enter Tryz.func106, Tryz.ntmps106
  go_wp2_with (first | (go_at_call 34; first | ((with_reducible refine (hs1.out _).mono ?_); rintro e w' ⟨rfl, rfl⟩) | ((with_reducible refine (hs2.out _).mono ?_); rintro e w' ⟨rfl, rfl⟩)) | (go_at_call 113; refine (hc1.out _ _ _).mono ?_; rintro e w' ⟨rfl, rfl⟩) | (go_at_call 65; (with_reducible refine (hp1.out _).mono ?_); rintro e w' ⟨rfl, rfl⟩))
  refine hk1.out.mono ?_
  rintro e w2 ⟨v2, rfl, hO2, hb2⟩
  have hz2 := hb2.size
  simp at hz2
  rw [World.size_alloc] at hO2 hb2
  have hb2' := hb1.out.trans (hb2.mono (by omega))
  have hb3 := (Below.refl w2.heap.size w2).alloc (Nat.le_refl _) (.cells #[.int .u64 y] 48)
  have hk2 := Lib.hid (collect_pts w2.heap.size y (w2.alloc (.cells #[.int .u64 y] 48)) y1 y2 (by simp) (cell_new _ _ _) ((hT.out.below hb2' htl).below hb3 (by omega)))
  obtain ⟨a2, c2, rfl⟩ := hO2.form
  replace hO2 := Lib.hid hO2
  replace hb2' := Lib.hid hb2'
  replace hb3 := Lib.hid hb3
  clear hk1 hb2
  go_wp2_with (go_at_call 65; (with_reducible refine (hp2.out _).mono ?_); rintro e w' ⟨rfl, rfl⟩)
  refine hk2.out.mono ?_
  rintro e w4 ⟨v4, rfl, hO4, hb4⟩
  have hz4 := hb4.size
  simp at hz4
  rw [World.size_alloc] at hO4 hb4
  have hO2' := hO2.out.below (hb3.out.trans (hb4.mono (by omega))) (Nat.le_refl _)
  have hlx := Lib.hid (lex_ints _ _ (ptsI x) (ptsI y) w4.heap.size w4 hO2'.own.row hO4.own.row (by have := ptsTo_len x 8; unfold ptsI; omega) (by have := ptsTo_len y 8; unfold ptsI; omega))
  have hb4' := Lib.hid (hb2'.out.trans ((hb3.out.trans (hb4.mono (by omega))).mono (by omega)))
  obtain ⟨a4, c4, rfl⟩ := hO4.form
  clear hk2 hO4 hO2' hb4
  obtain ⟨C, hC⟩ : ∃ C, cmI (cntI x) (cntI y) = C := ⟨_, rfl⟩
  obtain ⟨D, hD⟩ : ∃ D, lexI (ptsI x) (ptsI y) = D := ⟨_, rfl⟩
  have hV2 := hV.out
  unfold bcI at hV2
  rw [hC, hD] at hV2
  rw [hC]
  rw [hD] at hlx
  have hor := Lib.hid (or_two C D w4.heap.size (w4.alloc (.cells #[.int .i64 C, .int .i64 D] 3)) (heap_alloc_new w4 _))
  obtain ⟨R, hR⟩ : ∃ R, (if C != 0 then C else D) = R := ⟨_, rfl⟩
  rw [hR] at hor hV2
  replace hR := Lib.hid hR
  replace hV2 := Lib.hid hV2
  replace hC := Lib.hid hC
  replace hD := Lib.hid hD
  go_wp2_with (go_at_call 114; refine hlx.out.mono ?_; rintro e w' ⟨rfl, rfl⟩)
  refine hor.out.mono ?_
  rintro e w' ⟨rfl, rfl⟩
  go_wp2_with fail
  go_ret
  exact ⟨ret_int hV2.out, hb4'.out.alloc (by have := hb4'.out.size; omega) _⟩
end Go.Proofs.YtpjapoaagbdlfaaGreatDoor
