/- The exact law of ranks. -/
import Derived.Test.YtmaddbkpolecmaaDoorIter
import Derived.Test.YtmaddbkpolecmaaDoorLawsD
import Derived.Test.YtmaddbkpolecmaaDoorLawsA
import Derived.Test.YtmaddbkpolecmaaDoorAppend
namespace Go.Proofs.YtmaddbkpolecmaaDoor
open Go.ChangeShapes Go.WideShapes Go.ChangeAt Go.RowKit Go.Shelf
attribute [local go_sem] Oper.semAt_some

/-- the ranks of points, added up. -/
def rkL (k : Nat) : List Int → Int
  | [] => 0
  | x :: xs => chI x (k + 1 : Nat) + rkL (k + 1) xs
theorem rkL_snoc (xs : List Int) (x : Int) : ∀ k, rkL k (xs ++ [x]) = rkL k xs + chI x (k + xs.length + 1 : Nat) := by
  induction xs with
  | nil => intro k; simp [rkL]
  | cons y ys ih =>
    intro k
    show chI y _ + rkL (k + 1) (ys ++ [x]) = _
    rw [ih (k + 1)]
    simp only [rkL, List.length_cons]
    rw [show k + 1 + ys.length + 1 = k + (ys.length + 1) + 1 by omega]
    omega
theorem rk_pts : ∀ s : Fin 256, rkL 0 (ptsI s.val) = rankI s.val := by decide +kernel
theorem rk_pts' {s : Int} (h1 : 0 ≤ s) (h2 : s < 256) : rkL 0 (ptsI s) = rankI s := all256 (P := fun s => rkL 0 (ptsI s) = rankI s) rk_pts h1 h2
theorem ptsTo_len' (s : Int) : ∀ k, (ptsTo s k).length ≤ k := by
  intro k
  induction k with
  | zero => exact Nat.le_refl _
  | succ k ih => unfold ptsTo; rw [List.length_append]; split <;> simp <;> omega

set_option maxRecDepth 100000 in
set_option maxHeartbeats 2000000 in
theorem im_rank (s : Int) (s1 : 0 ≤ s) (s2 : s < 256) (w : World) (hT : Tab w) : Calls Tryd.prog 41 #[.int .u64 s] w fun e w' => e = .returned (.int .i64 (rankI s)) ∧ Below w.heap.size w w' := by
  have hlt := hT.lt
  refine (callsIn_wide (n := 10)).1 ?_
  refine callsIn_of_wp_marks Tryd.func41 rfl trivial ?_ rfl
  simp only [Tryd.ntmps41, List.size_toArray, List.length_cons, List.length_nil, Nat.reduceAdd, Nat.reduceSub, Array.replicate_succ, Array.replicate_zero, List.push_toArray, List.append_toArray, List.nil_append, List.cons_append]
  gi_wp2_with (first | (refine ⟨trivial, ?_⟩; gi_at_call 36; refine (pts_make _ _).mono ?_; rintro e w' ⟨rfl, rfl⟩))
  have hW0 : Below w.heap.size w (((w.alloc (.cells #[.int .i64 0] 3)).alloc (.cells #[.int .i64 0] 3)).alloc (.cells #[.int .u64 s] 45)) :=
    (((Below.refl _ w).alloc (Nat.le_refl _) _).alloc (by simp) _).alloc (by simp; omega) _
  have bR := Boxed.new w 3 (.int .i64 0)
  have bJ := Boxed.new (w.alloc (.cells #[.int .i64 0] 3)) 3 (.int .i64 0)
  rw [World.size_alloc] at bJ
  have bN := Boxed.new ((w.alloc (.cells #[.int .i64 0] 3)).alloc (.cells #[.int .i64 0] 3)) 45 (.int .u64 s)
  rw [World.size_alloc, World.size_alloc] at bN
  refine wpIn_rangeFunc_ownG rfl (by omega) (gf := 53) (lb := #[.pointer (some ⟨w.heap.size + 1 + 1, 0, none⟩)]) rfl trivial (enters_of Tryd.func53 (by kernel_rfl) rfl)
    (pts_stops _ (by omega) (w.heap.size + 1 + 1) w.heap.size s s1 s2 _ (by simp) bN.cell (hT.below hW0 hlt) hlt) belowK_t (belowK_b (by simp; omega)) (Below.refl _ _) (fun _ => rfl)
    (fun pre W => ((0 ≤ rkL 0 (vals pre) ∧ rkL 0 (vals pre) ≤ 1000000000000 * (pre.length : Nat)) ∧ Boxed W w.heap.size 3 (.int .i64 (rkL 0 (vals pre))) ∧ Boxed W (w.heap.size + 1) 3 (.int .i64 (pre.length : Nat))) ∧ Below w.heap.size w W)
    (fun _ _ _ => False)
    (OwnFrom.and (OwnFrom.and (ownFrom_pure _ _) (OwnFrom.and (_root_.Go.Own.from (boxed_own _ _ (fun (pre : List (PtOf s)) => .int .i64 (rkL 0 (vals pre)))) _) (_root_.Go.Own.from (boxed_own _ _ (fun (pre : List (PtOf s)) => .int .i64 (pre.length : Nat))) _))) (ownFrom_below (Nat.le_refl _) (by simp; omega)))
    (fun _ _ _ _ _ hs _ _ => hs)
    ⟨⟨⟨by simp [rkL, vals], by simp [rkL, vals]⟩, (bR.alloc _).alloc _, bJ.alloc _⟩, hW0⟩
    (fun x => { tmps := #[.int .u64 s, undef, .int .i64 0, .pointer (some ⟨w.heap.size, 0, none⟩), .pointer (some ⟨w.heap.size + 1, 0, none⟩), .int .i64 x.1, .int .u64 s, .func (.func 53) #[] #[.pointer (some ⟨w.heap.size + 1 + 1, 0, none⟩)], .int .i64 x.1, undef, undef, undef, undef, undef, undef, undef, undef], defers := [] }) ?assign ?body ?done ?stop
  case assign =>
    intro l x W K hK
    gi_wp2
    exact hK
  case body =>
    rintro l pre ⟨x, x1, x2, x3⟩ W ⟨⟨⟨rk1, rk2⟩, hR, hJ⟩, hB⟩ hlen
    have hp8 : pre.length ≤ 7 := by have := ptsTo_len' s 8; unfold ptsI at hlen; omega
    have hd : 1 ≤ 10 - 1 - 1 := by omega
    have hmx : Tryd.prog.follows .mixedOrders = true := by kernel_rfl
    have c1 := hR.cell
    have c2 := hJ.cell
    have f1 := hR.frozen
    have f2 := hJ.frozen
    have cb := chI_bounds (n := x) (k := (pre.length : Int) + 1) (by omega) (by omega) (by omega) (by omega)
    obtain ⟨cb1, cb2⟩ := cb
    have hR1 := hR.kept (grownBy_setCell' W (w.heap.size + 1) (.int .i64 ((pre.length : Int) + 1))) (by simp)
    have hJ1 := Boxed.set (.int .i64 ((pre.length : Int) + 1)) hJ
    have c3 := hR1.cell
    have c4 := hJ1.cell
    have f3 := hR1.frozen
    have f4 := hJ1.frozen
    have hR2 := Boxed.set (.int .i64 (rkL 0 (vals pre) + chI x ((pre.length : Int) + 1))) hR1
    have hJ2 := hJ1.kept (grownBy_setCell' (W.setCell ⟨w.heap.size + 1, 0, none⟩ (.int .i64 ((pre.length : Int) + 1))) w.heap.size (.int .i64 (rkL 0 (vals pre) + chI x ((pre.length : Int) + 1)))) (by simp)
    have eS := Lib.hid (show rkL 0 (vals (pre ++ [⟨x, x1, x2, x3⟩])) = rkL 0 (vals pre) + chI x ((pre.length : Int) + 1) by rw [vals_snoc, rkL_snoc, vals_len]; simp)
    have hB1 := below_setCell hB (p := ⟨w.heap.size + 1, 0, none⟩) (Nat.le_succ _) (.int .i64 ((pre.length : Int) + 1))
    have hB2 := below_setCell hB1 (p := ⟨w.heap.size, 0, none⟩) (Nat.le_refl _) (.int .i64 (rkL 0 (vals pre) + chI x ((pre.length : Int) + 1)))
    have hB3 := below_setCell (Below.refl w.heap.size W) (p := ⟨w.heap.size + 1, 0, none⟩) (Nat.le_succ _) (.int .i64 ((pre.length : Int) + 1))
    have hB4 := below_setCell hB3 (p := ⟨w.heap.size, 0, none⟩) (Nat.le_refl _) (.int .i64 (rkL 0 (vals pre) + chI x ((pre.length : Int) + 1)))
    have hR2 := Lib.hid hR2
    have hJ2 := Lib.hid hJ2
    clear hR hJ hR1 hJ1
    gi_wp2
    gi_region_with_o (refine ⟨trivial, ?_⟩; gi_at_call 44; refine (CallsIn.inRound l (callsIn_wide.2 (choose_in _ _ (by omega) (by omega) (by omega) (by omega) _))).mono ?_; rintro e w' ⟨rfl, rfl⟩)
    all_goals gi_wp2
    all_goals (try go_bits)
    all_goals exact ⟨((KeepsOthers.setCell _ _ _).trans ((KeepsOthers.setCell _ _ _).trans (KeepsOthers.drew _))).from _, hB4.drew, ⟨⟨by rw [eS.out]; omega, by rw [eS.out, List.length_append]; simp; omega⟩, by rw [eS.out]; exact hR2.out, by rw [List.length_append]; exact hJ2.out⟩, hB2.drew⟩
  case done =>
    rintro D ys W hD hys ⟨⟨_, hR, _⟩, hB⟩ hK
    rw [hys, rk_pts' s1 s2] at hR
    have hc := hR.cell
    gi_wp2
    refine ⟨by simp, .inl ⟨_, _, rfl, run_takeDeferred hK, ?_⟩⟩
    exact ⟨_, results_tmp rfl _ _ _, rfl, hB.trans (belowK_b (w := w) (Nat.le_refl _) W D _ _ (by simp at hD; omega) hK rfl rfl)⟩
  case stop =>
    rintro D c pre W _ _ h _
    exact h.elim

theorem im_SetRank_yes (n s : Int) (h : setB n s = true) (w : World) (hT : Tab w) : Calls Tryd.prog 21 #[.int .i64 n, .int .i64 s] w fun e w' => e = .returned (.tuple #[.int .i64 (rankI s), .bool true]) ∧ Below w.heap.size w w' := by
  obtain ⟨s1, s2⟩ := setB_lt h
  have h1 := Lib.hid (fun W => set_in_yes n s h W)
  have h2 := Lib.hid (im_rank s s1 s2 w hT)
  clear h
  go_enter Tryd.func21, Tryd.ntmps21
  go_wp2_with (first | (go_at_call 10; refine (h1.out _).mono ?_; rintro e w' ⟨rfl, rfl⟩) | (go_at_call 41; refine (h2.out).mono ?_; rintro e w' ⟨rfl, hb⟩))
  go_ret2
  exact ⟨rfl, hb⟩
theorem im_SetRank_no (n s : Int) (h : setB n s = false) (w : World) : Calls Tryd.prog 21 #[.int .i64 n, .int .i64 s] w fun e w' => e = .returned (.tuple #[.int .i64 0, .bool false]) ∧ Below w.heap.size w w' := by
  have h1 := Lib.hid (fun W => set_in_no n s h W)
  clear h
  go_enter Tryd.func21, Tryd.ntmps21
  go_wp2_with (first | (go_at_call 10; refine (h1.out _).mono ?_; rintro e w' ⟨rfl, rfl⟩) | go_in)
  go_ret2
  exact ⟨rfl, Below.refl _ _⟩
theorem sp_SetRank_yes (n s : Int) (h : setB n s = true) (w : World) : Calls Tryd.prog 22 #[.int .i64 n, .int .i64 s] w fun e w' => e = .returned (.tuple #[.int .i64 (rankI s), .bool true]) ∧ w = w' := by
  obtain ⟨s1, s2⟩ := setB_lt h
  have h1 := Lib.hid (fun W => sp_set_in_yes n s h W)
  clear h
  go_enter Tryd.func22, Tryd.ntmps22
  go_wp2_with (first | (go_at_call 11; refine (h1.out _).mono ?_; rintro e w' ⟨rfl, rfl⟩) | (go_at_call 42; refine (l1rank _ s1 s2 _).mono ?_; rintro e w' ⟨rfl, rfl⟩) | go_in)
  go_ret2
  exact ⟨rfl, rfl⟩
theorem sp_SetRank_no (n s : Int) (h : setB n s = false) (w : World) : Calls Tryd.prog 22 #[.int .i64 n, .int .i64 s] w fun e w' => e = .returned (.tuple #[.int .i64 0, .bool false]) ∧ w = w' := by
  have h1 := Lib.hid (fun W => sp_set_in_no n s h W)
  clear h
  go_enter Tryd.func22, Tryd.ntmps22
  go_wp2_with (first | (go_at_call 11; refine (h1.out _).mono ?_; rintro e w' ⟨rfl, rfl⟩) | go_in)
  go_ret2
  exact ⟨rfl, rfl⟩
end Go.Proofs.YtmaddbkpolecmaaDoor
