/- The exact law of the points of a set. -/
import Derived.Test.YtmaddbkpolecmaaDoorIter
import Derived.Test.YtmaddbkpolecmaaDoorLawsA
import Derived.Test.YtmaddbkpolecmaaDoorAppend
namespace Go.Proofs.YtmaddbkpolecmaaDoor
open Go.ChangeShapes Go.WideShapes Go.ChangeAt Go.RowKit Go.Shelf
attribute [local go_sem] Oper.semAt_some

theorem ptsTo_len (s : Int) : ∀ k, (ptsTo s k).length ≤ k := by
  intro k
  induction k with
  | zero => exact Nat.le_refl _
  | succ k ih => unfold ptsTo; rw [List.length_append]; split <;> simp <;> omega
theorem ptsTo_prefix (s : Int) : ∀ k j, ptsTo s k <+: ptsTo s (k + j) := by
  intro k j
  induction j with
  | zero => exact List.prefix_refl _
  | succ j ih => exact ih.trans (by show _ <+: ptsTo s (k + j) ++ _; exact List.prefix_append _ _)
theorem pts_cut : ∀ n : Fin 9, ∀ s : Fin 256, s.val < 2 ^ n.val → ptsTo s.val n.val = ptsI s.val := by decide +kernel
theorem pts_upto {n s : Int} (h : setB n s = true) : ptsTo s n.toNat = ptsI s := by
  obtain ⟨n1, n2, h1, h2⟩ := setB_yes h
  have p := pow_le256 n1 n2
  have e2 : ((s.toNat : Nat) : Int) = s := Int.toNat_of_nonneg h1
  have h := pts_cut ⟨n.toNat, by omega⟩ ⟨s.toNat, by omega⟩ (by
    have : ((s.toNat : Nat) : Int) < ((2 ^ n.toNat : Nat) : Int) := by rw [e2]; simpa using h2
    simpa using Int.ofNat_lt.1 this)
  simpa only [e2] using h

theorem sp_points_yes (n s : Int) (h : setB n s = true) (w : World) : Calls Tryd.prog 17 #[.int .i64 n, .int .i64 s] w fun e w' =>
    ∃ v, e = .returned (.tuple #[v, .bool true]) ∧ Own w' w.heap.size w'.heap.size v (ptsI s) ∧ Below w.heap.size w w' := by
  obtain ⟨n1, n2, _, _⟩ := setB_yes h
  obtain ⟨s1, s2⟩ := setB_lt h
  have h1 := Lib.hid (fun W => sp_set_in_yes n s h W)
  have hp := Lib.hid (pts_upto h)
  clear h
  go_enter Tryd.func17, Tryd.ntmps17
  go_wp2_with (first | (go_at_call 11; refine (h1.out _).mono ?_; rintro e w' ⟨rfl, rfl⟩) | go_in)
  go_loopw [6, 7] (fun v i wr => ∃ k : Nat, (k : Int) ≤ n ∧ i = .int .i64 k ∧ OwnL wr w.heap.size v (ptsTo s k) ∧ Below w.heap.size w wr) (fun _ i _ => (n - intOf i).toNat)
  case atStart => exact ⟨0, by omega, rfl, OwnL.lit w (Nat.le_refl _), (Below.refl _ _).alloc (Nat.le_refl _) _⟩
  case round =>
    obtain ⟨k, hk, rfl, hown, hbel⟩ := hrel
    have hsz := hbel.size
    have hl := ptsTo_len s k
    by_cases hlt : (k : Int) < n
    · rcases (by cases hasB s (k : Nat) <;> simp : hasB s (k : Nat) = true ∨ hasB s (k : Nat) = false) with hi | hi
      · have e1 := Lib.hid (show ptsTo s (k + 1) = ptsTo s k ++ [(k : Int)] by simp [ptsTo, hi])
        go_wp2_with (first | (go_at_call 39; refine (l1has _ _ s1 s2 (by omega) (by omega) _).mono ?_; rintro e w' ⟨rfl, rfl⟩) | (at_builtin; refine app_int rfl _ _ rfl w.heap.size _ (ptsTo s k) rfl (hown.alloc _) k wr.heap.size rfl (cell_new _ _ _) (by omega) (by simp; omega) ?_; intro v' w1 hown1 hb1))
        go_roundw
        case rel => exact ⟨k + 1, by omega, by go_num, by rw [e1.out]; exact hown1, (hbel.alloc hsz _).trans hb1⟩
        case measure => simp [intOf]; omega
      · have e1 := Lib.hid (show ptsTo s (k + 1) = ptsTo s k by simp [ptsTo, hi])
        go_wp2_with (first | (go_at_call 39; refine (l1has _ _ s1 s2 (by omega) (by omega) _).mono ?_; rintro e w' ⟨rfl, rfl⟩) | go_in)
        go_roundw
        case rel => exact ⟨k + 1, by omega, by go_num, by rw [e1.out]; exact hown, hbel⟩
        case measure => simp [intOf]; omega
    · have e : k = n.toNat := by omega
      subst e
      have hO := Lib.hid (show Own wr w.heap.size wr.heap.size _ (ptsI s) from by rw [← hp.out]; exact hown.own)
      clear hown
      go_wp2_with fail
      go_ret2
      exact ⟨_, rfl, hO.out, hbel⟩
theorem Own.nil1 {w : World} {B S : Nat} (a : Option Addr) (cap : Nat) : Own w B S (.slice a 0 cap) [] := ⟨a, cap, rfl, fun h => by simp at h⟩
theorem sp_points_no (n s : Int) (h : setB n s = false) (w : World) : Calls Tryd.prog 17 #[.int .i64 n, .int .i64 s] w fun e w' =>
    ∃ v, e = .returned (.tuple #[v, .bool false]) ∧ Own w' w.heap.size w'.heap.size v [] ∧ Below w.heap.size w w' := by
  have h1 := Lib.hid (fun W => sp_set_in_no n s h W)
  clear h
  go_enter Tryd.func17, Tryd.ntmps17
  go_wp2_with (first | (go_at_call 11; refine (h1.out _).mono ?_; rintro e w' ⟨rfl, rfl⟩) | go_in)
  go_ret2
  exact ⟨_, rfl, Own.nil1 _ _, (Below.refl _ _).alloc (Nat.le_refl _) _⟩
theorem im_points_no (n s : Int) (h : setB n s = false) (w : World) : Calls Tryd.prog 12 #[.int .i64 n, .int .i64 s] w fun e w' =>
    ∃ v, e = .returned (.tuple #[v, .bool false]) ∧ Own w' w.heap.size w'.heap.size v [] ∧ Below w.heap.size w w' := by
  have h1 := Lib.hid (fun W => set_in_no n s h W)
  clear h
  go_enter Tryd.func12, Tryd.ntmps12
  go_wp2_with (first | (go_at_call 10; refine (h1.out _).mono ?_; rintro e w' ⟨rfl, rfl⟩) | go_in)
  go_ret2
  exact ⟨_, rfl, Own.nil1 _ _, ((Below.refl _ _).alloc (Nat.le_refl _) _).alloc (by simp) _⟩

set_option maxRecDepth 100000 in
set_option maxHeartbeats 2000000 in
theorem im_points_yes (n s : Int) (h : setB n s = true) (w : World) (hT : Tab w) : Calls Tryd.prog 12 #[.int .i64 n, .int .i64 s] w fun e w' =>
    ∃ v, e = .returned (.tuple #[v, .bool true]) ∧ Own w' w.heap.size w'.heap.size v (ptsI s) ∧ Below w.heap.size w w' := by
  obtain ⟨s1, s2⟩ := setB_lt h
  have h1 := Lib.hid (fun W => set_in_yes n s h W)
  have hlt := hT.lt
  clear h
  refine (callsIn_wide (n := 10)).1 ?_
  refine callsIn_of_wp_marks Tryd.func12 rfl trivial ?_ rfl
  simp only [Tryd.ntmps12, List.size_toArray, List.length_cons, List.length_nil, Nat.reduceAdd, Nat.reduceSub, Array.replicate_succ, Array.replicate_zero, List.push_toArray, List.append_toArray, List.nil_append, List.cons_append]
  gi_wp2_with (first | (refine ⟨trivial, ?_⟩; gi_at_call 10; refine (callsIn_wide.2 (h1.out _)).mono ?_; rintro e w' ⟨rfl, rfl⟩) | (refine ⟨trivial, ?_⟩; gi_at_call 36; refine (pts_make _ _).mono ?_; rintro e w' ⟨rfl, rfl⟩))
  have hW0 : Below w.heap.size w (((w.alloc (.cells #[] 3)).alloc (.cells #[.slice (some ⟨w.heap.size, 0, none⟩) 0 0] 26)).alloc (.cells #[.int .u64 s] 45)) :=
    (((Below.refl _ w).alloc (Nat.le_refl _) _).alloc (by simp) _).alloc (by simp; omega) _
  have bO := Boxed.new (w.alloc (.cells #[] 3)) 26 (.slice (some ⟨w.heap.size, 0, none⟩) 0 0)
  rw [World.size_alloc] at bO
  have bN := Boxed.new ((w.alloc (.cells #[] 3)).alloc (.cells #[.slice (some ⟨w.heap.size, 0, none⟩) 0 0] 26)) 45 (.int .u64 s)
  rw [World.size_alloc, World.size_alloc] at bN
  obtain ⟨i0, hi, hz0, hz1, hz2⟩ := info_parts Tryd.intInfo
  refine wpIn_rangeFunc_ownG rfl (by omega) (gf := 53) (lb := #[.pointer (some ⟨w.heap.size + 1 + 1, 0, none⟩)]) rfl trivial (enters_of Tryd.func53 (by kernel_rfl) rfl)
    (pts_stops _ (by omega) (w.heap.size + 1 + 1) w.heap.size s s1 s2 _ (by simp) bN.cell (hT.below hW0 hlt) hlt) belowK_t (belowK_b (by simp; omega)) (Below.refl _ _) (fun _ => rfl)
    (fun pre W => (∃ v, Boxed W (w.heap.size + 1) 26 v ∧ W.ownsRow w.heap.size 3 1 v (vals pre).length ((vals pre).map (Value.int .i64)) ∧ True) ∧ Below w.heap.size w W)
    (fun _ _ _ => False)
    (OwnFrom.and (_root_.Go.Own.from (holdsRow_own w.heap.size (w.heap.size + 1) 26 3 1 (fun (pre : List (PtOf s)) => (vals pre).length) (fun pre => (vals pre).map (Value.int .i64)) (fun _ _ => True)) _) (ownFrom_below (Nat.le_refl _) (by simp; omega)))
    (fun _ _ _ _ _ hs _ _ => hs)
    ⟨⟨_, bO.alloc _, ((OwnL.lit w (Nat.le_refl _)).alloc _).alloc _, trivial⟩, hW0⟩
    (fun x => { tmps := #[.int .i64 n, .int .i64 s, undef, undef, .slice none 0 0, .bool false, .pointer (some ⟨w.heap.size + 1, 0, none⟩), .int .i64 x.1, .slice (some ⟨w.heap.size, 0, none⟩) 0 0, .int .i64 n, .int .i64 s, .bool true, .bool false, undef, .int .i64 s, .int .u64 s, .func (.func 53) #[] #[.pointer (some ⟨w.heap.size + 1 + 1, 0, none⟩)], .int .i64 x.1, undef, undef, undef, undef, undef], defers := [] }) ?assign ?body ?done ?stop
  case assign =>
    intro l x W K hK
    gi_wp2
    exact hK
  case body =>
    rintro l pre x W ⟨⟨v, hv, hrow, -⟩, hB⟩ hlen
    have hc := hv.cell
    have hp8 : (vals pre).length ≤ 8 := by have := ptsTo_len s 8; unfold ptsI at hlen; rw [vals_len]; omega
    gi_wp2_with (gi_at_builtin; refine wpListIn_append_own _ rfl _ _ 26 rfl w.heap.size 3 i0 (.int .i64 0) 1 8 Tryd.underlying26 hi hz0 hz1 hz2 rfl (by decide) _ _ _ rfl (hrow.alloc _) ⟨W.heap.size, 0, none⟩ 1 1 [.int .i64 x.1] rfl rfl (cell_one_new _ _ _) (by simp [Value.oneCell']) (by unfold maxLen; omega) (by omega) (by have := hB.size; simp; omega) ?_; intro v' w1 hown' hgrow _; obtain ⟨g', cap', rfl⟩ := ownsRow_succ hown'; obtain ⟨hv1, hv2, hr2, hk2, hb2⟩ := hv.appended (by decide) hrow hB.size (Nat.le_succ _) hown' hgrow; have hc1 := hv1.cell; have hf1 := hv1.frozen)
    exact ⟨hk2.from _, hb2, ⟨_, hv2, by rw [vals_snoc]; simpa using hr2, trivial⟩, hB.trans hb2⟩
  case done =>
    rintro D ys W hD hys ⟨⟨v, hv, hrow, -⟩, hB⟩ hK
    rw [hys] at hrow
    have hc := hv.cell
    gi_wp2
    refine ⟨by simp, .inl ⟨_, _, rfl, run_takeDeferred hK, ?_⟩⟩
    have hrow' : OwnL (W.putObj D (.deferred none)) w.heap.size v (ptsI s) := ownsRow_putObj hrow _ hK rfl
    exact ⟨_, results_tmp2 rfl _ _ _, v, rfl, hrow'.own, hB.trans (belowK_b (w := w) (Nat.le_refl _) W D _ _ (by simp at hD; omega) hK rfl rfl)⟩
  case stop =>
    rintro D c pre W _ _ h _
    exact h.elim
end Go.Proofs.YtmaddbkpolecmaaDoor
