/- The keys of a map of sets, collected and sorted: slices.AppendSeq, slices.Collect, slices.Sorted. -/
import Derived.Test.YtcejbebepjkpnaaDoorKeys
namespace Go.Proofs.YtcejbebepjkpnaaDoor
open Go.ChangeShapes Go.WideShapes Go.ChangeAt Go.RowKit Go.Proofs Go.Shelf Go.Maps
attribute [local go_sem] Oper.semAt_some

set_option maxRecDepth 100000 in
set_option maxHeartbeats 4000000 in
theorem appseq (n : Nat) (hn : 3 ≤ n) (w : World) (v : Value) (l : List Int) (h : GivesS w v l) : CallsIn Fence.wide n Tryd.prog 83 #[.slice none 0 0, v] w (CollPost w l) := by
  obtain ⟨Bm, b, nn, D0, rfl, hBm, hm, hown, hnn, hx⟩ := h
  replace hx := Lib.hid hx
  have hsz := hown.size_le
  refine callsIn_of_wp_marks Tryd.func83 rfl trivial ?_ rfl
  simp only [Tryd.ntmps83, List.size_toArray, List.length_cons, List.length_nil, Nat.reduceAdd, Nat.reduceSub, Array.replicate_succ, Array.replicate_zero, List.push_toArray, List.append_toArray, List.nil_append, List.cons_append]
  gi_wp2
  have hW0 : Below w.heap.size w (w.alloc (.cells #[.slice none 0 0] 45)) := (Below.refl _ w).alloc (Nat.le_refl _) _
  have bO := Boxed.new w 45 (.slice none 0 0)
  obtain ⟨i0, hi, hz0, hz1, hz2⟩ := info_parts Tryd.setInfo
  refine wpIn_rangeFunc_ownG rfl (by omega) (gf := 78) (lb := #[.pointer (some ⟨Bm, 0, none⟩)]) rfl trivial (enters_of Tryd.func78 (by kernel_rfl) rfl)
    (keys_stops _ (by omega) Bm b nn D0 w hBm hm hown) walksK_t walksK_b hW0 (fun _ => rfl)
    (fun (pre : List Int) W => (∃ v, Boxed W w.heap.size 45 v ∧ W.ownsRow w.heap.size 52 1 v pre.length (pre.map (Value.int .u64)) ∧ True) ∧ Below w.heap.size w W)
    (fun _ _ _ => False)
    (OwnFrom.and (_root_.Go.Own.from (holdsRow_own w.heap.size w.heap.size 45 52 1 (fun (pre : List Int) => pre.length) (fun pre => pre.map (Value.int .u64)) (fun _ _ => True)) _) (ownFrom_below (Nat.le_refl _) (by simp)))
    (fun _ _ _ _ _ hs _ _ => hs)
    ⟨⟨_, bO, World.ownsRow_nil _ _ _ 1, trivial⟩, hW0⟩
    (fun x => { tmps := #[.slice none 0 0, .func (.func 78) #[] #[.pointer (some ⟨Bm, 0, none⟩)], .pointer (some ⟨w.heap.size, 0, none⟩), undef, .slice none 0 0, .int .u64 x, .func (.func 78) #[] #[.pointer (some ⟨Bm, 0, none⟩)], .int .u64 x, undef, undef, undef, undef, undef], defers := [] }) ?assign ?body ?done ?stop
  case assign =>
    intro l x W K hK
    gi_wp2
    exact hK
  case body =>
    rintro l pre x W ⟨⟨v, hv, hrow, -⟩, hB⟩ hlen
    have hc := hv.cell
    have hp8 : pre.length ≤ 100000 := by omega
    gi_wp2_with (gi_at_builtin; refine wpListIn_append_own _ rfl _ _ 45 rfl w.heap.size 52 i0 (.int .u64 0) 1 8 Tryd.underlying45 hi hz0 hz1 hz2 rfl (by decide) _ _ _ rfl (hrow.alloc _) ⟨W.heap.size, 0, none⟩ 1 1 [.int .u64 x] rfl rfl (cell_one_new _ _ _) (by simp [Value.oneCell']) (by unfold maxLen; omega) (by omega) (by have := hB.size; simp; omega) ?_; intro v' w1 hown' hgrow _; obtain ⟨g', cap', rfl⟩ := ownsRow_succ hown'; obtain ⟨hv1, hv2, hr2, hk2, hb2⟩ := hv.appended (by decide) hrow hB.size (Nat.le_refl _) hown' hgrow; have hc1 := hv1.cell; have hf1 := hv1.frozen)
    exact ⟨hk2.from _, hk2.walks, ⟨_, hv2, by simpa using hr2, trivial⟩, hB.trans hb2⟩
  case done =>
    rintro D ys W hD hys ⟨⟨v, hv, hrow, -⟩, hB⟩ hK
    have hc := hv.cell
    gi_wp2
    refine ⟨by simp, .inl ⟨_, _, rfl, run_takeDeferred hK, ?_⟩⟩
    have hrow' := ownsRow_putObj hrow (.deferred none) hK rfl
    refine ⟨_, results_tmp rfl _ _ _, v, ys, rfl, hrow', hys.1, fun x => ?_, hB.trans (belowK_b (w := w) (Nat.le_refl _) W D _ _ (by simp at hD; omega) hK rfl rfl)⟩
    rw [hys.2 x, hx.out x]; simp
  case stop =>
    rintro D c pre W _ _ h _
    exact h.elim
theorem collect_in (n : Nat) (hn : 4 ≤ n) (w : World) (v : Value) (l : List Int) (h : GivesS w v l) : CallsIn Fence.wide n Tryd.prog 76 #[v] w (CollPost w l) := by
  have hc := Lib.hid (appseq (n - 1) (by omega) w v l h)
  refine callsIn_of_wp Tryd.func76 rfl trivial ?_ rfl
  simp only [Tryd.ntmps76, List.size_toArray, List.length_cons, List.length_nil, Nat.reduceAdd, Nat.reduceSub, Array.replicate_succ, Array.replicate_zero, List.push_toArray, List.append_toArray, List.nil_append, List.cons_append]
  gi_wp2_with fail
  refine ⟨trivial, fun _ => by omega, hc.out.mono ?_⟩
  rintro e w' ⟨u, ss, rfl, hS, hnd, hmem, hb⟩
  gi_wp2
  go_ret
  exact ⟨_, _, rfl, hS, hnd, hmem, hb⟩
theorem collect (w : World) (v : Value) (l : List Int) (h : GivesS w v l) : Calls Tryd.prog 76 #[v] w (CollPost w l) := (callsIn_wide (n := 10)).1 (collect_in 10 (by omega) w v l h)
theorem fold_len : ∀ (xs a : List Int), xs.Nodup → (∀ x ∈ xs, x ∉ a) → (xs.foldl (fun a x => insI x a) a).length = a.length + xs.length
  | [], a, _, _ => rfl
  | x :: xs, a, hn, h => by
    rw [List.nodup_cons] at hn
    rw [List.foldl_cons, fold_len xs _ hn.2 (fun y hy hm => by
      rcases mem_insI.1 hm with rfl | hm
      · exact hn.1 hy
      · exact h y (List.mem_cons_of_mem _ hy) hm), ins_len (memB_mk0 (h x (List.mem_cons_self ..))), List.length_cons]
    omega
theorem nodup_len {ss : List Int} (hn : ss.Nodup) (h : ∀ x ∈ ss, 0 ≤ x ∧ x < 256) : ss.length ≤ 256 := by
  have h1 := fold_len ss [] hn (fun x _ => by simp)
  have h2 := asc_len256 (asc_sortL ss) (fun z hz => h z (mem_sortL.1 hz))
  unfold sortL at h2
  rw [h1] at h2
  simpa using h2
/-- what sorting a map's keys leaves. -/
def SrtdPost (w : World) (l : List Int) (e : Ending) (w' : World) : Prop := ∃ v ss, e = .returned v ∧ SetL w' w.heap.size v ss ∧ ss.Nodup ∧ (∀ x, x ∈ ss ↔ x ∈ l) ∧ Below w.heap.size w w'
theorem sorted_keys (w : World) (v : Value) (l : List Int) (h : GivesS w v l) (hl : ∀ x ∈ l, 0 ≤ x ∧ x < 256) : Calls Tryd.prog 66 #[v] w (SrtdPost w l) := by
  have hc := Lib.hid (collect w v l h)
  have hlh := Lib.hid hl
  clear hl
  obtain ⟨_, _, _, _, rfl, _⟩ := h
  go_enter Tryd.func66, Tryd.ntmps66
  go_wp2_with fail
  refine hc.out.mono ?_
  rintro e w1 ⟨u, ss, rfl, hS, hnd, hmem, hb⟩
  have hlen := nodup_len hnd (fun x hx => hlh.out x ((hmem x).1 hx))
  have hs := Lib.hid (sort_set w.heap.size u ss hlen w1 hS)
  have hlt := Lib.hid (fun g (e : u.ownBlock = some g) => (hS.lt g e).1)
  have hform := hS.form
  replace hb := Lib.hid hb
  replace hmem := Lib.hid hmem
  clear hS
  obtain ⟨a, cap, rfl⟩ := hform
  go_wp2_with fail
  refine hs.out.mono ?_
  rintro e w2 ⟨⟨u2, rfl⟩, ⟨ys, hp, hY⟩, hg⟩
  replace hY := Lib.hid hY
  replace hg := Lib.hid hg
  go_wp2_with fail
  go_ret
  refine ⟨_, ys, rfl, hY.out, hp.nodup_iff.2 hnd, fun x => (hp.mem_iff).trans (hmem.out x), ?_⟩
  exact hb.out.grown hg.out hb.out.size (fun k e => hlt.out k e)
end Go.Proofs.YtcejbebepjkpnaaDoor
