/- Texts merged: XKeys XKeys2 XShm XDefs XShm2 XShm3 XShm4 XShm5. -/
import Derived.Test.YtpjapoaagbdlfaaGreatDoorAllSrt
import Derived.Test.YtpjapoaagbdlfaaGreatDoorIter
import Derived.Sort.MapsRangeIn
import Derived.Sort.KeysCollected
import Derived.RangeFuncSeq
import Derived.Maps.Own
import Derived.Maps.OwnIn
import Derived.Maps.OwnSet
import Derived.Maps.Views
import Derived.Test.YtpjapoaagbdlfaaGreatDoorFams3
import Derived.Test.YtpjapoaagbdlfaaGreatDoorBits
import Derived.Test.YtpjapoaagbdlfaaGreatDoorLawsB
import Derived.Test.YtpjapoaagbdlfaaGreatDoorFams8
namespace Go.Proofs.YtpjapoaagbdlfaaGreatDoor
section
/- The keys of a map of sets: maps.Keys, slices.Collect, slices.Sorted. -/
open Go.ChangeShapes Go.WideShapes Go.ChangeAt Go.RowKit Go.Proofs Go.Shelf Go.Maps
attribute [local go_sem] Oper.semAt_some

noncomputable abbrev R0 : Value → Option (DataW Unit × List MemPlace) := plainElem Tryz.prog 4
theorem keyedU : Keyed Tryz.prog 48 := int_keyed Tryz.underlying48
/-- block b holds a map whose keys are the sets of l. -/
def MapS (w : World) (b n : Nat) (l : List Int) : Prop := ∃ D, w.ownsMap Tryz.prog 48 R0 b n D ∧ ∀ x, has D (.int .u64 x) = decide (x ∈ l)
def CollU (D0 : DataW Unit) (left : Lit → Bool) (ss : List Int) : Prop := ss.Nodup ∧ ∀ x, x ∈ ss ↔ (has D0 (.int .u64 x) = true ∧ left (.int .u64 x) = false)
theorem CollU.start (D0 : DataW Unit) : CollU D0 (has D0) [] := ⟨List.nodup_nil, fun x => by cases has D0 (.int .u64 x) <;> simp⟩
theorem CollU.step {D0 : DataW Unit} {left : Lit → Bool} {ss : List Int} (h : CollU D0 left ss) {x : Int} {y : DataW Unit} (hlk : left (.int .u64 x) = true) (hat : ∀ zd, D0.atKey (.int .u64 x) zd = y) : CollU D0 (fun z => left z && !z.sameKey (.int .u64 x)) (ss ++ [x]) := by
  have hhas : has D0 (.int .u64 x) = true := has_true_of_atKey hat
  have hnew : x ∉ ss := fun hx => by have := ((h.2 x).1 hx).2; rw [hlk] at this; cases this
  refine ⟨List.nodup_append.2 ⟨h.1, by simp, fun a ha b hb => by simp at hb; subst hb; exact fun e => hnew (e ▸ ha)⟩, fun y => ?_⟩
  by_cases hy : y = x
  · subst hy; simp [hhas, Lit.sameKey]
  · simp [h.2 y, hy, Lit.sameKey]

set_option maxRecDepth 100000 in
set_option maxHeartbeats 2000000 in
theorem keys_in1 (n : Nat) (hn : 1 ≤ n) (l Bm b nn : Nat) (D0 : DataW Unit) (J Jx : List Int → World → Prop)
    (hY : ∀ pre x W, J pre W → pre.length < Maps.size D0 → YieldAt Fence.wide (n - 1) Tryz.prog l #[.int .u64 x] W fun e W' =>
      (e = .returned (.bool true) ∧ J (pre ++ [x]) W' ∧ KeepsWalks W W') ∨ (e = .returned (.bool false) ∧ Jx (pre ++ [x]) W'))
    (W : World) (hJ : AbidesFrom W.heap.size J) (hm : W.cell? ⟨Bm, 0, none⟩ = some (.map (some b))) (hown : W.ownsMap Tryz.prog 48 R0 b nn D0) (h0 : J [] W) :
    CallsIn Fence.wide n Tryz.prog 104 #[.func (.yield l) #[] #[], .pointer (some ⟨Bm, 0, none⟩)] W fun e W' => (∃ v, e = .returned v) ∧
      ((∃ ss : List Int, (ss.Nodup ∧ ∀ x, x ∈ ss ↔ has D0 (.int .u64 x) = true) ∧ J ss W') ∨ (∃ pre : List Int, True ∧ Jx pre W')) := by
  refine callsIn_of_wp Tryz.func104 rfl trivial ?_ rfl
  simp only [Tryz.ntmps104, List.size_toArray, List.length_cons, List.length_nil, Nat.reduceAdd, Nat.reduceSub, Array.replicate_succ, Array.replicate_zero, List.push_toArray, List.append_toArray, List.nil_append, List.cons_append]
  gi_wp2_with (first
    | (gi_at_range; refine wpListIn_range_own _ rfl _ 57 rfl 48 4 keyedU Tryz.underlying57 _ b nn _ rfl hown ?_; intro w0 hrg0 hg0 hs0)
    | gi_in)
  go_frame
  gi_loopw [3] (fun _ wr => ∃ (left : Lit → Bool) (cnt : Nat) (ss : List Int), wr.ranges Tryz.prog 48 R0 b W.heap.size nn D0 left cnt ∧ ss.length + cnt ≤ Maps.size D0 ∧ CollU D0 left ss ∧ J ss wr)
    (fun _ wr => wr.rangeLeft b W.heap.size)
  case atStart =>
    exact ⟨_, _, [], hrg0, by simp, CollU.start D0, hJ [] W w0 none h0 hg0 (fun r e => by cases e)⟩
  case round =>
    obtain ⟨left, cnt, ss, hrg, hcs, hC, hJs⟩ := hrel
    gi_wp2_with (first
      | (gi_at_next; refine wpListIn_next_ranges _ rfl _ rfl 48 keyedU R0 (Value.int .u64) id (fun key kl hk => by obtain ⟨x, hx, _⟩ := Maps.keyOf_int_inv Tryz.underlying48 hk; exact ⟨x, hx⟩) (fun v _ _ => ⟨v, rfl⟩) b W.heap.size nn _ _ _ rfl hrg ?_ ?_)
      | gi_in)
    · intro hc0 hl0
      gi_wp2
      go_end0
      exact ⟨⟨_, rfl⟩, .inl ⟨ss, ⟨hC.1, fun x => by rw [hC.2 x, hl0]; simp⟩, hJs⟩⟩
    · intro x c kl yd yp w2 cnt2 hkey hlk hv hat hrg2 hlt hg2 hs2 hen
      obtain ⟨x', ex, rfl, _⟩ := Maps.keyOf_int_inv Tryz.underlying48 hkey
      obtain rfl : x = x' := by simpa using ex
      have hJ2 : J ss w2 := hJ ss wr w2 (some W.heap.size) hJs hg2 (fun r e => by cases e; exact ⟨Nat.le_refl _, hrg.iter_walk⟩)
      obtain ⟨fn, tmps, assign, body, hy, hR⟩ := hY ss x w2 hJ2 (by omega)
      clear hs2
      gi_wp2
      refine hR.mono ?_
      have hC2 := hC.step hlk hat
      rintro e W3 (⟨rfl, hJ3, hk3⟩ | ⟨rfl, hJx3⟩)
      · gi_wp2
        have hrg3 := hrg2.of_walks hk3
        go_roundw
        case rel => exact ⟨_, cnt2, ss ++ [x], hrg3, by simp; omega, hC2, hJ3⟩
        case measure => rw [hrg3.left_eq, hrg.left_eq]; exact hlt
      · gi_wp2
        refine bodyPost_ret (results_none rfl _ _ _) rfl ?_
        exact ⟨⟨_, rfl⟩, .inr ⟨ss ++ [x], trivial, hJx3⟩⟩
theorem keys_stops (n : Nat) (hn : 1 ≤ n) (Bm b nn : Nat) (D0 : DataW Unit) (w : World) (hBm : Bm < w.heap.size) (hm : w.cell? ⟨Bm, 0, none⟩ = some (.map (some b))) (hown : w.ownsMap Tryz.prog 48 R0 b nn D0) :
    SeqStopsK Fence.wide n Tryz.prog 104 #[.pointer (some ⟨Bm, 0, none⟩)] (fun x : Int => #[Value.int .u64 x]) KeepsWalks (fun ss => ss.Nodup ∧ ∀ x, x ∈ ss ↔ has D0 (.int .u64 x) = true) (fun _ => True) (Maps.size D0) w := fun l J Jx W hW hJ _ hY h0 => by
  have hown' : W.ownsMap Tryz.prog 48 R0 b nn D0 := by
    have hbl := hown.lt
    obtain ⟨es, clock, hb, Ft, hs, hD⟩ := hown
    exact ⟨es, clock, (hW.block b hbl).trans hb, Ft, hs, hD⟩
  exact keys_in1 n hn l Bm b nn D0 J Jx hY W hJ ((hW.cell (p := ⟨Bm, 0, none⟩) hBm).trans hm) hown' h0
/-- an iterator's value that gives the sets of l, each once. -/
def GivesS (w : World) (v : Value) (l : List Int) : Prop := ∃ Bm b nn D, v = .func (.func 104) #[] #[.pointer (some ⟨Bm, 0, none⟩)] ∧ Bm < w.heap.size ∧ w.cell? ⟨Bm, 0, none⟩ = some (.map (some b)) ∧ w.ownsMap Tryz.prog 48 R0 b nn D ∧ nn ≤ 100000 ∧ ∀ x, has D (.int .u64 x) = decide (x ∈ l)
theorem keys_of (b nn : Nat) (l : List Int) (w : World) (h : MapS w b nn l) (hn : nn ≤ 100000) : Calls Tryz.prog 93 #[.map (some b)] w fun e w' => ∃ v, e = .returned v ∧ GivesS w' v l ∧ w' = w.alloc (.cells #[.map (some b)] 57) := by
  replace h := Lib.hid h
  go_enter Tryz.func93, Tryz.ntmps93
  go_wp2_with fail
  go_ret
  obtain ⟨D, hD, hx⟩ := h.out
  exact ⟨_, rfl, ⟨w.heap.size, b, nn, D, rfl, by simp, cell_new _ _ _, hD.alloc _, hn, hx⟩, rfl⟩
/-- what collecting leaves. -/
def CollPost (w : World) (l : List Int) (e : Ending) (w' : World) : Prop := ∃ v ss, e = .returned v ∧ SetL w' w.heap.size v ss ∧ ss.Nodup ∧ (∀ x, x ∈ ss ↔ x ∈ l) ∧ Below w.heap.size w w'

end
section
/- The keys of a map of sets, collected and sorted: slices.AppendSeq, slices.Collect, slices.Sorted. -/
open Go.ChangeShapes Go.WideShapes Go.ChangeAt Go.RowKit Go.Proofs Go.Shelf Go.Maps
attribute [local go_sem] Oper.semAt_some

set_option maxRecDepth 100000 in
set_option maxHeartbeats 4000000 in
theorem appseq (n : Nat) (hn : 3 ≤ n) (w : World) (v : Value) (l : List Int) (h : GivesS w v l) : CallsIn Fence.wide n Tryz.prog 109 #[.slice none 0 0, v] w (CollPost w l) := by
  obtain ⟨Bm, b, nn, D0, rfl, hBm, hm, hown, hnn, hx⟩ := h
  replace hx := Lib.hid hx
  have hsz := hown.size_le
  refine callsIn_of_wp_marks Tryz.func109 rfl trivial ?_ rfl
  simp only [Tryz.ntmps109, List.size_toArray, List.length_cons, List.length_nil, Nat.reduceAdd, Nat.reduceSub, Array.replicate_succ, Array.replicate_zero, List.push_toArray, List.append_toArray, List.nil_append, List.cons_append]
  gi_wp2
  have hW0 : Below w.heap.size w (w.alloc (.cells #[.slice none 0 0] 41)) := (Below.refl _ w).alloc (Nat.le_refl _) _
  have bO := Boxed.new w 41 (.slice none 0 0)
  obtain ⟨i0, hi, hz0, hz1, hz2⟩ := info_parts Tryz.setInfo
  refine wpIn_rangeFunc_ownG rfl (by omega) (gf := 104) (lb := #[.pointer (some ⟨Bm, 0, none⟩)]) rfl trivial (enters_of Tryz.func104 (by kernel_rfl) rfl)
    (keys_stops _ (by omega) Bm b nn D0 w hBm hm hown) walksK_t walksK_b hW0 (fun _ => rfl)
    (fun (pre : List Int) W => (∃ v, Boxed W w.heap.size 41 v ∧ W.ownsRow w.heap.size 48 1 v pre.length (pre.map (Value.int .u64)) ∧ True) ∧ Below w.heap.size w W)
    (fun _ _ _ => False)
    (OwnFrom.and (_root_.Go.Own.from (holdsRow_own w.heap.size w.heap.size 41 48 1 (fun (pre : List Int) => pre.length) (fun pre => pre.map (Value.int .u64)) (fun _ _ => True)) _) (ownFrom_below (Nat.le_refl _) (by simp)))
    (fun _ _ _ _ _ hs _ _ => hs)
    ⟨⟨_, bO, World.ownsRow_nil _ _ _ 1, trivial⟩, hW0⟩
    (fun x => { tmps := #[.slice none 0 0, .func (.func 104) #[] #[.pointer (some ⟨Bm, 0, none⟩)], .pointer (some ⟨w.heap.size, 0, none⟩), undef, .slice none 0 0, .int .u64 x, .func (.func 104) #[] #[.pointer (some ⟨Bm, 0, none⟩)], .int .u64 x, undef, undef, undef, undef, undef], defers := [] }) ?assign ?body ?done ?stop
  case assign =>
    intro l x W K hK
    gi_wp2
    exact hK
  case body =>
    rintro l pre x W ⟨⟨v, hv, hrow, -⟩, hB⟩ hlen
    have hc := hv.cell
    have hp8 : pre.length ≤ 100000 := by omega
    gi_wp2_with (gi_at_builtin; refine wpListIn_append_own _ rfl _ _ 41 rfl w.heap.size 48 i0 (.int .u64 0) 1 8 Tryz.underlying41 hi hz0 hz1 hz2 rfl (by decide) _ _ _ rfl (hrow.alloc _) ⟨W.heap.size, 0, none⟩ 1 1 [.int .u64 x] rfl rfl (cell_one_new _ _ _) (by simp [Value.oneCell']) (by unfold maxLen; omega) (by omega) (by have := hB.size; simp; omega) ?_; intro v' w1 hown' hgrow _; obtain ⟨g', cap', rfl⟩ := ownsRow_succ hown'; obtain ⟨hv1, hv2, hr2, hk2, hb2⟩ := hv.appended (by decide) hrow hB.size (Nat.le_refl _) hown' hgrow; have hc1 := hv1.cell; have hf1 := hv1.frozen)
    exact ⟨hk2.from _, hk2.walks, ⟨_, hv2, by simpa using hr2, trivial⟩, hB.trans hb2⟩
  case done =>
    rintro D ys W hD hys ⟨⟨v, hv, hrow, -⟩, hB⟩ hK
    have hc := hv.cell
    gi_wp2
    refine ⟨by simp, .inl ⟨_, _, rfl, run_takeDeferred hK, ?_⟩⟩
    have hrow' := ownsRow_putObj hrow (.deferred none) hK rfl
    refine ⟨_, results_tmp rfl _ _ _, v, ys, rfl, hrow', hys.1, fun x => ?_, hB.trans (belowK_b (w := w) (Nat.le_refl _) W D _ _ (by simp at hD; omega) hK rfl rfl)⟩
    rw [hys.2 x, hx.out x]; simp
  case stop =>
    rintro D c pre W _ _ h _
    exact h.elim
theorem collect_in (n : Nat) (hn : 4 ≤ n) (w : World) (v : Value) (l : List Int) (h : GivesS w v l) : CallsIn Fence.wide n Tryz.prog 102 #[v] w (CollPost w l) := by
  have hc := Lib.hid (appseq (n - 1) (by omega) w v l h)
  refine callsIn_of_wp Tryz.func102 rfl trivial ?_ rfl
  simp only [Tryz.ntmps102, List.size_toArray, List.length_cons, List.length_nil, Nat.reduceAdd, Nat.reduceSub, Array.replicate_succ, Array.replicate_zero, List.push_toArray, List.append_toArray, List.nil_append, List.cons_append]
  gi_wp2_with fail
  refine ⟨trivial, fun _ => by omega, hc.out.mono ?_⟩
  rintro e w' ⟨u, ss, rfl, hS, hnd, hmem, hb⟩
  gi_wp2
  go_ret
  exact ⟨_, _, rfl, hS, hnd, hmem, hb⟩
theorem collect (w : World) (v : Value) (l : List Int) (h : GivesS w v l) : Calls Tryz.prog 102 #[v] w (CollPost w l) := (callsIn_wide (n := 10)).1 (collect_in 10 (by omega) w v l h)
theorem fold_len : ∀ (xs a : List Int), xs.Nodup → (∀ x ∈ xs, x ∉ a) → (xs.foldl (fun a x => insI x a) a).length = a.length + xs.length
  | [], a, _, _ => rfl
  | x :: xs, a, hn, h => by
    rw [List.nodup_cons] at hn
    rw [List.foldl_cons, fold_len xs _ hn.2 (fun y hy hm => by
      rcases mem_insI.1 hm with rfl | hm
      · exact hn.1 hy
      · exact h y (List.mem_cons_of_mem _ hy) hm), ins_len (memB_mk0 (h x (List.mem_cons_self ..))), List.length_cons]
    omega
theorem nodup_len {ss : List Int} (hn : ss.Nodup) (h : ∀ x ∈ ss, 0 ≤ x ∧ x < 256) : ss.length ≤ 256 := by
  have h1 := fold_len ss [] hn (fun x _ => by simp)
  have h2 := asc_len256 (asc_sortL ss) (fun z hz => h z (mem_sortL.1 hz))
  unfold sortL at h2
  rw [h1] at h2
  simpa using h2
/-- what sorting a map's keys leaves. -/
def SrtdPost (w : World) (l : List Int) (e : Ending) (w' : World) : Prop := ∃ v ss, e = .returned v ∧ SetL w' w.heap.size v ss ∧ ss.Nodup ∧ (∀ x, x ∈ ss ↔ x ∈ l) ∧ Below w.heap.size w w'
theorem sorted_keys (w : World) (v : Value) (l : List Int) (h : GivesS w v l) (hl : ∀ x ∈ l, 0 ≤ x ∧ x < 256) : Calls Tryz.prog 92 #[v] w (SrtdPost w l) := by
  have hc := Lib.hid (collect w v l h)
  have hlh := Lib.hid hl
  clear hl
  obtain ⟨_, _, _, _, rfl, _⟩ := h
  go_enter Tryz.func92, Tryz.ntmps92
  go_wp2_with fail
  refine hc.out.mono ?_
  rintro e w1 ⟨u, ss, rfl, hS, hnd, hmem, hb⟩
  have hlen := nodup_len hnd (fun x hx => hlh.out x ((hmem x).1 hx))
  have hs := Lib.hid (sort_set w.heap.size u ss hlen w1 hS)
  have hlt := Lib.hid (fun g (e : u.ownBlock = some g) => (hS.lt g e).1)
  have hform := hS.form
  replace hb := Lib.hid hb
  replace hmem := Lib.hid hmem
  clear hS
  obtain ⟨a, cap, rfl⟩ := hform
  go_wp2_with fail
  refine hs.out.mono ?_
  rintro e w2 ⟨⟨u2, rfl⟩, ⟨ys, hp, hY⟩, hg⟩
  replace hY := Lib.hid hY
  replace hg := Lib.hid hg
  go_wp2_with fail
  go_ret
  refine ⟨_, ys, rfl, hY.out, hp.nodup_iff.2 hnd, fun x => (hp.mem_iff).trans (hmem.out x), ?_⟩
  exact hb.out.grown hg.out hb.out.size (fun k e => hlt.out k e)

end
section
/- A map of sets: cleared, put to, made a family: shadow.family. -/
open Go.ChangeShapes Go.WideShapes Go.ChangeAt Go.RowKit Go.Proofs Go.Shelf Go.Maps
attribute [local go_sem] Oper.semAt_some

theorem MapS.lt {w : World} {b n : Nat} {l : List Int} (h : MapS w b n l) : b < w.heap.size := by obtain ⟨D, hD, _⟩ := h; exact hD.lt
theorem MapS.kept {w w' : World} {b n : Nat} {l : List Int} {row : Option Nat} (h : MapS w b n l) (hg : w.grownBy w' row) (hne : some b ≠ row) : MapS w' b n l := by
  obtain ⟨D, hD, hx⟩ := h; exact ⟨D, hD.kept hg hne, hx⟩
theorem MapS.alloc {w : World} {b n : Nat} {l : List Int} (h : MapS w b n l) (o : Obj) : MapS (w.alloc o) b n l := by
  obtain ⟨D, hD, hx⟩ := h; exact ⟨D, hD.alloc o, hx⟩
theorem MapS.drewN {w : World} {b n : Nat} {l : List Int} (h : MapS w b n l) (k : Nat) : MapS (w.drewN k) b n l := h
theorem MapS.below {w w' : World} {b n B : Nat} {l : List Int} (h : MapS w b n l) (hb : Below B w w') (hB : w.heap.size ≤ B) : MapS w' b n l := by
  obtain ⟨D, hD, hx⟩ := h
  have hbl := hD.lt
  obtain ⟨es, clock, hb', Ft, hs, hD'⟩ := hD
  exact ⟨D, ⟨es, clock, (hb.block b (by omega)).trans hb', Ft, hs, hD'⟩, hx⟩
theorem MapS.made (w : World) : MapS (w.alloc (.map #[] 0)) w.heap.size 0 [] := ⟨_, World.ownsMap_made w _ _ _, fun x => by simp [has_eq]⟩
theorem MapS.congr {w : World} {b n : Nat} {l l' : List Int} (h : MapS w b n l) (hl : ∀ x, x ∈ l ↔ x ∈ l') : MapS w b n l' := by
  obtain ⟨D, hD, hx⟩ := h; exact ⟨D, hD, fun x => by rw [hx x]; simp [hl x]⟩
theorem MapS.clear {w : World} {b n : Nat} {l : List Int} (h : MapS w b n l) (ty : TypeId) : ∃ w', (Builtin.clear_ #[57] ty #[.map (some b)]).run Tryz.prog w = .ok (.tuple #[]) w' ∧ MapS w' b 0 [] ∧ w.grownBy w' (some b) := by
  obtain ⟨D, ⟨es, clock, hb, Ft, hs, hD⟩, hx⟩ := h
  refine ⟨Go.ChangeMaps.setBlock w b (.map #[] clock), ?_, ⟨_, ⟨#[], clock, Go.ChangeMaps.heap_setBlock_same hb _, ⟨by simp, MapKept.stamped_empty clock, by simp⟩, Nat.le_refl _, rfl⟩, fun x => by simp [has_eq]⟩, ⟨rfl, rfl, rfl, by simp [Go.ChangeMaps.setBlock], fun i _ hi => Go.ChangeMaps.heap_setBlock_other hb _ (fun e => hi (by rw [e]))⟩⟩
  simp [Builtin.clear_, run_underlying Tryz.underlying57, MapKept.run_getObj_map hb, MapKept.run_setObj_map _ hb, Result.andThen, Go.ChangeMaps.setBlock]
theorem isMap_own {w : World} {b n : Nat} {D : DataW Unit} (h : w.ownsMap Tryz.prog 48 R0 b n D) : IsMap D := by
  obtain ⟨es, clock, hb, Ft, hs, hD⟩ := h
  subst hD; exact ⟨_, rfl⟩
theorem MapS.put {D : DataW Unit} {w w' : World} {b n : Nat} {l : List Int} (h : w.ownsMap Tryz.prog 48 R0 b n D) (hx : ∀ x, has D (.int .u64 x) = decide (x ∈ l)) (z : Int) (d : DataW Unit)
    (h' : w'.ownsMap Tryz.prog 48 R0 b (n + 1) (D.put (.int .u64 z) d)) : MapS w' b (n + 1) (l ++ [z]) := by
  refine ⟨_, h', fun x => ?_⟩
  by_cases e : x = z
  · subst e; rw [has_put_same (isMap_own h) (show WideAt.IsKeyLit (.int .u64 x) from trivial)]; simp
  · rw [has_put_other (by simpa using e), hx x]; simp [e]
theorem take_in256 {ss l : List Int} (h : ∀ x, x ∈ ss ↔ x ∈ l) (hl : ∀ x ∈ l, 0 ≤ x ∧ x < 256) (k : Nat) : (sortL (ss.take k)).length ≤ 1000 := by
  have := asc_len256 (asc_sortL (ss.take k)) (fun z hz => hl z ((h z).1 (List.mem_of_mem_take (mem_sortL.1 hz))))
  omega
theorem sortL_mem {xs ys : List Int} (h : ∀ z, z ∈ xs ↔ z ∈ ys) : sortL xs = sortL ys := sortL_eq (asc_sortL ys) (fun z => by rw [mem_sortL]; exact h z)
set_option maxHeartbeats 1000000 in
theorem shadow_family (b nn : Nat) (l : List Int) (w : World) (h : MapS w b nn l) (hn : nn ≤ 100000) (hl : ∀ x ∈ l, 0 ≤ x ∧ x < 256) : Calls Tryz.prog 67 #[.map (some b)] w (FamPost w (sortL l)) := by
  have hk := Lib.hid (keys_of b nn l _ (h.alloc (.cells #[.slice none 0 0, .nilFunc] 44)) hn)
  have hlh := Lib.hid hl
  clear h hl
  go_enter Tryz.func67, Tryz.ntmps67
  go_wp2_with fail
  refine hk.out.mono ?_
  rintro e w1 ⟨v, rfl, hG, rfl⟩
  have hs := Lib.hid (sorted_keys _ v l hG hlh.out)
  obtain ⟨_, _, _, _, rfl, _⟩ := hG
  go_wp2_with fail
  refine hs.out.mono ?_
  rintro e w2 ⟨u, ss, rfl, hS, hnd, hmem, hb⟩
  simp only [World.size_alloc] at hS hb
  have hlen := nodup_len hnd (fun x hx => hlh.out x ((hmem x).1 hx))
  have hf := family_of u ss _ _ hS.row (Nat.le_refl _) (fun k _ => take_in256 hmem hlh.out k) (by omega)
  rw [sortL_mem hmem] at hf
  replace hf := Lib.hid hf
  obtain ⟨a, c, rfl⟩ := hS.form
  clear hS
  have hz := hb.size
  go_wp2_with fail
  refine hf.out.mono ?_
  rintro e w3 ⟨v, rfl, hS3, hb3⟩
  obtain ⟨a', c', rfl⟩ := hS3.form
  obtain ⟨d0, d1, df0, df1⟩ := res_cells (W1 := w3) (new_cell w _ _) ((((Below.refl (w.heap.size + 1) _).alloc (by simp) _).trans (hb.mono (by first | omega | simp))).trans (hb3.mono (by first | omega | (simp at hz; omega))))
  have rr := two_cells (.slice a' (sortL l).length c') (Value.func (.func 57) #[] #[]) d0 d1
  have hbb := ((((Below.refl w.heap.size w).alloc (Nat.le_refl _) _).alloc (by simp) _).trans (hb.mono (by first | omega | (simp; omega)))).trans (hb3.mono (by first | omega | (simp at hz; omega)))
  have hff := Lib.hid (fam_fin (hS3.mono (B' := w.heap.size + 1) (by first | omega | (simp at hz; omega))) hbb (Nat.le_refl _))
  clear hS3 hb3 hb hbb
  go_wp2_with fail
  exact bodyPost_ret (v := .agg #[.slice a' (sortL l).length c', (Value.func (.func 57) #[] #[])]) (by simp [results, Tryz.results67, go_sem, rr.1, rr.2]) rfl ⟨_, rfl, hff.out⟩

end
section
/- The marks that ended ranges over a function leave among the deferred calls (as in XDeg2; for seats without the degrees). -/
open Go.ChangeShapes Go.WideShapes Go.ChangeAt Go.RowKit Go.Shelf
attribute [local go_sem] Oper.semAt_some

theorem ptsTo_len (s : Int) : ∀ k, (ptsTo s k).length ≤ k := by
  intro k
  induction k with
  | zero => simp [ptsTo]
  | succ k ih => unfold ptsTo; rw [List.length_append]; split <;> simp <;> omega
/-- the marks of the loops that have ended, each still open, the latest first. -/
def DefsOK (B : Nat) : List Deferred → Nat → World → Prop
  | [], _, _ => True
  | d :: ds, T, W => ∃ D, d = { target := .collected D, args := #[] } ∧ B ≤ D ∧ D < T ∧ W.heap[D]? = some (.deferred (some [])) ∧ DefsOK B ds D W
theorem DefsOK.mono {B : Nat} {ds : List Deferred} {T T' : Nat} {W : World} (h : DefsOK B ds T W) (hT : T ≤ T') : DefsOK B ds T' W := by
  cases ds with
  | nil => trivial
  | cons d ds => obtain ⟨D, h1, h2, h3, h4, h5⟩ := h; exact ⟨D, h1, h2, by omega, h4, h5⟩
theorem DefsOK.keep {B : Nat} {W W' : World} : ∀ {ds : List Deferred} {T : Nat}, DefsOK B ds T W → (∀ D, D < T → W.heap[D]? = some (.deferred (some [])) → W'.heap[D]? = some (.deferred (some []))) → DefsOK B ds T W' := by
  intro ds
  induction ds with
  | nil => intro T _ _; trivial
  | cons d ds ih =>
    intro T h hk
    obtain ⟨D, h1, h2, h3, h4, h5⟩ := h
    exact ⟨D, h1, h2, h3, hk D h3 h4, ih h5 (fun D' hD' => hk D' (by omega))⟩
theorem DefsOK.alloc {B : Nat} {ds : List Deferred} {T : Nat} {W : World} (h : DefsOK B ds T W) (o : Obj) : DefsOK B ds T (W.alloc o) := h.keep fun D _ e => by
  have := (Array.getElem?_eq_some_iff.1 e).1
  exact ((World.grownBy_alloc W o none).block D this (by simp)).trans e
theorem DefsOK.setCell {B : Nat} {ds : List Deferred} {T : Nat} {W : World} {b N : Nat} {t : TypeId} {f : Nat → Value} (h : DefsOK B ds T W) (hr : W.rowIs b t N f) (i : Nat) (v : Value) : DefsOK B ds T (W.setCell ⟨b, i, none⟩ v) := h.keep fun D _ e => by
  by_cases hb : D = b
  · subst hb
    obtain ⟨c, hc, _⟩ := hr
    rw [hc] at e
    cases e
  · rw [Below.heap_setCell _ _ _ _ hb]; exact e
theorem defs_own {β : Type} (B : Nat) (ds : List Deferred) (T B' : Nat) (hT : T ≤ B') : OwnFrom B' (fun (_ : β) W => DefsOK B ds T W) := fun _ W W' row hs hg hr => hs.keep fun D hD e =>
  (hg.block D (Array.getElem?_eq_some_iff.1 e).1 (fun x => by have := (hr D x.symm).1; omega)).trans e
theorem leaves_all {F : Fence} {n : Nat} {P : Program} {fn : Func} {tmps : Array Value} {R : Ending → World → Prop} {B : Nat} (C : World → Prop) (hC : ∀ W D, C W → B ≤ D → W.heap[D]? = some (.deferred (some [])) → C (W.putObj D (.deferred none)))
    (hend : ∀ W, C W → LeavesInM F n P fn tmps R [] .returning W) : ∀ (ds : List Deferred) (T : Nat) (W : World), DefsOK B ds T W → C W → LeavesInM F n P fn tmps R ds .returning W := by
  intro ds
  induction ds with
  | nil => intro T W _ h; exact hend W h
  | cons d ds ih =>
    intro T W h hc
    obtain ⟨D, rfl, h2, h3, h4, h5⟩ := h
    refine ⟨by simp, .inl ⟨D, _, rfl, run_takeDeferred h4, ih D _ (h5.keep fun D' hD' e => ?_) (hC W D hc h2 h4)⟩⟩
    rw [World.putObj_heap_other (by omega)]; exact e

end
section
/- Shadows: shadow.below. -/
open Go.ChangeShapes Go.WideShapes Go.ChangeAt Go.RowKit Go.Proofs Go.Shelf Go.Maps
attribute [local go_sem] Oper.semAt_some

theorem wpListIn_clear {F : Fence} {nF : Nat} {ops : Array Oper} {rest : List Oper} {o : Oper} {a : Act} {Q : Exit → Act → World → Prop} (w : World) (hg : o.guard = none) (m : Operand) (hop : o.op = Op.call { callee := Callee.builtin Builtin.clear, args := #[m], argTypes := #[57] })
    (b n : Nat) (l : List Int) (hm : a.eval m = .map (some b)) (hown : MapS w b n l)
    (hK : ∀ w', MapS w' b 0 [] → w.grownBy w' (some b) → wpListIn F nF Tryz.prog ops Q rest (a.put o.dst (.tuple #[])) w') :
    wpListIn F nF Tryz.prog ops Q (o :: rest) a w := by
  refine wpListIn_plain hg fun K' hK' => ?_
  obtain ⟨w', hrun, r1, r2⟩ := hown.clear o.type
  unfold Oper.wpIn
  refine ⟨by simp [Oper.about, hop, resolve, Target.leads, Sem.run_pure], ?_⟩
  rw [Oper.semAt_plain F _ _ (by rw [hop]; intro c hc'; cases hc')]
  simp [execOp, hop, resolve, invoke, builtin, hm, hrun, Result.andThen]
  exact hK' _ _ (hK w' r1 r2)
theorem SRow.grown {w w' : World} {S b n : Nat} {lv : Value} {xs l : List Int} (hx : SRow w S lv xs) (hg : w.grownBy w' (some b)) (hm : MapS w b n l) (hS : S ≤ w.heap.size) : SRow w' S lv xs := by
  obtain ⟨a, cap, rfl, ha⟩ := hx
  refine ⟨a, cap, rfl, fun h0 => ?_⟩
  obtain ⟨b1, o1, rfl, s1, c1⟩ := ha h0
  refine ⟨b1, o1, rfl, s1, fun i hi => ?_⟩
  rw [← c1 i hi]
  have hne : b1 ≠ b := by
    intro e
    subst e
    obtain ⟨D, ⟨es, clock, hb, _⟩, _⟩ := hm
    have := c1 i hi
    simp [World.cell?, hb] at this
  simp only [World.cell?]
  rw [hg.block b1 (by omega) (by simpa using hne)]
/-- the sets with one point less. -/
def dnL (xs : List Int) : List Int := xs.flatMap fun x => (ptsI x).map fun p => lessI x p
theorem dnL_step {xs : List Int} {k : Nat} (hk : k < xs.length) {x : Int} (hx : xs.getD k 0 = x) : dnL (xs.take (k + 1)) = dnL (xs.take k) ++ (ptsI x).map fun p => lessI x p := by
  unfold dnL; rw [take_snoc hk, hx, List.flatMap_append]; simp
theorem less_in : ∀ s : Fin 256, ∀ p : Fin 8, 0 ≤ lessI s.val p.val ∧ lessI s.val p.val < 256 := by decide +kernel
/-- what a shadow leaves. -/
def ShaPost (w : World) (b : Nat) (ys : List Int) (e : Ending) (w' : World) : Prop := ∃ v, e = .returned (.agg #[v, (Value.func (.func 57) #[] #[])]) ∧ SetL w' w.heap.size v ys ∧ w.grownBy w' (some b) ∧ ∃ n' l', MapS w' b n' l'
/-- between two puts: of the world w nothing has turned but block b, a map of the sets l; the call's own boxes. -/
def ShW (w : World) (b : Nat) (l : List Int) (m : Nat) (W : World) : Prop := w.grownBy W (some b) ∧ W.heap[w.heap.size]? = some (.cells #[.map (some b)] 57 (0, 0)) ∧ W.heap[w.heap.size + 1 + 1]? = some (.cells #[.slice none 0 0, .nilFunc] 44 (0, 0)) ∧ ∃ nn, nn ≤ m ∧ MapS W b nn l
theorem ShW.own {β : Type} (w : World) (b : Nat) (f : β → List Int) (g : β → Nat) (B' : Nat) (hb : b < w.heap.size) (hB : w.heap.size ≤ B') : OwnFrom B' (fun s W => ShW w b (f s) (g s) W) := by
  rintro s W W' row ⟨h1, h2, h3, nn, h4, h5⟩ hg hr
  have hne : ∀ (k : Nat) cs t z, W.heap[k]? = some (.cells cs t z) → some k ≠ row := fun k cs t z hk e => by
    obtain ⟨_, o, ho, hc⟩ := hr k e.symm
    rw [hk] at ho; cases ho; cases hc
  refine ⟨⟨hg.os.trans h1.os, hg.tape.trans h1.tape, hg.output.trans h1.output, Nat.le_trans h1.size hg.size, fun k hk hkb => ?_⟩, ?_, ?_, nn, h4, h5.kept hg (fun e => by have := (hr b e.symm).1; omega)⟩
  · rw [hg.block k (Nat.lt_of_lt_of_le hk h1.size) (fun e => by have := (hr k e.symm).1; omega)]
    exact h1.block k hk hkb
  · rw [hg.block _ (Array.getElem?_eq_some_iff.1 h2).1 (hne _ _ _ _ h2)]; exact h2
  · rw [hg.block _ (Array.getElem?_eq_some_iff.1 h3).1 (hne _ _ _ _ h3)]; exact h3
theorem ShW.alloc {w : World} {b : Nat} {l : List Int} {m : Nat} {W : World} (h : ShW w b l m W) (o : Obj) : ShW w b l m (W.alloc o) := by
  obtain ⟨h1, h2, h3, nn, h4, h5⟩ := h
  have e2 := (Array.getElem?_eq_some_iff.1 h2).1
  have e3 := (Array.getElem?_eq_some_iff.1 h3).1
  refine ⟨⟨h1.os, h1.tape, h1.output, by have := h1.size; simp; omega, fun k hk hkb => ?_⟩, ?_, ?_, nn, h4, h5.alloc o⟩
  · rw [Below.heap_alloc _ _ _ (by have := h1.size; omega)]; exact h1.block k hk hkb
  · rw [Below.heap_alloc _ _ _ e2]; exact h2
  · rw [Below.heap_alloc _ _ _ e3]; exact h3
theorem ShW.drew {w : World} {b : Nat} {l : List Int} {m : Nat} {W : World} (h : ShW w b l m W) : ShW w b l m W.drew := by
  obtain ⟨h1, h2, h3, nn, h4, h5⟩ := h
  exact ⟨⟨h1.os, h1.tape, h1.output, h1.size, h1.block⟩, h2, h3, nn, h4, h5⟩
theorem DefsOK.drew {B : Nat} {ds : List Deferred} {T : Nat} {W : World} (h : DefsOK B ds T W) : DefsOK B ds T W.drew := h.keep fun _ _ e => e
theorem ShW.store {w : World} {b : Nat} {l : List Int} {m : Nat} {W : World} (h : ShW w b l m W) (p : Addr) (v : Value) (hb : b < w.heap.size) (hp : w.heap.size + 1 + 1 < p.block) : ShW w b l m (W.setCell p v) := by
  obtain ⟨h1, h2, h3, nn, h4, D, ⟨es, clock, hb', Ft, hs, hD⟩, hx⟩ := h
  refine ⟨⟨h1.os, h1.tape, h1.output, by simpa [World.setCell] using h1.size, fun k hk hkb => ?_⟩, ?_, ?_, nn, h4, D, ⟨es, clock, ?_, Ft, hs, hD⟩, hx⟩
  · rw [Below.heap_setCell _ _ _ _ (by omega)]; exact h1.block k hk hkb
  · rw [Below.heap_setCell _ _ _ _ (by omega)]; exact h2
  · rw [Below.heap_setCell _ _ _ _ (by omega)]; exact h3
  · rw [Below.heap_setCell _ _ _ _ (by omega)]; exact hb'
theorem ShW.below {w : World} {b : Nat} {l : List Int} {m B : Nat} {W : World} (h : ShW w b l m W) (hB : B ≤ b) (hb : b < w.heap.size) : Below B w W := (Below.refl B w).grown h.1 (by omega) (fun k e => by cases e; exact hB)
theorem ShW.put {w : World} {b : Nat} {l : List Int} {m : Nat} {W : World} (h : ShW w b l m W) (hb : b < w.heap.size) (hm : m ≤ 100000) (z : Int) (hz : (Lit.int .u64 z).wf = true) :
    ∃ w1, (Instr.mapUpdate 57 (.map (some b)) (.int .u64 z) (.bool true)).run Tryz.prog W.drew = .ok () w1 ∧ W.grownBy w1 (some b) ∧ ShW w b (l ++ [z]) (m + 1) w1 := by
  obtain ⟨h1, h2, h3, nn, h4, D, hD, hx⟩ := h
  obtain ⟨w1, hrun, ho, hg⟩ := World.ownsMap.update hD.drew keyedU Tryz.underlying57 (by unfold maxLen; omega) (Maps.keyOf_int_mk Tryz.underlying48 hz) (plainElem_bool (H := Unit) (P := Tryz.prog) (e := 4) Tryz.underlying4 true)
  have hg' : W.grownBy w1 (some b) := ⟨hg.os, hg.tape, hg.output, hg.size, hg.block⟩
  refine ⟨w1, hrun, hg', ⟨hg'.os.trans h1.os, hg'.tape.trans h1.tape, hg'.output.trans h1.output, Nat.le_trans h1.size hg'.size, fun k hk hkb => ?_⟩, ?_, ?_, nn + 1, by omega, MapS.put hD hx z _ ho⟩
  · rw [hg'.block k (Nat.lt_of_lt_of_le hk h1.size) hkb]; exact h1.block k hk hkb
  · rw [hg'.block _ (Array.getElem?_eq_some_iff.1 h2).1 (by simp; omega)]; exact h2
  · rw [hg'.block _ (Array.getElem?_eq_some_iff.1 h3).1 (by simp; omega)]; exact h3
theorem less_wf {x p : Int} (x1 : 0 ≤ x) (x2 : x < 256) (p1 : 0 ≤ p) (p2 : p ≤ 7) : 0 ≤ lessI x p ∧ lessI x p < 256 ∧ (Lit.int .u64 (lessI x p)).wf = true := by
  have h := less_in ⟨x.toNat, by omega⟩ ⟨p.toNat, by omega⟩
  have e1 : ((x.toNat : Nat) : Int) = x := Int.toNat_of_nonneg x1
  have e2 : ((p.toNat : Nat) : Int) = p := Int.toNat_of_nonneg p1
  simp only [e1, e2] at h
  refine ⟨h.1, h.2, ?_⟩
  have m1 : IntKind.u64.min = 0 := by decide +kernel
  have m2 : IntKind.u64.max = 18446744073709551615 := by decide +kernel
  simp only [Lit.wf, m1, m2, Bool.and_eq_true, decide_eq_true_eq]
  omega
/-- at the end: the family lies in the result's cells. -/
def ShE (w : World) (b : Nat) (ys : List Int) (v : Value) (W : World) : Prop := SetL W w.heap.size v ys ∧ W.heap[w.heap.size + 1 + 1]? = some (.cells #[v, (Value.func (.func 57) #[] #[])] 44 (0, 0)) ∧ w.grownBy W (some b) ∧ ∃ n' l', MapS W b n' l'
theorem MapS.putObj {w : World} {b n : Nat} {l : List Int} (h : MapS w b n l) (D : Nat) (o : Obj) (hD : D ≠ b) : MapS (w.putObj D o) b n l := by
  obtain ⟨D0, ⟨es, clock, hb, Ft, hs, hD'⟩, hx⟩ := h
  exact ⟨D0, ⟨es, clock, by rw [World.putObj_heap_other (fun e => hD e.symm)]; exact hb, Ft, hs, hD'⟩, hx⟩
theorem MapS.ne {w : World} {b n D : Nat} {l : List Int} {ls : Option (List Deferred)} (h : MapS w b n l) (hD : w.heap[D]? = some (.deferred ls)) : D ≠ b := by
  obtain ⟨D0, ⟨es, clock, hb, _⟩, _⟩ := h
  rintro rfl
  rw [hb] at hD; cases hD
theorem ShE.mk {w : World} {b : Nat} {l ys : List Int} {m : Nat} {wr w2 : World} {v : Value} (hb : b < w.heap.size) (hW : ShW w b l m wr) (h2 : Below wr.heap.size wr w2) (hS : SetL w2 wr.heap.size v ys) :
    ShE w b ys v ((w2.setCell ⟨w.heap.size + 1 + 1, 0, none⟩ v).setCell ⟨w.heap.size + 1 + 1, 1, none⟩ (Value.func (.func 57) #[] #[])) := by
  obtain ⟨h1, h3, h4, nn, h5, D, ⟨es, clock, hb', Ft, hs, hD⟩, hx⟩ := hW
  have hlt : w.heap.size + 1 + 1 < wr.heap.size := (Array.getElem?_eq_some_iff.1 h4).1
  have h4' : w2.heap[w.heap.size + 1 + 1]? = some (.cells #[.slice none 0 0, .nilFunc] 44 (0, 0)) := (h2.block _ hlt).trans h4
  have s1 := heap_setCell_same w2 (w.heap.size + 1 + 1) 0 #[.slice none 0 0, .nilFunc] 44 v h4'
  have s2 := heap_setCell_same _ (w.heap.size + 1 + 1) 1 _ 44 (Value.func (.func 57) #[] #[]) s1
  refine ⟨((hS.store _ _ (by intro e; have := hS.lt _ e; dsimp only at this; omega)).store _ _ (by intro e; have := hS.lt _ e; dsimp only at this; omega)).mono h1.size, s2, ?_, nn, l, D, ⟨es, clock, ?_, Ft, hs, hD⟩, hx⟩
  · refine ⟨h2.os.trans h1.os, h2.tape.trans h1.tape, h2.output.trans h1.output, by have := h2.size; have := h1.size; simp [World.setCell]; omega, fun k hk hne => ?_⟩
    rw [Below.heap_setCell _ _ _ _ (show k ≠ w.heap.size + 1 + 1 by omega), Below.heap_setCell _ _ _ _ (show k ≠ w.heap.size + 1 + 1 by omega), h2.block k (by have := h1.size; omega)]
    exact h1.block k hk hne
  · rw [Below.heap_setCell _ _ _ _ (show b ≠ w.heap.size + 1 + 1 by omega), Below.heap_setCell _ _ _ _ (show b ≠ w.heap.size + 1 + 1 by omega), h2.block b (by have := h1.size; omega)]
    exact hb'
theorem ShE.putObj {w : World} {b : Nat} {ys : List Int} {v : Value} {W : World} (h : ShE w b ys v W) (D : Nat) (hD : w.heap.size ≤ D) (hd : W.heap[D]? = some (.deferred (some []))) : ShE w b ys v (W.putObj D (.deferred none)) := by
  obtain ⟨hS, hc, hg, n', l', hm⟩ := h
  refine ⟨ownsRow_putObj hS _ hd rfl, ?_, ⟨hg.os, hg.tape, hg.output, by have := hg.size; simp [World.putObj]; omega, fun k hk hne => ?_⟩, n', l', hm.putObj D _ (hm.ne hd)⟩
  · rw [World.putObj_heap_other (fun e => by rw [← e, hc] at hd; cases hd)]; exact hc
  · rw [World.putObj_heap_other (by omega)]; exact hg.block k hk hne
theorem dnL_in {xs : List Int} (h : ∀ x ∈ xs, 0 ≤ x ∧ x < 256) : ∀ z ∈ dnL xs, 0 ≤ z ∧ z < 256 := by
  intro z hz
  obtain ⟨x, hx, hz⟩ := List.mem_flatMap.1 hz
  obtain ⟨p, hp, rfl⟩ := List.mem_map.1 hz
  obtain ⟨x1, x2⟩ := h x hx
  obtain ⟨p1, p2, _⟩ := mem_pts x1 x2 hp
  obtain ⟨l1, l2, _⟩ := less_wf x1 x2 p1 p2
  exact ⟨l1, l2⟩

end
section
/- Shadows: shadow.below, the program. -/
open Go.ChangeShapes Go.WideShapes Go.ChangeAt Go.RowKit Go.Proofs Go.Shelf Go.Maps
attribute [local go_sem] Oper.semAt_some

set_option maxRecDepth 100000 in
set_option maxHeartbeats 8000000 in
theorem sha_below (b nn B S : Nat) (l : List Int) (lv : Value) (xs : List Int) (w : World) (h : MapS w b nn l) (hB : B ≤ b) (htB : 1 < B) (hT : Tab w) (hx : SRow w S lv xs) (hS : S ≤ w.heap.size) (hlen : xs.length ≤ 256) (hlt : ∀ x ∈ xs, 0 ≤ x ∧ x < 256) :
    Calls Tryz.prog 36 #[.map (some b), .agg #[lv, (Value.func (.func 57) #[] #[])]] w (ShaPost w b (sortL (dnL xs))) := by
  have hbl := h.lt
  obtain ⟨la, lc, rfl, _⟩ := id hx
  obtain ⟨wc, hrun, hm0, hg0⟩ := MapS.clear (((h.alloc (.cells #[.map (some b)] 57)).alloc (.cells #[.slice la xs.length lc, (Value.func (.func 57) #[] #[])] 44)).alloc (.cells #[.slice none 0 0, .nilFunc] 44)) 0
  have hgw : w.grownBy wc (some b) := ⟨hg0.os, hg0.tape, hg0.output, by have := hg0.size; simp at this; omega, fun k hk hne => by
    rw [hg0.block k (by simp; omega) hne, Below.heap_alloc _ _ _ (by simp; omega), Below.heap_alloc _ _ _ (by simp; omega), Below.heap_alloc _ _ _ (by omega)]⟩
  have hb0 : wc.heap[w.heap.size]? = some (.cells #[.map (some b)] 57 (0, 0)) := by
    rw [hg0.block _ (by simp; omega) (by simp; omega), Below.heap_alloc _ _ _ (by simp; omega), Below.heap_alloc _ _ _ (by simp)]
    exact heap_alloc_new w _
  have hb1 : wc.heap[w.heap.size + 1]? = some (.cells #[.slice la xs.length lc, (Value.func (.func 57) #[] #[])] 44 (0, 0)) := by
    rw [hg0.block _ (by simp) (by simp; omega), Below.heap_alloc _ _ _ (by simp)]
    have := heap_alloc_new (w.alloc (.cells #[.map (some b)] 57)) (.cells #[.slice la xs.length lc, (Value.func (.func 57) #[] #[])] 44)
    simpa using this
  have hb2 : wc.heap[w.heap.size + 1 + 1]? = some (.cells #[.slice none 0 0, .nilFunc] 44 (0, 0)) := by
    rw [hg0.block _ (by simp) (by simp; omega)]
    have := heap_alloc_new ((w.alloc (.cells #[.map (some b)] 57)).alloc (.cells #[.slice la xs.length lc, (Value.func (.func 57) #[] #[])] 44)) (.cells #[.slice none 0 0, .nilFunc] 44)
    simpa using this
  have hsz : w.heap.size + 1 + 1 < wc.heap.size := (Array.getElem?_eq_some_iff.1 hb2).1
  have e10 : wc.cell? ⟨w.heap.size + 1, 0, none⟩ = some (.slice la xs.length lc) := by rw [cell_of_row wc _ 0 _ 44 (0, 0) hb1]; rfl
  have hW0 := Lib.hid (show ShW w b [] 0 wc from ⟨hgw, hb0, hb2, 0, Nat.le_refl _, hm0⟩)
  replace hT := Lib.hid hT
  replace hlt := Lib.hid hlt
  replace h := Lib.hid h
  replace hx := Lib.hid hx
  clear hg0 hb1 hb0 hb2 hgw hm0
  refine (callsIn_wide (n := 10)).1 ?_
  refine callsIn_of_wp_marks Tryz.func36 rfl trivial ?_ rfl
  simp only [Tryz.ntmps36, List.size_toArray, List.length_cons, List.length_nil, Nat.reduceAdd, Nat.reduceSub, Array.replicate_succ, Array.replicate_zero, List.push_toArray, List.append_toArray, List.nil_append, List.cons_append]
  gi_wp2_with fail
  clear hrun e10
  refine wpIn_loop (fun a9 wr => ∃ u6 u7 u12 u13 u14 u15 u16 u17 u18 u19 u20 u21 u22 u23 : Value, ∃ ds : List Deferred, (∃ k : Nat, k ≤ xs.length ∧ u12 = .int .i64 k ∧ Hid (ShW w b (dnL (xs.take k)) (8 * k) wr) ∧ Hid (DefsOK w.heap.size ds wr.heap.size wr)) ∧ a9 = { tmps := #[.map (some b), .agg #[.slice la xs.length lc, (Value.func (.func 57) #[] #[])], .pointer (some ⟨w.heap.size, 0, none⟩), .pointer (some ⟨w.heap.size + 1, 0, none⟩), .pointer (some ⟨w.heap.size + 1 + 1, 0, none⟩), undef, u6, u7, .map (some b), .pointer (some ⟨w.heap.size + 1, 0, none⟩), .slice la xs.length lc, .int .i64 (xs.length : Nat), u12, u13, u14, u15, u16, u17, u18, u19, u20, u21, u22, u23, undef, undef], defers := ds }) (fun a9 _ => xs.length - (intOf (a9.tmps.getD 12 undef)).toNat) ?atStart ?round
  case atStart =>
    exact ⟨_, _, _, _, _, _, _, _, _, _, _, _, _, _, [], ⟨0, by omega, rfl, Lib.hid (by simpa [dnL] using hW0.out), Lib.hid trivial⟩, rfl⟩
  case round =>
    rintro a9 wr ⟨u6, u7, u12, u13, u14, u15, u16, u17, u18, u19, u20, u21, u22, u23, ds, ⟨k, hk, rfl, hW, hds⟩, rfl⟩
    dsimp only
    have hz := hW.out.1.size
    have hz2 : w.heap.size + 1 + 1 < wr.heap.size := (Array.getElem?_eq_some_iff.1 hW.out.2.2.1).1
    by_cases hk2 : k < xs.length
    · obtain ⟨a2, c2, e2, hcell⟩ := hx.out.grown hW.out.1 h.out hS
      injection e2 with e3 e4 e5
      subst e3 e5
      obtain ⟨b1, o1, rfl, s1, c1⟩ := hcell (by omega)
      have k1 : (0 : Int) ≤ (k : Int) := by omega
      have k2 : (k : Int) < (xs.length : Nat) := by omega
      have e1 : wr.cell? ⟨b1, o1 + k, none⟩ = some (.int .u64 (xs.getD k 0)) := c1 k hk2
      obtain ⟨x, hx0⟩ : ∃ x, xs.getD k 0 = x := ⟨_, rfl⟩
      have hmx : x ∈ xs := by rw [← hx0]; exact getD_mem hk2
      rw [hx0] at e1
      obtain ⟨x1, x2⟩ := hlt.out x hmx
      have hstep := Lib.hid (dnL_step hk2 hx0)
      replace hx0 := Lib.hid hx0
      replace hmx := Lib.hid hmx
      clear c1 hcell
      gi_wp2_with (refine ⟨trivial, ?_⟩; gi_at_call 65; refine (pts_make _ _).mono ?_; rintro e w' ⟨rfl, rfl⟩)
      have hW1 := (hW.out.alloc (.cells #[.int .u64 x] 48)).alloc (.cells #[.int .u64 x] 48)
      have bS := (Boxed.new wr 48 (.int .u64 x)).alloc (.cells #[.int .u64 x] 48)
      have bN := Boxed.new (wr.alloc (.cells #[.int .u64 x] 48)) 48 (.int .u64 x)
      rw [World.size_alloc] at bN
      have hT1 : Tab ((wr.alloc (.cells #[.int .u64 x] 48)).alloc (.cells #[.int .u64 x] 48)) := hT.out.below (hW1.below hB hbl) htB
      have hds1 : DefsOK w.heap.size ds wr.heap.size ((wr.alloc (.cells #[.int .u64 x] 48)).alloc (.cells #[.int .u64 x] 48)) := (hds.out.alloc _).alloc _
      refine wpIn_rangeFunc_ownG rfl (by omega) (gf := 90) (lb := #[.pointer (some ⟨wr.heap.size + 1, 0, none⟩)]) rfl trivial (enters_of Tryz.func90 (by kernel_rfl) rfl)
        (pts_stops _ (by omega) (wr.heap.size + 1) B x x1 x2 _ (by simp) bN.cell hT1 htB) belowK_t (belowK_b (by simp; omega)) (Below.refl _ _) (fun _ => rfl)
        (fun (pre : List (PtOf x)) W => (Boxed W wr.heap.size 48 (.int .u64 x) ∧ ShW w b (dnL (xs.take k) ++ (vals pre).map (fun p => lessI x p)) (8 * k + pre.length) W) ∧ DefsOK w.heap.size ds wr.heap.size W)
        (fun _ _ _ => False)
        (OwnFrom.and (OwnFrom.and (_root_.Go.Own.from (boxed_own _ _ (fun _ => .int .u64 x)) _) (ShW.own w b (fun (pre : List (PtOf x)) => dnL (xs.take k) ++ (vals pre).map (fun p => lessI x p)) (fun pre => 8 * k + pre.length) _ hbl (by simp; omega))) (defs_own _ _ _ _ (by simp; omega)))
        (fun _ _ _ _ _ hs _ _ => hs)
        ⟨⟨bS, by simpa [vals] using hW1⟩, hds1⟩
        (fun p => { tmps := #[.map (some b), .agg #[.slice (some ⟨b1, o1, none⟩) xs.length lc, (Value.func (.func 57) #[] #[])], .pointer (some ⟨w.heap.size, 0, none⟩), .pointer (some ⟨w.heap.size + 1, 0, none⟩), .pointer (some ⟨w.heap.size + 1 + 1, 0, none⟩), undef, .pointer (some ⟨wr.heap.size, 0, none⟩), .int .i64 p.1, .map (some b), .pointer (some ⟨w.heap.size + 1, 0, none⟩), .slice (some ⟨b1, o1, none⟩) xs.length lc, .int .i64 (xs.length : Nat), .int .i64 (k : Nat), .bool true, .pointer (some ⟨b1, o1 + k, none⟩), .int .u64 x, .int .u64 x, .func (.func 90) #[] #[.pointer (some ⟨wr.heap.size + 1, 0, none⟩)], .int .i64 p.1, u19, u20, u21, u22, u23, undef, undef], defers := [] }) ?assign ?body ?done ?stop
      case assign =>
        intro l p W K hK
        gi_wp2
        exact hK
      case body =>
        rintro l pre ⟨p, p1, p2, p3⟩ W ⟨⟨hbx, hSW⟩, hdf⟩ hlen2
        have hp8 : pre.length ≤ 8 := by have := ptsTo_len x 8; unfold ptsI at hlen2; omega
        obtain ⟨l1, l2, lwf⟩ := less_wf x1 x2 p1 p2
        have hbm : b < W.heap.size := Nat.lt_of_lt_of_le hbl hSW.1.size
        obtain ⟨w1, hrun, hgr, hS1⟩ := hSW.put hbl (by omega) _ lwf
        have c1 : W.cell? ⟨w.heap.size, 0, none⟩ = some (.map (some b)) := by rw [cell_of_row W _ 0 _ 57 (0, 0) hSW.2.1]; rfl
        have c2 := hbx.cell
        have hwo := Lib.hid (set_without x p x1 x2 p1 p2)
        have hbx1 := Lib.hid (hbx.kept hgr (by simp; omega))
        have hdf1 := Lib.hid (hdf.keep (W' := w1) (fun D hD e => (hgr.block D (Array.getElem?_eq_some_iff.1 e).1 (by
          intro e'
          obtain ⟨_, _, _, _, _, _, ⟨es, clock, hbb, _⟩, _⟩ := hSW
          injection e' with e'
          subst e'
          rw [hbb] at e; cases e)).trans e))
        have hS2 := Lib.hid (show ShW w b (dnL (xs.take k) ++ (vals (pre ++ [⟨p, p1, p2, p3⟩])).map (fun p => lessI x p)) (8 * k + (pre ++ [(⟨p, p1, p2, p3⟩ : PtOf x)]).length) w1 by
          rw [vals_snoc, List.map_append, ← List.append_assoc, List.length_append]; exact hS1)
        have hKF := Lib.hid (KeepsFrom.of_grownBy (B := ((wr.alloc (.cells #[.int .u64 x] 48)).alloc (.cells #[.int .u64 x] 48)).heap.size) hgr (fun j e => by cases e; simp; omega))
        have hKB := Lib.hid ((Below.refl B W).grown hgr (by omega) (fun j e => by cases e; exact hB))
        have hmx : Tryz.prog.follows .mixedOrders = true := by kernel_rfl
        clear hSW hbx hdf hgr hS1 hlen2
        gi_wp2
        gi_region_with_o (refine ⟨trivial, ?_⟩; gi_at_call 66; refine (CallsIn.inRound l (callsIn_wide.2 (hwo.out _))).mono ?_; rintro e w' ⟨rfl, rfl⟩)
        all_goals exact ⟨hKF.out, hKB.out, ⟨⟨hbx1.out, hS2.out⟩, hdf1.out⟩⟩
      case done =>
        rintro D ys W hD hys ⟨⟨hbx, hSW⟩, hdf⟩ hK
        rw [hys, ← hstep.out] at hSW
        have hyl : ys.length ≤ 8 := by have h1 := congrArg List.length hys; rw [vals_len] at h1; have := ptsTo_len x 8; unfold ptsI at h1; omega
        gi_wp2
        simp at hD
        have hDl := (Array.getElem?_eq_some_iff.1 hK).1
        obtain ⟨q1, q2, q3, nn', q4, q5⟩ := hSW
        refine ⟨⟨_, _, _, _, _, _, _, _, _, _, _, _, _, _, { target := .collected D, args := #[] } :: ds, ⟨k + 1, by omega, by go_num, Lib.hid ⟨q1, q2, q3, nn', by omega, q5⟩, Lib.hid ⟨D, rfl, by omega, hDl, hK, hdf.mono (by omega)⟩⟩, rfl⟩, ?_⟩
        simp [intOf]; omega
      case stop =>
        rintro D c pre W _ _ h _
        exact h.elim
    · obtain rfl : k = xs.length := by omega
      have hW2 := hW.out
      rw [List.take_length] at hW2
      have c1 : wr.cell? ⟨w.heap.size, 0, none⟩ = some (.map (some b)) := by rw [cell_of_row wr _ 0 _ 57 (0, 0) hW2.2.1]; rfl
      obtain ⟨nn', hn1, hm1⟩ := hW2.2.2.2
      have hfm := Lib.hid (shadow_family b nn' (dnL xs) wr hm1 (by omega) (dnL_in hlt.out))
      replace hW2 := Lib.hid hW2
      clear hW hm1
      gi_wp2_with fail
      refine ⟨trivial, ?_⟩
      gi_at_call 67
      refine (callsIn_wide.2 hfm.out).mono ?_
      rintro e w2 ⟨v, rfl, hS2, hb2⟩
      have hE := Lib.hid (ShE.mk hbl hW2.out hb2 hS2)
      obtain ⟨a3, c3, rfl⟩ := hS2.form
      have hr : w2.heap[w.heap.size + 1 + 1]? = some (.cells #[.slice none 0 0, .nilFunc] 44 (0, 0)) := (hb2.block _ hz2).trans hW2.out.2.2.1
      have d0 : w2.cell? ⟨w.heap.size + 1 + 1, 0, none⟩ = some (.slice none 0 0) := by rw [cell_of_row w2 _ 0 _ 44 (0, 0) hr]; rfl
      have d1 : w2.cell? ⟨w.heap.size + 1 + 1, 1, none⟩ = some .nilFunc := by rw [cell_of_row w2 _ 1 _ 44 (0, 0) hr]; rfl
      have df0 : w2.frozen? ⟨w.heap.size + 1 + 1, 0, none⟩ = false := frozen_of hr _
      have df1 : w2.frozen? ⟨w.heap.size + 1 + 1, 1, none⟩ = false := frozen_of hr _
      have hds2 := Lib.hid (hds.out.keep (W' := (w2.setCell ⟨w.heap.size + 1 + 1, 0, none⟩ (.slice a3 (sortL (dnL xs)).length c3)).setCell ⟨w.heap.size + 1 + 1, 1, none⟩ (Value.func (.func 57) #[] #[])) (fun D hD e => by
        have hne : D ≠ w.heap.size + 1 + 1 := by
          rintro rfl
          rw [hW2.out.2.2.1] at e; cases e
        rw [Below.heap_setCell _ _ _ _ hne, Below.heap_setCell _ _ _ _ hne, hb2.block D hD]; exact e))
      clear hS2 hb2 hr
      gi_wp2_with fail
      refine leaves_all (B := w.heap.size) (fun W => ShE w b (sortL (dnL xs)) (.slice a3 (sortL (dnL xs)).length c3) W) (fun W D hh hD e => hh.putObj D hD e) (fun W hh => ?_) ds _ _ hds2.out hE.out
      have f0 : W.cell? ⟨w.heap.size + 1 + 1, 0, none⟩ = some (.slice a3 (sortL (dnL xs)).length c3) := by rw [cell_of_row W _ 0 _ 44 (0, 0) hh.2.1]; rfl
      have f1 : W.cell? ⟨w.heap.size + 1 + 1, 1, none⟩ = some (Value.func (.func 57) #[] #[]) := by rw [cell_of_row W _ 1 _ 44 (0, 0) hh.2.1]; rfl
      exact ⟨.agg #[.slice a3 (sortL (dnL xs)).length c3, (Value.func (.func 57) #[] #[])], by simp [results, Tryz.results36, go_sem, f0, f1], _, rfl, hh.1, hh.2.2.1, hh.2.2.2⟩

end
section
/- Shadows: shadow.above, the program. -/
open Go.ChangeShapes Go.WideShapes Go.ChangeAt Go.RowKit Go.Proofs Go.Shelf Go.Maps
attribute [local go_sem] Oper.semAt_some

/-- the sets with one point more. -/
def upL (n : Int) (xs : List Int) : List Int := xs.flatMap fun x => (ptsI (otherI n x)).map fun p => withI x p
theorem upL_step {n : Int} {xs : List Int} {k : Nat} (hk : k < xs.length) {x : Int} (hx : xs.getD k 0 = x) : upL n (xs.take (k + 1)) = upL n (xs.take k) ++ (ptsI (otherI n x)).map fun p => withI x p := by
  unfold upL; rw [take_snoc hk, hx, List.flatMap_append]; simp
theorem with_in : ∀ s : Fin 256, ∀ p : Fin 8, 0 ≤ withI s.val p.val ∧ withI s.val p.val < 256 := by decide +kernel
theorem with_wf {x p : Int} (x1 : 0 ≤ x) (x2 : x < 256) (p1 : 0 ≤ p) (p2 : p ≤ 7) : 0 ≤ withI x p ∧ withI x p < 256 ∧ (Lit.int .u64 (withI x p)).wf = true := by
  have h := with_in ⟨x.toNat, by omega⟩ ⟨p.toNat, by omega⟩
  have e1 : ((x.toNat : Nat) : Int) = x := Int.toNat_of_nonneg x1
  have e2 : ((p.toNat : Nat) : Int) = p := Int.toNat_of_nonneg p1
  simp only [e1, e2] at h
  refine ⟨h.1, h.2, ?_⟩
  have m1 : IntKind.u64.min = 0 := by decide +kernel
  have m2 : IntKind.u64.max = 18446744073709551615 := by decide +kernel
  simp only [Lit.wf, m1, m2, Bool.and_eq_true, decide_eq_true_eq]
  omega
theorem upL_in {n : Int} {xs : List Int} (h : ∀ x ∈ xs, setB n x = true) : ∀ z ∈ upL n xs, 0 ≤ z ∧ z < 256 := by
  intro z hz
  obtain ⟨x, hx, hz⟩ := List.mem_flatMap.1 hz
  obtain ⟨p, hp, rfl⟩ := List.mem_map.1 hz
  obtain ⟨x1, x2⟩ := setB_lt (h x hx)
  obtain ⟨y1, y2⟩ := setB_lt (other_set (h x hx))
  obtain ⟨p1, p2, _⟩ := mem_pts y1 y2 hp
  obtain ⟨l1, l2, _⟩ := with_wf x1 x2 p1 p2
  exact ⟨l1, l2⟩
set_option maxRecDepth 100000 in
set_option maxHeartbeats 8000000 in
theorem sha_above (n : Int) (b nn B S : Nat) (l : List Int) (lv : Value) (xs : List Int) (w : World) (h : MapS w b nn l) (hB : B ≤ b) (htB : 1 < B) (hT : Tab w) (hx : SRow w S lv xs) (hS : S ≤ w.heap.size) (hlen : xs.length ≤ 256) (hlt : ∀ x ∈ xs, setB n x = true) (n1 : 1 ≤ n) (n8 : n ≤ 8) :
    Calls Tryz.prog 73 #[.map (some b), .int .i64 n, .agg #[lv, (Value.func (.func 57) #[] #[])]] w (ShaPost w b (sortL (upL n xs))) := by
  have hbl := h.lt
  obtain ⟨la, lc, rfl, _⟩ := id hx
  obtain ⟨wc, hrun, hm0, hg0⟩ := MapS.clear (((h.alloc (.cells #[.map (some b)] 57)).alloc (.cells #[.slice la xs.length lc, (Value.func (.func 57) #[] #[])] 44)).alloc (.cells #[.slice none 0 0, .nilFunc] 44)) 0
  have hgw : w.grownBy wc (some b) := ⟨hg0.os, hg0.tape, hg0.output, by have := hg0.size; simp at this; omega, fun k hk hne => by
    rw [hg0.block k (by simp; omega) hne, Below.heap_alloc _ _ _ (by simp; omega), Below.heap_alloc _ _ _ (by simp; omega), Below.heap_alloc _ _ _ (by omega)]⟩
  have hb0 : wc.heap[w.heap.size]? = some (.cells #[.map (some b)] 57 (0, 0)) := by
    rw [hg0.block _ (by simp; omega) (by simp; omega), Below.heap_alloc _ _ _ (by simp; omega), Below.heap_alloc _ _ _ (by simp)]
    exact heap_alloc_new w _
  have hb1 : wc.heap[w.heap.size + 1]? = some (.cells #[.slice la xs.length lc, (Value.func (.func 57) #[] #[])] 44 (0, 0)) := by
    rw [hg0.block _ (by simp) (by simp; omega), Below.heap_alloc _ _ _ (by simp)]
    have := heap_alloc_new (w.alloc (.cells #[.map (some b)] 57)) (.cells #[.slice la xs.length lc, (Value.func (.func 57) #[] #[])] 44)
    simpa using this
  have hb2 : wc.heap[w.heap.size + 1 + 1]? = some (.cells #[.slice none 0 0, .nilFunc] 44 (0, 0)) := by
    rw [hg0.block _ (by simp) (by simp; omega)]
    have := heap_alloc_new ((w.alloc (.cells #[.map (some b)] 57)).alloc (.cells #[.slice la xs.length lc, (Value.func (.func 57) #[] #[])] 44)) (.cells #[.slice none 0 0, .nilFunc] 44)
    simpa using this
  have hsz : w.heap.size + 1 + 1 < wc.heap.size := (Array.getElem?_eq_some_iff.1 hb2).1
  have e10 : wc.cell? ⟨w.heap.size + 1, 0, none⟩ = some (.slice la xs.length lc) := by rw [cell_of_row wc _ 0 _ 44 (0, 0) hb1]; rfl
  have hW0 := Lib.hid (show ShW w b [] 0 wc from ⟨hgw, hb0, hb2, 0, Nat.le_refl _, hm0⟩)
  replace hT := Lib.hid hT
  replace hlt := Lib.hid hlt
  replace h := Lib.hid h
  replace hx := Lib.hid hx
  clear hg0 hb1 hb0 hb2 hgw hm0
  refine (callsIn_wide (n := 10)).1 ?_
  refine callsIn_of_wp_marks Tryz.func73 rfl trivial ?_ rfl
  simp only [Tryz.ntmps73, List.size_toArray, List.length_cons, List.length_nil, Nat.reduceAdd, Nat.reduceSub, Array.replicate_succ, Array.replicate_zero, List.push_toArray, List.append_toArray, List.nil_append, List.cons_append]
  gi_wp2_with fail
  clear hrun e10
  refine wpIn_loop (fun a9 wr => ∃ u8 u9 u14 u15 u16 u17 u18 u19 u20 u21 u22 u23 u24 u25 u26 u27 u28 : Value, ∃ ds : List Deferred, (∃ k : Nat, k ≤ xs.length ∧ u14 = .int .i64 k ∧ Hid (ShW w b (upL n (xs.take k)) (8 * k) wr) ∧ Hid (DefsOK w.heap.size ds wr.heap.size wr)) ∧ a9 = { tmps := #[.map (some b), .int .i64 n, .agg #[.slice la xs.length lc, (Value.func (.func 57) #[] #[])], .pointer (some ⟨w.heap.size, 0, none⟩), undef, .pointer (some ⟨w.heap.size + 1, 0, none⟩), .pointer (some ⟨w.heap.size + 1 + 1, 0, none⟩), undef, u8, u9, .map (some b), .pointer (some ⟨w.heap.size + 1, 0, none⟩), .slice la xs.length lc, .int .i64 (xs.length : Nat), u14, u15, u16, u17, u18, u19, u20, u21, u22, u23, u24, u25, u26, u27, u28, undef, undef], defers := ds }) (fun a9 _ => xs.length - (intOf (a9.tmps.getD 14 undef)).toNat) ?atStart ?round
  case atStart =>
    exact ⟨_, _, _, _, _, _, _, _, _, _, _, _, _, _, _, _, _, [], ⟨0, by omega, rfl, Lib.hid (by simpa [upL] using hW0.out), Lib.hid trivial⟩, rfl⟩
  case round =>
    rintro a9 wr ⟨u8, u9, u14, u15, u16, u17, u18, u19, u20, u21, u22, u23, u24, u25, u26, u27, u28, ds, ⟨k, hk, rfl, hW, hds⟩, rfl⟩
    dsimp only
    have hz := hW.out.1.size
    have hz2 : w.heap.size + 1 + 1 < wr.heap.size := (Array.getElem?_eq_some_iff.1 hW.out.2.2.1).1
    by_cases hk2 : k < xs.length
    · obtain ⟨a2, c2, e2, hcell⟩ := hx.out.grown hW.out.1 h.out hS
      injection e2 with e3 e4 e5
      subst e3 e5
      obtain ⟨b1, o1, rfl, s1, c1⟩ := hcell (by omega)
      have k1 : (0 : Int) ≤ (k : Int) := by omega
      have k2 : (k : Int) < (xs.length : Nat) := by omega
      have e1 : wr.cell? ⟨b1, o1 + k, none⟩ = some (.int .u64 (xs.getD k 0)) := c1 k hk2
      obtain ⟨x, hx0⟩ : ∃ x, xs.getD k 0 = x := ⟨_, rfl⟩
      have hmx : x ∈ xs := by rw [← hx0]; exact getD_mem hk2
      rw [hx0] at e1
      have hsx := hlt.out x hmx
      obtain ⟨x1, x2⟩ := setB_lt hsx
      obtain ⟨y, hy⟩ : ∃ y, otherI n x = y := ⟨_, rfl⟩
      obtain ⟨y1, y2⟩ := setB_lt (hy ▸ other_set hsx)
      have hyv : bits .andNot .u64 (2 ^ n.toNat - 1) x = y := by rw [← hy]; exact other_u64 n1 n8 x1 (setB_yes hsx).2.2.2
      have hstep := Lib.hid (hy ▸ upL_step (n := n) hk2 hx0)
      replace hx0 := Lib.hid hx0
      replace hmx := Lib.hid hmx
      clear c1 hcell
      replace hy := Lib.hid hy
      have hall := Lib.hid (all_pts n n1 n8)
      have bS0 := (Boxed.new wr 48 (.int .u64 x)).cell
      have hmx0 : Tryz.prog.follows .mixedOrders = true := by kernel_rfl
      have hW1 : ShW w b (upL n (xs.take k)) (8 * k) ((wr.alloc (.cells #[.int .u64 x] 48)).alloc (.cells #[.int .u64 y] 48)).drew := ((hW.out.alloc _).alloc _).drew
      have bS : Boxed ((wr.alloc (.cells #[.int .u64 x] 48)).alloc (.cells #[.int .u64 y] 48)).drew wr.heap.size 48 (.int .u64 x) := (Boxed.new wr 48 (.int .u64 x)).alloc _
      have bN : Boxed ((wr.alloc (.cells #[.int .u64 x] 48)).alloc (.cells #[.int .u64 y] 48)).drew (wr.heap.size + 1) 48 (.int .u64 y) := by
        have := Boxed.new (wr.alloc (.cells #[.int .u64 x] 48)) 48 (.int .u64 y)
        rw [World.size_alloc] at this
        exact this
      have hT1 : Tab ((wr.alloc (.cells #[.int .u64 x] 48)).alloc (.cells #[.int .u64 y] 48)).drew := hT.out.below (hW1.below hB hbl) htB
      have hds1 : DefsOK w.heap.size ds wr.heap.size ((wr.alloc (.cells #[.int .u64 x] 48)).alloc (.cells #[.int .u64 y] 48)).drew := ((hds.out.alloc _).alloc _ : DefsOK w.heap.size ds wr.heap.size ((wr.alloc (.cells #[.int .u64 x] 48)).alloc (.cells #[.int .u64 y] 48))).drew
      gi_wp2
      first | gi_region_with_o (first | (refine ⟨trivial, ?_⟩; gi_at_call 86; refine (callsIn_wide.2 (hall.out _)).mono ?_; rintro e w' ⟨rfl, rfl⟩) | (refine ⟨trivial, ?_⟩; gi_at_call 65; refine (pts_make _ _).mono ?_; rintro e w' ⟨rfl, rfl⟩)) | fail
      all_goals gi_wp2
      all_goals (
        refine wpIn_rangeFunc_ownG rfl (by omega) (gf := 90) (lb := #[.pointer (some ⟨wr.heap.size + 1, 0, none⟩)]) rfl trivial (enters_of Tryz.func90 (by kernel_rfl) rfl)
          (pts_stops _ (by omega) (wr.heap.size + 1) B y y1 y2 _ (by simp) bN.cell hT1 htB) belowK_t (belowK_b (by simp; omega)) (Below.refl _ _) (fun _ => rfl)
          (fun (pre : List (PtOf y)) W => (Boxed W wr.heap.size 48 (.int .u64 x) ∧ ShW w b (upL n (xs.take k) ++ (vals pre).map (fun p => withI x p)) (8 * k + pre.length) W) ∧ DefsOK w.heap.size ds wr.heap.size W)
          (fun _ _ _ => False)
          (OwnFrom.and (OwnFrom.and (_root_.Go.Own.from (boxed_own _ _ (fun _ => .int .u64 x)) _) (ShW.own w b (fun (pre : List (PtOf y)) => upL n (xs.take k) ++ (vals pre).map (fun p => withI x p)) (fun pre => 8 * k + pre.length) _ hbl (by simp; omega))) (defs_own _ _ _ _ (by simp; omega)))
          (fun _ _ _ _ _ hs _ _ => hs)
          ⟨⟨bS, by simpa [vals] using hW1⟩, hds1⟩
          (fun p => { tmps := #[.map (some b), .int .i64 n, .agg #[.slice (some ⟨b1, o1, none⟩) xs.length lc, (Value.func (.func 57) #[] #[])], .pointer (some ⟨w.heap.size, 0, none⟩), undef, .pointer (some ⟨w.heap.size + 1, 0, none⟩), .pointer (some ⟨w.heap.size + 1 + 1, 0, none⟩), undef, .pointer (some ⟨wr.heap.size, 0, none⟩), .int .i64 p.1, .map (some b), .pointer (some ⟨w.heap.size + 1, 0, none⟩), .slice (some ⟨b1, o1, none⟩) xs.length lc, .int .i64 (xs.length : Nat), .int .i64 (k : Nat), .bool true, .pointer (some ⟨b1, o1 + k, none⟩), .int .u64 x, .int .i64 n, .int .u64 (2 ^ n.toNat - 1), .int .u64 x, .int .u64 y, .func (.func 90) #[] #[.pointer (some ⟨wr.heap.size + 1, 0, none⟩)], .int .i64 p.1, u24, u25, u26, u27, u28, undef, undef], defers := [] }) ?assign ?body ?done ?stop
        case assign =>
          intro l p W K hK
          gi_wp2
          exact hK
        case body =>
          rintro l pre ⟨p, p1, p2, p3⟩ W ⟨⟨hbx, hSW⟩, hdf⟩ hlen2
          have hp8 : pre.length ≤ 8 := by have := ptsTo_len y 8; unfold ptsI at hlen2; omega
          obtain ⟨l1, l2, lwf⟩ := with_wf x1 x2 p1 p2
          have hbm : b < W.heap.size := Nat.lt_of_lt_of_le hbl hSW.1.size
          obtain ⟨w1, hrun, hgr, hS1⟩ := hSW.put hbl (by omega) _ lwf
          have c1 : W.cell? ⟨w.heap.size, 0, none⟩ = some (.map (some b)) := by rw [cell_of_row W _ 0 _ 57 (0, 0) hSW.2.1]; rfl
          have c2 := hbx.cell
          have hwo := Lib.hid (set_with x p x1 x2 p1 p2)
          have hbx1 := Lib.hid (hbx.kept hgr (by simp; omega))
          have hdf1 := Lib.hid (hdf.keep (W' := w1) (fun D hD e => (hgr.block D (Array.getElem?_eq_some_iff.1 e).1 (by
            intro e'
            obtain ⟨_, _, _, _, _, _, ⟨es, clock, hbb, _⟩, _⟩ := hSW
            injection e' with e'
            subst e'
            rw [hbb] at e; cases e)).trans e))
          have hS2 := Lib.hid (show ShW w b (upL n (xs.take k) ++ (vals (pre ++ [⟨p, p1, p2, p3⟩])).map (fun p => withI x p)) (8 * k + (pre ++ [(⟨p, p1, p2, p3⟩ : PtOf y)]).length) w1 by
            rw [vals_snoc, List.map_append, ← List.append_assoc, List.length_append]; exact hS1)
          have hKF := Lib.hid (KeepsFrom.of_grownBy (B := ((wr.alloc (.cells #[.int .u64 x] 48)).alloc (.cells #[.int .u64 y] 48)).drew.heap.size) hgr (fun j e => by cases e; simp; omega))
          have hKB := Lib.hid ((Below.refl B W).grown hgr (by omega) (fun j e => by cases e; exact hB))
          have hmx : Tryz.prog.follows .mixedOrders = true := by kernel_rfl
          clear hSW hbx hdf hgr hS1 hlen2
          gi_wp2
          gi_region_with_o (refine ⟨trivial, ?_⟩; gi_at_call 95; refine (CallsIn.inRound l (callsIn_wide.2 (hwo.out _))).mono ?_; rintro e w' ⟨rfl, rfl⟩)
          all_goals exact ⟨hKF.out, hKB.out, ⟨⟨hbx1.out, hS2.out⟩, hdf1.out⟩⟩
        case done =>
          rintro D ys W hD hys ⟨⟨hbx, hSW⟩, hdf⟩ hK
          rw [hys, ← hstep.out] at hSW
          have hyl : ys.length ≤ 8 := by have h1 := congrArg List.length hys; rw [vals_len] at h1; have := ptsTo_len y 8; unfold ptsI at h1; omega
          gi_wp2
          simp at hD
          have hDl := (Array.getElem?_eq_some_iff.1 hK).1
          obtain ⟨q1, q2, q3, nn', q4, q5⟩ := hSW
          refine ⟨⟨_, _, _, _, _, _, _, _, _, _, _, _, _, _, _, _, _, { target := .collected D, args := #[] } :: ds, ⟨k + 1, by omega, by go_num, Lib.hid ⟨q1, q2, q3, nn', by omega, q5⟩, Lib.hid ⟨D, rfl, by omega, hDl, hK, hdf.mono (by omega)⟩⟩, rfl⟩, ?_⟩
          simp [intOf]; omega
        case stop =>
          rintro D c pre W _ _ h _
          exact h.elim)
    · obtain rfl : k = xs.length := by omega
      have hW2 := hW.out
      rw [List.take_length] at hW2
      have c1 : wr.cell? ⟨w.heap.size, 0, none⟩ = some (.map (some b)) := by rw [cell_of_row wr _ 0 _ 57 (0, 0) hW2.2.1]; rfl
      obtain ⟨nn', hn1, hm1⟩ := hW2.2.2.2
      have hfm := Lib.hid (shadow_family b nn' (upL n xs) wr hm1 (by omega) (upL_in hlt.out))
      replace hW2 := Lib.hid hW2
      clear hW hm1
      gi_wp2_with fail
      refine ⟨trivial, ?_⟩
      gi_at_call 67
      refine (callsIn_wide.2 hfm.out).mono ?_
      rintro e w2 ⟨v, rfl, hS2, hb2⟩
      have hE := Lib.hid (ShE.mk hbl hW2.out hb2 hS2)
      obtain ⟨a3, c3, rfl⟩ := hS2.form
      have hr : w2.heap[w.heap.size + 1 + 1]? = some (.cells #[.slice none 0 0, .nilFunc] 44 (0, 0)) := (hb2.block _ hz2).trans hW2.out.2.2.1
      have d0 : w2.cell? ⟨w.heap.size + 1 + 1, 0, none⟩ = some (.slice none 0 0) := by rw [cell_of_row w2 _ 0 _ 44 (0, 0) hr]; rfl
      have d1 : w2.cell? ⟨w.heap.size + 1 + 1, 1, none⟩ = some .nilFunc := by rw [cell_of_row w2 _ 1 _ 44 (0, 0) hr]; rfl
      have df0 : w2.frozen? ⟨w.heap.size + 1 + 1, 0, none⟩ = false := frozen_of hr _
      have df1 : w2.frozen? ⟨w.heap.size + 1 + 1, 1, none⟩ = false := frozen_of hr _
      have hds2 := Lib.hid (hds.out.keep (W' := (w2.setCell ⟨w.heap.size + 1 + 1, 0, none⟩ (.slice a3 (sortL (upL n xs)).length c3)).setCell ⟨w.heap.size + 1 + 1, 1, none⟩ (Value.func (.func 57) #[] #[])) (fun D hD e => by
        have hne : D ≠ w.heap.size + 1 + 1 := by
          rintro rfl
          rw [hW2.out.2.2.1] at e; cases e
        rw [Below.heap_setCell _ _ _ _ hne, Below.heap_setCell _ _ _ _ hne, hb2.block D hD]; exact e))
      clear hS2 hb2 hr
      gi_wp2_with fail
      refine leaves_all (B := w.heap.size) (fun W => ShE w b (sortL (upL n xs)) (.slice a3 (sortL (upL n xs)).length c3) W) (fun W D hh hD e => hh.putObj D hD e) (fun W hh => ?_) ds _ _ hds2.out hE.out
      have f0 : W.cell? ⟨w.heap.size + 1 + 1, 0, none⟩ = some (.slice a3 (sortL (upL n xs)).length c3) := by rw [cell_of_row W _ 0 _ 44 (0, 0) hh.2.1]; rfl
      have f1 : W.cell? ⟨w.heap.size + 1 + 1, 1, none⟩ = some (Value.func (.func 57) #[] #[]) := by rw [cell_of_row W _ 1 _ 44 (0, 0) hh.2.1]; rfl
      exact ⟨.agg #[.slice a3 (sortL (upL n xs)).length c3, (Value.func (.func 57) #[] #[])], by simp [results, Tryz.results73, go_sem, f0, f1], _, rfl, hh.1, hh.2.2.1, hh.2.2.2⟩

end
section
/- Shadows: ShadowOf, ShadowUp, the program. -/
open Go.ChangeShapes Go.WideShapes Go.ChangeAt Go.RowKit Go.Proofs Go.Shelf Go.Maps

/-- a family to be read, nothing below B turned. -/
def FamPostR (B : Nat) (ys : List Int) (w : World) (e : Ending) (w' : World) : Prop := ∃ v, e = .returned (.agg #[v, (Value.func (.func 57) #[] #[])]) ∧ SRow w' w'.heap.size v ys ∧ Below B w w' ∧ w.heap.size ≤ w'.heap.size
/-- the function value g, bound to rs and cs, makes ys of the family xs. -/
def FamMapR (B : Nat) (g : Nat) (rs cs : Array Value) (xs ys : List Int) (w : World) : Prop :=
  ∀ (W : World) (lv : Value), Below w.heap.size w W → SRow W W.heap.size lv xs → Calls Tryz.prog g (rs ++ #[.agg #[lv, (Value.func (.func 57) #[] #[])]] ++ cs) W (FamPostR B ys W)
/-- as ListPost, from B on. -/
def ListPostB (B : Nat) (L : List Int) (b : Bool) (w : World) (e : Ending) (w' : World) : Prop := ∃ v, e = .returned (.tuple #[v, .bool b]) ∧ Own w' B w'.heap.size v L ∧ Below B w w'
set_option maxRecDepth 100000 in
set_option maxHeartbeats 2000000 in
theorem made_any (B : Nat) (g : Nat) (eg : EntersG g) (rs cs : Array Value) (n : Int) (lv : Value) (xs ys : List Int) (S : Nat) (w : World) (hB : B ≤ w.heap.size) (hx : Row w S lv xs) (hS : S ≤ w.heap.size) (hl : xs.length ≤ 100000000)
    (hF : famB n xs = true → FamMapR B g rs cs xs ys w ∧ (∀ z ∈ ys, 0 ≤ z ∧ z < 256) ∧ ys.length ≤ 1000) :
    Calls Tryz.prog 35 #[.int .i64 n, lv, .func (.func g) rs cs] w (ListPostB B (ifL (famB n xs) ys) (famB n xs) w) := by
  have eg1 : ∀ args w, (callFunc g args).run Tryz.prog w = .ok (.enter g args) w := eg
  have hr := Lib.hid (read_any n lv xs S w hx hS hl)
  obtain ⟨la, lc, rfl, _⟩ := id hx
  replace hF := Lib.hid hF
  clear hx
  go_enter Tryz.func35, Tryz.ntmps35
  go_wp2_with fail
  refine hr.out.mono ?_
  rintro e w1 (⟨hf, v, rfl, hS1, hb1⟩ | ⟨hf, rfl, hb1⟩)
  · obtain ⟨a', c', rfl⟩ := hS1.form
    have hz1 := hb1.size
    obtain ⟨hM, hzz, hlen⟩ := hF.out hf
    have hb2 := hb1.alloc hz1 (.cells #[.slice a' xs.length c', (Value.func (.func 57) #[] #[])] 44)
    have hS2 := hS1.alloc (.cells #[.slice a' xs.length c', (Value.func (.func 57) #[] #[])] 44)
    have hm := Lib.hid (hM _ _ hb2 hS2.row)
    have hL := Lib.hid (show ys = ifL (famB n xs) ys by unfold ifL; rw [if_pos hf])
    replace hf := Lib.hid hf.symm
    replace hb2 := Lib.hid hb2
    replace hzz := Lib.hid hzz
    clear hr hS1 hb1 hS2 hM hF
    go_wp2_with fail
    refine hm.out.mono ?_
    rintro e w2 ⟨u, rfl, hS3, hb3, hz3⟩
    obtain ⟨a3, c3, rfl, _⟩ := id hS3
    have hnum := Lib.hid (numbers_at _ _ _ _ hS3 (Nat.le_refl _) (by omega) hzz.out)
    simp at hz3
    replace hb3 := Lib.hid ((hb2.out.mono hB).trans hb3)
    clear hS3
    go_wp2_with fail
    refine hnum.out.mono ?_
    rintro e w3 ⟨t, rfl, hO, hb4⟩
    obtain ⟨ua, uc, rfl, _⟩ := id hO
    replace hb4 := Lib.hid (hb3.out.trans (hb4.mono (by omega)))
    replace hO := Lib.hid (hO.mono (show B ≤ w2.heap.size by omega) (Nat.le_refl _))
    go_wp2_with fail
    go_ret2
    exact ⟨_, ret_vb hf.out, hL.out ▸ hO.out, hb4.out⟩
  · have hz1 := hb1.size
    have hL := Lib.hid (show [] = ifL (famB n xs) ys by unfold ifL; rw [hf]; rfl)
    replace hf := Lib.hid hf.symm
    replace hb1 := Lib.hid (hb1.mono hB)
    clear hr hF
    go_wp2_with fail
    go_ret2
    exact ⟨_, ret_vb hf.out, hL.out ▸ own_empty _ _ _ _ _, (hb1.out.alloc (by omega) _).alloc (by simp; omega) _⟩
theorem mkmap (t : TypeId) (w : World) : (Instr.makeMap t none).run Tryz.prog w = .ok (.map (some w.heap.size)) (w.alloc (.map #[] 0)) := rfl
theorem dn_len {xs : List Int} (h : ∀ x ∈ xs, 0 ≤ x ∧ x < 256) : (sortL (dnL xs)).length ≤ 1000 := by
  have := asc_len256 (asc_sortL (dnL xs)) (fun z hz => dnL_in h z (mem_sortL.1 hz))
  omega
theorem up_len {n : Int} {xs : List Int} (h : ∀ x ∈ xs, setB n x = true) : (sortL (upL n xs)).length ≤ 1000 := by
  have := asc_len256 (asc_sortL (upL n xs)) (fun z hz => upL_in h z (mem_sortL.1 hz))
  omega
theorem below_map (B b nn : Nat) (l : List Int) (n : Int) (xs : List Int) (w : World) (h : MapS w b nn l) (hB : B ≤ b) (htB : 1 < B) (hT : Tab w) (hf : famB n xs = true) :
    FamMapR B 36 #[.map (some b)] #[] xs (sortL (dnL xs)) w := fun W lv hb hx => by
  have hbl := h.lt
  refine (sha_below b nn B W.heap.size l lv xs W (h.below hb (Nat.le_refl _)) hB htB (hT.below hb (by omega)) hx (Nat.le_refl _) (famB_len hf) (famB_lt hf)).mono ?_
  rintro e w' ⟨v, rfl, hS, hg, _⟩
  exact ⟨v, rfl, hS.row, (Below.refl B W).grown hg (by have := hb.size; omega) (fun k e => by cases e; exact hB), hg.size⟩
set_option maxRecDepth 100000 in
set_option maxHeartbeats 1000000 in
theorem im_ShadowOf (n : Int) (lv : Value) (xs : List Int) (S : Nat) (w : World) (hx : Row w S lv xs) (hS : S ≤ w.heap.size) (hl : xs.length ≤ 100000000) (hT : Tab w) :
    Calls Tryz.prog 11 #[.int .i64 n, lv] w (ListPost (ifL (famB n xs) (sortL (dnL xs))) (famB n xs) w) := by
  have htl := hT.lt
  have hm0 := MapS.made w
  have hbw := (Below.refl w.heap.size w).alloc (Nat.le_refl _) (.map #[] 0)
  have hk := Lib.hid (made_any w.heap.size 36 (enters_of Tryz.func36 (by kernel_rfl) rfl) #[.map (some w.heap.size)] #[] n lv xs (sortL (dnL xs)) S (w.alloc (.map #[] 0)) (by simp) (hx.below hbw hS) (by simp; omega) hl
    (fun hf => ⟨below_map w.heap.size w.heap.size 0 [] n xs _ hm0 (Nat.le_refl _) htl (hT.below hbw htl) hf, fun z hz => dnL_in (famB_lt hf) z (mem_sortL.1 hz), dn_len (famB_lt hf)⟩))
  have hmf := mkfunc
  have hmm := mkmap
  replace hbw := Lib.hid hbw
  obtain ⟨la, lc, rfl, _⟩ := id hx
  clear hx hm0
  go_enter Tryz.func11, Tryz.ntmps11
  go_wp2_with fail
  refine hk.out.mono ?_
  rintro e w2 ⟨v, rfl, hO, hb2⟩
  obtain ⟨ua, uc, rfl, _⟩ := id hO
  replace hO := Lib.hid hO
  replace hb2 := Lib.hid (hbw.out.trans hb2)
  go_wp2_with fail
  go_ret2
  exact ⟨_, rfl, hO.out, hb2.out⟩
end
end Go.Proofs.YtpjapoaagbdlfaaGreatDoor
