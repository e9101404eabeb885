/- Shadows: shadow.above, the program. -/
import Derived.Test.YtcejbebepjkpnaaDoorShm3
import Derived.Test.YtcejbebepjkpnaaDoorBits
import Derived.Test.YtcejbebepjkpnaaDoorLawsB
namespace Go.Proofs.YtcejbebepjkpnaaDoor
open Go.ChangeShapes Go.WideShapes Go.ChangeAt Go.RowKit Go.Proofs Go.Shelf Go.Maps
attribute [local go_sem] Oper.semAt_some

/-- the sets with one point more. -/
def upL (n : Int) (xs : List Int) : List Int := xs.flatMap fun x => (ptsI (otherI n x)).map fun p => withI x p
theorem upL_step {n : Int} {xs : List Int} {k : Nat} (hk : k < xs.length) {x : Int} (hx : xs.getD k 0 = x) : upL n (xs.take (k + 1)) = upL n (xs.take k) ++ (ptsI (otherI n x)).map fun p => withI x p := by
  unfold upL; rw [take_snoc hk, hx, List.flatMap_append]; simp
theorem with_in : ∀ s : Fin 256, ∀ p : Fin 8, 0 ≤ withI s.val p.val ∧ withI s.val p.val < 256 := by decide +kernel
theorem with_wf {x p : Int} (x1 : 0 ≤ x) (x2 : x < 256) (p1 : 0 ≤ p) (p2 : p ≤ 7) : 0 ≤ withI x p ∧ withI x p < 256 ∧ (Lit.int .u64 (withI x p)).wf = true := by
  have h := with_in ⟨x.toNat, by omega⟩ ⟨p.toNat, by omega⟩
  have e1 : ((x.toNat : Nat) : Int) = x := Int.toNat_of_nonneg x1
  have e2 : ((p.toNat : Nat) : Int) = p := Int.toNat_of_nonneg p1
  simp only [e1, e2] at h
  refine ⟨h.1, h.2, ?_⟩
  have m1 : IntKind.u64.min = 0 := by decide +kernel
  have m2 : IntKind.u64.max = 18446744073709551615 := by decide +kernel
  simp only [Lit.wf, m1, m2, Bool.and_eq_true, decide_eq_true_eq]
  omega
theorem upL_in {n : Int} {xs : List Int} (h : ∀ x ∈ xs, setB n x = true) : ∀ z ∈ upL n xs, 0 ≤ z ∧ z < 256 := by
  intro z hz
  obtain ⟨x, hx, hz⟩ := List.mem_flatMap.1 hz
  obtain ⟨p, hp, rfl⟩ := List.mem_map.1 hz
  obtain ⟨x1, x2⟩ := setB_lt (h x hx)
  obtain ⟨y1, y2⟩ := setB_lt (other_set (h x hx))
  obtain ⟨p1, p2, _⟩ := mem_pts y1 y2 hp
  obtain ⟨l1, l2, _⟩ := with_wf x1 x2 p1 p2
  exact ⟨l1, l2⟩
set_option maxRecDepth 100000 in
set_option maxHeartbeats 8000000 in
theorem sha_above (n : Int) (b nn B S : Nat) (l : List Int) (lv : Value) (xs : List Int) (w : World) (h : MapS w b nn l) (hB : B ≤ b) (htB : 1 < B) (hT : Tab w) (hx : SRow w S lv xs) (hS : S ≤ w.heap.size) (hlen : xs.length ≤ 256) (hlt : ∀ x ∈ xs, setB n x = true) (n1 : 1 ≤ n) (n8 : n ≤ 8) :
    Calls Tryd.prog 40 #[.map (some b), .int .i64 n, .agg #[lv, (Value.func (.func 68) #[] #[])]] w (ShaPost w b (sortL (upL n xs))) := by
  have hbl := h.lt
  obtain ⟨la, lc, rfl, _⟩ := id hx
  obtain ⟨wc, hrun, hm0, hg0⟩ := MapS.clear (((h.alloc (.cells #[.map (some b)] 58)).alloc (.cells #[.slice la xs.length lc, (Value.func (.func 68) #[] #[])] 48)).alloc (.cells #[.slice none 0 0, .nilFunc] 48)) 0
  have hgw : w.grownBy wc (some b) := ⟨hg0.os, hg0.tape, hg0.output, by have := hg0.size; simp at this; omega, fun k hk hne => by
    rw [hg0.block k (by simp; omega) hne, Below.heap_alloc _ _ _ (by simp; omega), Below.heap_alloc _ _ _ (by simp; omega), Below.heap_alloc _ _ _ (by omega)]⟩
  have hb0 : wc.heap[w.heap.size]? = some (.cells #[.map (some b)] 58 (0, 0)) := by
    rw [hg0.block _ (by simp; omega) (by simp; omega), Below.heap_alloc _ _ _ (by simp; omega), Below.heap_alloc _ _ _ (by simp)]
    exact heap_alloc_new w _
  have hb1 : wc.heap[w.heap.size + 1]? = some (.cells #[.slice la xs.length lc, (Value.func (.func 68) #[] #[])] 48 (0, 0)) := by
    rw [hg0.block _ (by simp) (by simp; omega), Below.heap_alloc _ _ _ (by simp)]
    have := heap_alloc_new (w.alloc (.cells #[.map (some b)] 58)) (.cells #[.slice la xs.length lc, (Value.func (.func 68) #[] #[])] 48)
    simpa using this
  have hb2 : wc.heap[w.heap.size + 1 + 1]? = some (.cells #[.slice none 0 0, .nilFunc] 48 (0, 0)) := by
    rw [hg0.block _ (by simp) (by simp; omega)]
    have := heap_alloc_new ((w.alloc (.cells #[.map (some b)] 58)).alloc (.cells #[.slice la xs.length lc, (Value.func (.func 68) #[] #[])] 48)) (.cells #[.slice none 0 0, .nilFunc] 48)
    simpa using this
  have hsz : w.heap.size + 1 + 1 < wc.heap.size := (Array.getElem?_eq_some_iff.1 hb2).1
  have e10 : wc.cell? ⟨w.heap.size + 1, 0, none⟩ = some (.slice la xs.length lc) := by rw [cell_of_row wc _ 0 _ 48 (0, 0) hb1]; rfl
  have hW0 := Lib.hid (show ShW w b [] 0 wc from ⟨hgw, hb0, hb2, 0, Nat.le_refl _, hm0⟩)
  replace hT := Lib.hid hT
  replace hlt := Lib.hid hlt
  replace h := Lib.hid h
  replace hx := Lib.hid hx
  clear hg0 hb1 hb0 hb2 hgw hm0
  refine (callsIn_wide (n := 10)).1 ?_
  refine callsIn_of_wp_marks Tryd.func40 rfl trivial ?_ rfl
  simp only [Tryd.ntmps40, List.size_toArray, List.length_cons, List.length_nil, Nat.reduceAdd, Nat.reduceSub, Array.replicate_succ, Array.replicate_zero, List.push_toArray, List.append_toArray, List.nil_append, List.cons_append]
  gi_wp2_with fail
  clear hrun e10
  refine wpIn_loop (fun a9 wr => ∃ u8 u9 u14 u15 u16 u17 u18 u19 u20 u21 u22 u23 u24 u25 u26 u27 u28 : Value, ∃ ds : List Deferred, (∃ k : Nat, k ≤ xs.length ∧ u14 = .int .i64 k ∧ Hid (ShW w b (upL n (xs.take k)) (8 * k) wr) ∧ Hid (DefsOK w.heap.size ds wr.heap.size wr)) ∧ a9 = { tmps := #[.map (some b), .int .i64 n, .agg #[.slice la xs.length lc, (Value.func (.func 68) #[] #[])], .pointer (some ⟨w.heap.size, 0, none⟩), undef, .pointer (some ⟨w.heap.size + 1, 0, none⟩), .pointer (some ⟨w.heap.size + 1 + 1, 0, none⟩), undef, u8, u9, .map (some b), .pointer (some ⟨w.heap.size + 1, 0, none⟩), .slice la xs.length lc, .int .i64 (xs.length : Nat), u14, u15, u16, u17, u18, u19, u20, u21, u22, u23, u24, u25, u26, u27, u28, undef, undef], defers := ds }) (fun a9 _ => xs.length - (intOf (a9.tmps.getD 14 undef)).toNat) ?atStart ?round
  case atStart =>
    exact ⟨_, _, _, _, _, _, _, _, _, _, _, _, _, _, _, _, _, [], ⟨0, by omega, rfl, Lib.hid (by simpa [upL] using hW0.out), Lib.hid trivial⟩, rfl⟩
  case round =>
    rintro a9 wr ⟨u8, u9, u14, u15, u16, u17, u18, u19, u20, u21, u22, u23, u24, u25, u26, u27, u28, ds, ⟨k, hk, rfl, hW, hds⟩, rfl⟩
    dsimp only
    have hz := hW.out.1.size
    have hz2 : w.heap.size + 1 + 1 < wr.heap.size := (Array.getElem?_eq_some_iff.1 hW.out.2.2.1).1
    by_cases hk2 : k < xs.length
    · obtain ⟨a2, c2, e2, hcell⟩ := hx.out.grown hW.out.1 h.out hS
      injection e2 with e3 e4 e5
      subst e3 e5
      obtain ⟨b1, o1, rfl, s1, c1⟩ := hcell (by omega)
      have k1 : (0 : Int) ≤ (k : Int) := by omega
      have k2 : (k : Int) < (xs.length : Nat) := by omega
      have e1 : wr.cell? ⟨b1, o1 + k, none⟩ = some (.int .u64 (xs.getD k 0)) := c1 k hk2
      obtain ⟨x, hx0⟩ : ∃ x, xs.getD k 0 = x := ⟨_, rfl⟩
      have hmx : x ∈ xs := by rw [← hx0]; exact getD_mem hk2
      rw [hx0] at e1
      have hsx := hlt.out x hmx
      obtain ⟨x1, x2⟩ := setB_lt hsx
      obtain ⟨y, hy⟩ : ∃ y, otherI n x = y := ⟨_, rfl⟩
      obtain ⟨y1, y2⟩ := setB_lt (hy ▸ other_set hsx)
      have hyv : bits .andNot .u64 (2 ^ n.toNat - 1) x = y := by rw [← hy]; exact other_u64 n1 n8 x1 (setB_yes hsx).2.2.2
      have hstep := Lib.hid (hy ▸ upL_step (n := n) hk2 hx0)
      replace hx0 := Lib.hid hx0
      replace hmx := Lib.hid hmx
      clear c1 hcell
      replace hy := Lib.hid hy
      have hall := Lib.hid (all_pts n n1 n8)
      have bS0 := (Boxed.new wr 52 (.int .u64 x)).cell
      have hmx0 : Tryd.prog.follows .mixedOrders = true := by kernel_rfl
      have hW1 : ShW w b (upL n (xs.take k)) (8 * k) ((wr.alloc (.cells #[.int .u64 x] 52)).alloc (.cells #[.int .u64 y] 52)).drew := ((hW.out.alloc _).alloc _).drew
      have bS : Boxed ((wr.alloc (.cells #[.int .u64 x] 52)).alloc (.cells #[.int .u64 y] 52)).drew wr.heap.size 52 (.int .u64 x) := (Boxed.new wr 52 (.int .u64 x)).alloc _
      have bN : Boxed ((wr.alloc (.cells #[.int .u64 x] 52)).alloc (.cells #[.int .u64 y] 52)).drew (wr.heap.size + 1) 52 (.int .u64 y) := by
        have := Boxed.new (wr.alloc (.cells #[.int .u64 x] 52)) 52 (.int .u64 y)
        rw [World.size_alloc] at this
        exact this
      have hT1 : Tab ((wr.alloc (.cells #[.int .u64 x] 52)).alloc (.cells #[.int .u64 y] 52)).drew := hT.out.below (hW1.below hB hbl) htB
      have hds1 : DefsOK w.heap.size ds wr.heap.size ((wr.alloc (.cells #[.int .u64 x] 52)).alloc (.cells #[.int .u64 y] 52)).drew := ((hds.out.alloc _).alloc _ : DefsOK w.heap.size ds wr.heap.size ((wr.alloc (.cells #[.int .u64 x] 52)).alloc (.cells #[.int .u64 y] 52))).drew
      gi_wp2
      first | gi_region_with_o (first | (refine ⟨trivial, ?_⟩; gi_at_call 56; refine (callsIn_wide.2 (hall.out _)).mono ?_; rintro e w' ⟨rfl, rfl⟩) | (refine ⟨trivial, ?_⟩; gi_at_call 49; refine (pts_make _ _).mono ?_; rintro e w' ⟨rfl, rfl⟩)) | fail
      all_goals gi_wp2
      all_goals (
        refine wpIn_rangeFunc_ownG rfl (by omega) (gf := 64) (lb := #[.pointer (some ⟨wr.heap.size + 1, 0, none⟩)]) rfl trivial (enters_of Tryd.func64 (by kernel_rfl) rfl)
          (pts_stops _ (by omega) (wr.heap.size + 1) B y y1 y2 _ (by simp) bN.cell hT1 htB) belowK_t (belowK_b (by simp; omega)) (Below.refl _ _) (fun _ => rfl)
          (fun (pre : List (PtOf y)) W => (Boxed W wr.heap.size 52 (.int .u64 x) ∧ ShW w b (upL n (xs.take k) ++ (vals pre).map (fun p => withI x p)) (8 * k + pre.length) W) ∧ DefsOK w.heap.size ds wr.heap.size W)
          (fun _ _ _ => False)
          (OwnFrom.and (OwnFrom.and (_root_.Go.Own.from (boxed_own _ _ (fun _ => .int .u64 x)) _) (ShW.own w b (fun (pre : List (PtOf y)) => upL n (xs.take k) ++ (vals pre).map (fun p => withI x p)) (fun pre => 8 * k + pre.length) _ hbl (by simp; omega))) (defs_own _ _ _ _ (by simp; omega)))
          (fun _ _ _ _ _ hs _ _ => hs)
          ⟨⟨bS, by simpa [vals] using hW1⟩, hds1⟩
          (fun p => { tmps := #[.map (some b), .int .i64 n, .agg #[.slice (some ⟨b1, o1, none⟩) xs.length lc, (Value.func (.func 68) #[] #[])], .pointer (some ⟨w.heap.size, 0, none⟩), undef, .pointer (some ⟨w.heap.size + 1, 0, none⟩), .pointer (some ⟨w.heap.size + 1 + 1, 0, none⟩), undef, .pointer (some ⟨wr.heap.size, 0, none⟩), .int .i64 p.1, .map (some b), .pointer (some ⟨w.heap.size + 1, 0, none⟩), .slice (some ⟨b1, o1, none⟩) xs.length lc, .int .i64 (xs.length : Nat), .int .i64 (k : Nat), .bool true, .pointer (some ⟨b1, o1 + k, none⟩), .int .u64 x, .int .i64 n, .int .u64 (2 ^ n.toNat - 1), .int .u64 x, .int .u64 y, .func (.func 64) #[] #[.pointer (some ⟨wr.heap.size + 1, 0, none⟩)], .int .i64 p.1, u24, u25, u26, u27, u28, undef, undef], defers := [] }) ?assign ?body ?done ?stop
        case assign =>
          intro l p W K hK
          gi_wp2
          exact hK
        case body =>
          rintro l pre ⟨p, p1, p2, p3⟩ W ⟨⟨hbx, hSW⟩, hdf⟩ hlen2
          have hp8 : pre.length ≤ 8 := by have := ptsTo_len y 8; unfold ptsI at hlen2; omega
          obtain ⟨l1, l2, lwf⟩ := with_wf x1 x2 p1 p2
          have hbm : b < W.heap.size := Nat.lt_of_lt_of_le hbl hSW.1.size
          obtain ⟨w1, hrun, hgr, hS1⟩ := hSW.put hbl (by omega) _ lwf
          have c1 : W.cell? ⟨w.heap.size, 0, none⟩ = some (.map (some b)) := by rw [cell_of_row W _ 0 _ 58 (0, 0) hSW.2.1]; rfl
          have c2 := hbx.cell
          have hwo := Lib.hid (set_with x p x1 x2 p1 p2)
          have hbx1 := Lib.hid (hbx.kept hgr (by simp; omega))
          have hdf1 := Lib.hid (hdf.keep (W' := w1) (fun D hD e => (hgr.block D (Array.getElem?_eq_some_iff.1 e).1 (by
            intro e'
            obtain ⟨_, _, _, _, _, _, ⟨es, clock, hbb, _⟩, _⟩ := hSW
            injection e' with e'
            subst e'
            rw [hbb] at e; cases e)).trans e))
          have hS2 := Lib.hid (show ShW w b (upL n (xs.take k) ++ (vals (pre ++ [⟨p, p1, p2, p3⟩])).map (fun p => withI x p)) (8 * k + (pre ++ [(⟨p, p1, p2, p3⟩ : PtOf y)]).length) w1 by
            rw [vals_snoc, List.map_append, ← List.append_assoc, List.length_append]; exact hS1)
          have hKF := Lib.hid (KeepsFrom.of_grownBy (B := ((wr.alloc (.cells #[.int .u64 x] 52)).alloc (.cells #[.int .u64 y] 52)).drew.heap.size) hgr (fun j e => by cases e; simp; omega))
          have hKB := Lib.hid ((Below.refl B W).grown hgr (by omega) (fun j e => by cases e; exact hB))
          have hmx : Tryd.prog.follows .mixedOrders = true := by kernel_rfl
          clear hSW hbx hdf hgr hS1 hlen2
          gi_wp2
          gi_region_with_o (refine ⟨trivial, ?_⟩; gi_at_call 57; refine (CallsIn.inRound l (callsIn_wide.2 (hwo.out _))).mono ?_; rintro e w' ⟨rfl, rfl⟩)
          all_goals exact ⟨hKF.out, hKB.out, ⟨⟨hbx1.out, hS2.out⟩, hdf1.out⟩⟩
        case done =>
          rintro D ys W hD hys ⟨⟨hbx, hSW⟩, hdf⟩ hK
          rw [hys, ← hstep.out] at hSW
          have hyl : ys.length ≤ 8 := by have h1 := congrArg List.length hys; rw [vals_len] at h1; have := ptsTo_len y 8; unfold ptsI at h1; omega
          gi_wp2
          simp at hD
          have hDl := (Array.getElem?_eq_some_iff.1 hK).1
          obtain ⟨q1, q2, q3, nn', q4, q5⟩ := hSW
          refine ⟨⟨_, _, _, _, _, _, _, _, _, _, _, _, _, _, _, _, _, { target := .collected D, args := #[] } :: ds, ⟨k + 1, by omega, by go_num, Lib.hid ⟨q1, q2, q3, nn', by omega, q5⟩, Lib.hid ⟨D, rfl, by omega, hDl, hK, hdf.mono (by omega)⟩⟩, rfl⟩, ?_⟩
          simp [intOf]; omega
        case stop =>
          rintro D c pre W _ _ h _
          exact h.elim)
    · obtain rfl : k = xs.length := by omega
      have hW2 := hW.out
      rw [List.take_length] at hW2
      have c1 : wr.cell? ⟨w.heap.size, 0, none⟩ = some (.map (some b)) := by rw [cell_of_row wr _ 0 _ 58 (0, 0) hW2.2.1]; rfl
      obtain ⟨nn', hn1, hm1⟩ := hW2.2.2.2
      have hfm := Lib.hid (shadow_family b nn' (upL n xs) wr hm1 (by omega) (upL_in hlt.out))
      replace hW2 := Lib.hid hW2
      clear hW hm1
      gi_wp2_with fail
      refine ⟨trivial, ?_⟩
      gi_at_call 51
      refine (callsIn_wide.2 hfm.out).mono ?_
      rintro e w2 ⟨v, rfl, hS2, hb2⟩
      have hE := Lib.hid (ShE.mk hbl hW2.out hb2 hS2)
      obtain ⟨a3, c3, rfl⟩ := hS2.form
      have hr : w2.heap[w.heap.size + 1 + 1]? = some (.cells #[.slice none 0 0, .nilFunc] 48 (0, 0)) := (hb2.block _ hz2).trans hW2.out.2.2.1
      have d0 : w2.cell? ⟨w.heap.size + 1 + 1, 0, none⟩ = some (.slice none 0 0) := by rw [cell_of_row w2 _ 0 _ 48 (0, 0) hr]; rfl
      have d1 : w2.cell? ⟨w.heap.size + 1 + 1, 1, none⟩ = some .nilFunc := by rw [cell_of_row w2 _ 1 _ 48 (0, 0) hr]; rfl
      have df0 : w2.frozen? ⟨w.heap.size + 1 + 1, 0, none⟩ = false := frozen_of hr _
      have df1 : w2.frozen? ⟨w.heap.size + 1 + 1, 1, none⟩ = false := frozen_of hr _
      have hds2 := Lib.hid (hds.out.keep (W' := (w2.setCell ⟨w.heap.size + 1 + 1, 0, none⟩ (.slice a3 (sortL (upL n xs)).length c3)).setCell ⟨w.heap.size + 1 + 1, 1, none⟩ (Value.func (.func 68) #[] #[])) (fun D hD e => by
        have hne : D ≠ w.heap.size + 1 + 1 := by
          rintro rfl
          rw [hW2.out.2.2.1] at e; cases e
        rw [Below.heap_setCell _ _ _ _ hne, Below.heap_setCell _ _ _ _ hne, hb2.block D hD]; exact e))
      clear hS2 hb2 hr
      gi_wp2_with fail
      refine leaves_all (B := w.heap.size) (fun W => ShE w b (sortL (upL n xs)) (.slice a3 (sortL (upL n xs)).length c3) W) (fun W D hh hD e => hh.putObj D hD e) (fun W hh => ?_) ds _ _ hds2.out hE.out
      have f0 : W.cell? ⟨w.heap.size + 1 + 1, 0, none⟩ = some (.slice a3 (sortL (upL n xs)).length c3) := by rw [cell_of_row W _ 0 _ 48 (0, 0) hh.2.1]; rfl
      have f1 : W.cell? ⟨w.heap.size + 1 + 1, 1, none⟩ = some (Value.func (.func 68) #[] #[]) := by rw [cell_of_row W _ 1 _ 48 (0, 0) hh.2.1]; rfl
      exact ⟨.agg #[.slice a3 (sortL (upL n xs)).length c3, (Value.func (.func 68) #[] #[])], by simp [results, Tryd.results40, go_sem, f0, f1], _, rfl, hh.1, hh.2.2.1, hh.2.2.2⟩
end Go.Proofs.YtcejbebepjkpnaaDoor
