/- leastMeeting: the least number of points that meet a family, by the program. -/
import Derived.Test.YtgkbaenjniapiaaDoorRk1
import Derived.Test.YtgkbaenjniapiaaDoorEa
namespace Go.Proofs.YtgkbaenjniapiaaDoor
open Go.ChangeShapes Go.WideShapes Go.ChangeAt Go.RowKit Go.Shelf Go.Proofs
attribute [local go_sem] Oper.semAt_some

/-- the cell that holds the type of errors. -/
def ErrT (w : World) : Prop := w.cell? ⟨0, 0, none⟩ = some (.iface 141 (.agg #[.pointer (some ⟨3, 96, none⟩)]))
theorem ErrT.lt {w : World} (h : ErrT w) : 0 < w.heap.size := cell_lt h
theorem ErrT.below {w w' : World} {B : Nat} (h : ErrT w) (hb : Below B w w') (hB : 0 < B) : ErrT w' := (hb.cell (p := ⟨0, 0, none⟩) hB).trans h
/-- what leastMeeting keeps, with d points left. -/
def LmAt (f : List Int) (lv : Value) (S d : Nat) : Prop := ∀ (s : Int) (w : World), 0 ≤ s → s < 256 → cntTo s 8 + d = 8 → SRow w S lv f → Tab w → ErrT w → S ≤ w.heap.size →
  Calls Tryd.prog 67 #[.int .u64 s, .agg #[lv, (Value.func (.func 107) #[] #[])]] w fun e w' => e = .returned (.int .i64 (lmI f d s : Nat)) ∧ Below w.heap.size w w'
theorem cntI_eq : ∀ s : Fin 256, cntI (s.val : Nat) = cntTo (s.val : Nat) 8 := by decide +kernel
set_option maxHeartbeats 4000000 in
theorem lm_none (f : List Int) (lv : Value) (S : Nat) (s : Int) (w : World) (s1 : 0 ≤ s) (s2 : s < 256) (hx : SRow w S lv f) (hS : S ≤ w.heap.size) (hl : f.length ≤ 100000) (hz : ∀ z ∈ f, 0 ≤ z ∧ z < 256) (hm : missL s f = none) :
    Calls Tryd.prog 67 #[.int .u64 s, .agg #[lv, (Value.func (.func 107) #[] #[])]] w fun e w' => e = .returned (.int .i64 (cntTo s 8 : Nat)) ∧ Below w.heap.size w w' := by
  obtain ⟨a, cap, rfl, _⟩ := id hx
  have hbw := (((Below.refl w.heap.size w).alloc (Nat.le_refl _) (.cells #[.int .u64 s] 50)).alloc (by simp) (.cells #[.slice a f.length cap, (Value.func (.func 107) #[] #[])] 42)).alloc (by simp; omega) (.cells #[.int .u64 0] 100)
  have hmt := meeting_at s _ f S _ (hx.below hbw hS) hl s1 s2 hz
  rw [hm] at hmt
  have has := fun t W => as_nil t W
  have hsz := fun W => set_size s s1 s2 W
  have hc : cntI s = (cntTo s 8 : Nat) := by
    obtain ⟨y, rfl⟩ := Int.eq_ofNat_of_zero_le s1
    exact cntI_eq ⟨y, by omega⟩
  rw [hc] at hsz
  replace hmt := Lib.hid hmt
  replace has := Lib.hid has
  replace hsz := Lib.hid hsz
  replace hbw := Lib.hid hbw
  clear hx
  replace hz := Lib.hid hz
  go_enter Tryd.func67, Tryd.ntmps67
  go_wp2_with fail
  refine hmt.out.mono ?_
  rintro e w' ⟨rfl, rfl⟩
  rw [show errV none = .nilIface from rfl]
  go_wp2_with fail
  refine (has.out _ _).mono ?_
  rintro e w' ⟨rfl, rfl⟩
  go_wp2_with fail
  refine (hsz.out _).mono ?_
  rintro e w' ⟨rfl, rfl⟩
  go_wp2_with fail
  go_ret
  exact ⟨rfl, hbw.out⟩
/-- what As leaves. -/
def Hit (w : World) (s x : Int) (lv : Value) (W2 : World) : Prop :=
  Below w.heap.size w W2 ∧ w.heap.size + 3 ≤ W2.heap.size ∧ W2.cell? ⟨w.heap.size, 0, none⟩ = some (.int .u64 s) ∧ W2.cell? ⟨w.heap.size + 1, 0, none⟩ = some lv ∧ W2.cell? ⟨w.heap.size + 1, 1, none⟩ = some (Value.func (.func 107) #[] #[]) ∧ W2.cell? ⟨w.heap.size + 1 + 1, 0, none⟩ = some (.int .u64 x)
theorem hit_of {w W1 : World} {s x : Int} {lv : Value} (hb : Below (w.heap.size + 3) (((w.alloc (.cells #[.int .u64 s] 50)).alloc (.cells #[lv, (Value.func (.func 107) #[] #[])] 42)).alloc (.cells #[.int .u64 0] 100)) W1) : Hit w s x lv (W1.setCell ⟨w.heap.size + 1 + 1, 0, none⟩ (.int .u64 x)) := by
  have hs := hb.size
  simp only [World.size_alloc] at hs
  have hbw := (((Below.refl w.heap.size w).alloc (Nat.le_refl _) (.cells #[.int .u64 s] 50)).alloc (by simp) (.cells #[lv, (Value.func (.func 107) #[] #[])] 42)).alloc (by simp; omega) (.cells #[.int .u64 0] 100)
  have h0 := Boxed.new w 50 (.int .u64 s)
  have h1 := heap_alloc_new (w.alloc (.cells #[.int .u64 s] 50)) (.cells #[lv, (Value.func (.func 107) #[] #[])] 42)
  have h2 := Boxed.new ((w.alloc (.cells #[.int .u64 s] 50)).alloc (.cells #[lv, (Value.func (.func 107) #[] #[])] 42)) 100 (.int .u64 0)
  simp only [World.size_alloc] at h1 h2
  have h0' := (h0.alloc (.cells #[lv, (Value.func (.func 107) #[] #[])] 42)).alloc (.cells #[.int .u64 0] 100)
  have h1' := (Below.heap_alloc _ (.cells #[.int .u64 0] 100) _ (show w.heap.size + 1 < ((w.alloc (.cells #[.int .u64 s] 50)).alloc (.cells #[lv, (Value.func (.func 107) #[] #[])] 42)).heap.size by simp)).trans h1
  have g0 : W1.heap[w.heap.size]? = _ := (hb.block w.heap.size (by omega)).trans h0'
  have g1 : W1.heap[w.heap.size + 1]? = _ := (hb.block (w.heap.size + 1) (by omega)).trans h1'
  have g2 : Boxed W1 (w.heap.size + 1 + 1) 100 (.int .u64 0) := (hb.block (w.heap.size + 1 + 1) (by omega)).trans h2
  have k0 := (Below.heap_setCell W1 ⟨w.heap.size + 1 + 1, 0, none⟩ (.int .u64 x) w.heap.size (by simp; omega)).trans g0
  have k1 := (Below.heap_setCell W1 ⟨w.heap.size + 1 + 1, 0, none⟩ (.int .u64 x) (w.heap.size + 1) (by simp)).trans g1
  have k2 := (Boxed.set (.int .u64 x) g2).cell
  refine ⟨below_setCell (hbw.trans (hb.mono (by omega))) (by simp; omega) _, by simp; omega, ?_, ?_, ?_, k2⟩
  · rw [cell_of_row _ _ 0 _ 50 (0, 0) k0]; rfl
  · rw [cell_of_row _ _ 0 _ 42 (0, 0) k1]; rfl
  · rw [cell_of_row _ _ 1 _ 42 (0, 0) k1]; rfl
/-- the least number so far. -/
def leL (f : List Int) (d : Nat) (s : Int) (l : List Int) : Nat := l.foldl (fun a p => min a (lmI f d (withI s p))) 8
theorem leL_snoc (f : List Int) (d : Nat) (s : Int) (l : List Int) (p : Int) : leL f d s (l ++ [p]) = min (leL f d s l) (lmI f d (withI s p)) := by
  unfold leL; rw [List.foldl_append]; rfl
set_option maxHeartbeats 8000000 in
theorem lm_some (f : List Int) (lv : Value) (S d : Nat) (s x : Int) (w : World) (ih : LmAt f lv S d) (s1 : 0 ≤ s) (s2 : s < 256) (hc : cntTo s 8 + (d + 1) = 8) (hx : SRow w S lv f) (hT : Tab w) (hE : ErrT w) (hS : S ≤ w.heap.size) (hl : f.length ≤ 100000) (hz : ∀ z ∈ f, 0 ≤ z ∧ z < 256) (hm : missL s f = some x) :
    Calls Tryd.prog 67 #[.int .u64 s, .agg #[lv, (Value.func (.func 107) #[] #[])]] w fun e w' => e = .returned (.int .i64 (leL f d s (ptsI x) : Nat)) ∧ Below w.heap.size w w' := by
  obtain ⟨x1, x2, x3, _⟩ := miss_facts hz hm
  have hlt := hT.lt
  have hlt2 := hE.lt
  obtain ⟨a, cap, rfl, _⟩ := id hx
  have hbw := (((Below.refl w.heap.size w).alloc (Nat.le_refl _) (.cells #[.int .u64 s] 50)).alloc (by simp) (.cells #[.slice a f.length cap, (Value.func (.func 107) #[] #[])] 42)).alloc (by simp; omega) (.cells #[.int .u64 0] 100)
  have hmt := meeting_at s _ f S _ (hx.below hbw hS) hl s1 s2 hz
  rw [hm] at hmt
  have hbx := Boxed.new ((w.alloc (.cells #[.int .u64 s] 50)).alloc (.cells #[.slice a f.length cap, (Value.func (.func 107) #[] #[])] 42)) 100 (.int .u64 0)
  simp only [World.size_alloc] at hbx
  have has := as_hit x ⟨w.heap.size + 1 + 1, 0, none⟩ (.int .u64 0) _ (hE.below hbw hlt2) hbx.cell hbx.frozen
  replace hmt := Lib.hid hmt
  replace has := Lib.hid has
  replace hbw := Lib.hid hbw
  replace hz := Lib.hid hz
  replace hx := Lib.hid hx
  replace ih := Lib.hid ih
  replace hT := Lib.hid hT
  replace hE := Lib.hid hE
  replace hm := Lib.hid hm
  replace x3 := Lib.hid x3
  clear hbx
  refine (callsIn_wide (n := 10)).1 ?_
  refine callsIn_of_wp_marks Tryd.func67 rfl trivial ?_ rfl
  simp only [Tryd.ntmps67, List.size_toArray, List.length_cons, List.length_nil, Nat.reduceAdd, Nat.reduceSub, Array.replicate_succ, Array.replicate_zero, List.push_toArray, List.append_toArray, List.nil_append, List.cons_append]
  gi_wp2_with fail
  refine ⟨trivial, ?_⟩
  gi_at_call 101
  refine (callsIn_wide.2 hmt.out).mono ?_
  rintro e w' ⟨rfl, rfl⟩
  rw [show errV (some x) = .iface 100 (.agg #[.int .u64 x]) from rfl]
  gi_wp2_with fail
  refine ⟨trivial, ?_⟩
  gi_at_call 100
  refine (callsIn_wide.2 has.out).mono ?_
  rintro e w' ⟨rfl, W1, hw', hb1⟩
  have hH := hit_of (x := x) (by simpa using hb1)
  rw [← hw'] at hH
  clear hw' hb1 W1
  obtain ⟨h1, h2, h3, h4, h5, h6⟩ := hH
  have hcx : (w'.alloc (.cells #[.int .i64 8] 3)).cell? ⟨w.heap.size + 1 + 1, 0, none⟩ = some (.int .u64 x) := by rw [World.cell?_alloc_lt _ _ ⟨w.heap.size + 1 + 1, 0, none⟩ (by show w.heap.size + 1 + 1 < _; omega)]; exact h6
  gi_wp2_with (first | (refine ⟨trivial, ?_⟩; gi_at_call 62; refine (pts_make _ _).mono ?_; rintro e w2 ⟨rfl, rfl⟩))
  have hW0 : Below w'.heap.size w' ((w'.alloc (.cells #[.int .i64 8] 3)).alloc (.cells #[.int .u64 x] 50)) :=
    ((Below.refl _ w').alloc (Nat.le_refl _) _).alloc (by simp) _
  have bL := Boxed.new w' 3 (.int .i64 8)
  have bN := Boxed.new (w'.alloc (.cells #[.int .i64 8] 3)) 50 (.int .u64 x)
  rw [World.size_alloc] at bN
  have hsz := h1.size
  refine wpIn_rangeFunc_ownG rfl (by omega) (gf := 94) (lb := #[.pointer (some ⟨w'.heap.size + 1, 0, none⟩)]) rfl trivial (enters_of Tryd.func94 (by kernel_rfl) rfl)
    (pts_stops _ (by omega) (w'.heap.size + 1) w'.heap.size x x1 x2 _ (by simp) bN.cell ((hT.out.below h1 hlt).below hW0 (by omega)) (by omega)) belowK_t (belowK_b (by simp; omega)) (Below.refl _ _) (fun _ => rfl)
    (fun pre W => Boxed W w'.heap.size 3 (.int .i64 (leL f d s (vals pre) : Nat)) ∧ Below w'.heap.size w' W)
    (fun _ _ _ => False)
    (OwnFrom.and (_root_.Go.Own.from (boxed_own _ _ (fun (pre : List (PtOf x)) => .int .i64 (leL f d s (vals pre) : Nat))) _) (ownFrom_below (Nat.le_refl _) (by simp; omega)))
    (fun _ _ _ _ _ hs _ _ => hs)
    ⟨bL.alloc _, hW0⟩
    (fun y => { tmps := #[.int .u64 s, .agg #[.slice a f.length cap, (Value.func (.func 107) #[] #[])], .pointer (some ⟨w.heap.size, 0, none⟩), .pointer (some ⟨w.heap.size + 1, 0, none⟩), .int .i64 0, .pointer (some ⟨w.heap.size + 1 + 1, 0, none⟩), .pointer (some ⟨w'.heap.size, 0, none⟩), .int .i64 y.1, .int .u64 s, .pointer (some ⟨w.heap.size + 1, 0, none⟩), .slice a f.length cap, .iface 100 (.agg #[.int .u64 x]), .iface 103 (.pointer (some ⟨w.heap.size + 1 + 1, 0, none⟩)), .bool true, .bool false, undef, undef, .pointer (some ⟨w.heap.size + 1 + 1, 0, none⟩), .int .u64 x, .func (.func 94) #[] #[.pointer (some ⟨w'.heap.size + 1, 0, none⟩)], .int .i64 y.1, undef, undef, undef, undef, undef, undef, undef, undef], defers := [] }) ?assign ?body ?done ?stop
  case assign =>
    intro l y W K hK
    gi_wp2
    exact hK
  case body =>
    rintro l pre ⟨p, p1, p2, p3⟩ W ⟨hL, hB⟩ hlen
    obtain ⟨q, rfl⟩ := Int.eq_ofNat_of_zero_le p1
    obtain ⟨e1, e2, e3, _⟩ := with_facts s1 s2 (show q < 8 by omega) (has_apart x3.out p3)
    have hd : 1 ≤ 10 - 1 - 1 := by omega
    have hmx : Tryd.prog.follows .mixedOrders = true := by kernel_rfl
    have c0 := hL.cell
    have f0 := hL.frozen
    have c1 : W.cell? ⟨w.heap.size, 0, none⟩ = some (.int .u64 s) := (hB.cell (p := ⟨w.heap.size, 0, none⟩) (show w.heap.size < w'.heap.size by omega)).trans h3
    have c2 : W.cell? ⟨w.heap.size + 1, 0, none⟩ = some (.slice a f.length cap) := (hB.cell (p := ⟨w.heap.size + 1, 0, none⟩) (show w.heap.size + 1 < w'.heap.size by omega)).trans h4
    have c3 : W.cell? ⟨w.heap.size + 1, 1, none⟩ = some (Value.func (.func 107) #[] #[]) := (hB.cell (p := ⟨w.heap.size + 1, 1, none⟩) (show w.heap.size + 1 < w'.heap.size by omega)).trans h5
    have hlL := hL.lt
    obtain ⟨t, ht⟩ : ∃ t, withI s (q : Nat) = t := ⟨_, rfl⟩
    have hwi := fun W => set_with s (q : Nat) s1 s2 (by omega) (by omega) W
    rw [ht] at e1 e2 e3 hwi
    have eS := leL_snoc f d s (vals pre) (q : Nat)
    rw [ht] at eS
    obtain ⟨A, hA⟩ : ∃ A, leL f d s (vals pre) = A := ⟨_, rfl⟩
    obtain ⟨B, hBb⟩ : ∃ B, lmI f d t = B := ⟨_, rfl⟩
    rw [hA] at hL c0 eS
    rw [hBb] at eS
    have hrec : ∀ W', Below w'.heap.size w' W' → Boxed W' w'.heap.size 3 (.int .i64 (A : Nat)) → Calls Tryd.prog 67 #[.int .u64 t, .agg #[.slice a f.length cap, (Value.func (.func 107) #[] #[])]] W' fun e w1 => e = .returned (.int .i64 (B : Nat)) ∧ w1.cell? ⟨w'.heap.size, 0, none⟩ = some (.int .i64 (A : Nat)) ∧ w1.frozen? ⟨w'.heap.size, 0, none⟩ = false ∧ Hid (Below W'.heap.size W' w1) := fun W' hb hL' => by
      have := ih.out t W' e1 e2 (by omega) ((hx.out.below h1 hS).below hb (by omega)) ((hT.out.below h1 hlt).below hb (by omega)) ((hE.out.below h1 hlt2).below hb (by omega)) (by have := hb.size; omega)
      rw [hBb] at this
      refine this.mono ?_
      rintro e w1 ⟨rfl, hb1⟩
      exact ⟨rfl, (hb1.cell (p := ⟨w'.heap.size, 0, none⟩) hL'.lt).trans hL'.cell, (hb1.frozen (p := ⟨w'.heap.size, 0, none⟩) hL'.lt).trans hL'.frozen, Lib.hid hb1⟩
    have hfin : ∀ (w1 : World) (b : Nat), Below W.drew.heap.size W.drew w1 → KeepsFrom b W (w1.setCell ⟨w'.heap.size, 0, none⟩ (.int .i64 (min (A : Int) (B : Int)))) ∧ Below w'.heap.size W (w1.setCell ⟨w'.heap.size, 0, none⟩ (.int .i64 (min (A : Int) (B : Int)))) ∧
        Boxed (w1.setCell ⟨w'.heap.size, 0, none⟩ (.int .i64 (min (A : Int) (B : Int)))) w'.heap.size 3 (.int .i64 (leL f d s (vals (pre ++ [⟨((q : Nat) : Int), p1, p2, p3⟩])) : Nat)) ∧ Below w'.heap.size w' (w1.setCell ⟨w'.heap.size, 0, none⟩ (.int .i64 (min (A : Int) (B : Int)))) := fun w1 b h => by
      have hk : Below W.heap.size W w1 := ⟨h.os, h.tape, h.output, h.size, h.block⟩
      have hko : KeepsOthers W w1 := ⟨hk.size, fun k o ho _ => (hk.block k (Array.getElem?_eq_some_iff.1 ho).1).trans ho⟩
      have hW := hB.size
      have e : ((min A B : Nat) : Int) = min (A : Int) (B : Int) := by omega
      have hL1 : Boxed w1 w'.heap.size 3 (.int .i64 (A : Nat)) := (hk.block _ hL.lt).trans hL
      refine ⟨(hko.trans (KeepsOthers.setCell _ _ _)).from b, below_setCell (hk.mono hW) (Nat.le_refl _) _, ?_, below_setCell (hB.trans (hk.mono hW)) (Nat.le_refl _) _⟩
      rw [vals_snoc, eS, e]
      exact Boxed.set _ hL1
    replace hfin := Lib.hid hfin
    replace hwi := Lib.hid hwi
    replace hrec := Lib.hid hrec
    replace hA := Lib.hid hA
    replace hBb := Lib.hid hBb
    replace ht := Lib.hid ht
    replace eS := Lib.hid eS
    gi_wp2
    gi_region_with_o (first | (refine ⟨trivial, ?_⟩; gi_at_call 74; refine (CallsIn.inRound l (callsIn_wide.2 (hwi.out _))).mono ?_; rintro e w2 ⟨rfl, rfl⟩) | (refine ⟨trivial, ?_⟩; gi_at_call 67; refine (CallsIn.inRound l (callsIn_wide.2 (hrec.out _ (by first | exact hB | exact hB.drew) (by exact hL)))).mono ?_; rintro e w1 ⟨rfl, g0, k0, hb1⟩))
    all_goals gi_wp2
    all_goals exact hfin.out w1 _ hb1.out
  case done =>
    rintro D ys W hD hys ⟨hR, hB⟩ hK
    rw [hys] at hR
    have hc := hR.cell
    gi_wp2
    refine ⟨by simp, .inl ⟨_, _, rfl, run_takeDeferred hK, ?_⟩⟩
    exact ⟨_, results_tmp rfl _ _ _, rfl, (h1.trans (hB.mono hsz)).trans (belowK_b (w := w) (Nat.le_refl _) W D _ _ (by simp at hD; omega) hK rfl rfl)⟩
  case stop =>
    rintro D c pre W _ _ h _
    exact h.elim
theorem lm_any (f : List Int) (lv : Value) (S : Nat) (hl : f.length ≤ 100000) (hz : ∀ z ∈ f, 0 ≤ z ∧ z < 256) (h0 : ∀ z ∈ f, z ≠ 0) : ∀ d, LmAt f lv S d
  | 0 => fun s w s1 s2 hc hx hT hE hS => by
    have hm : missL s f = none := by
      rw [miss_none, List.all_eq_true]
      intro z hzm
      obtain ⟨y, rfl⟩ := Int.eq_ofNat_of_zero_le s1
      have := cnt_full ⟨y, by omega⟩ (by dsimp only; omega)
      dsimp only at this
      subst this
      obtain ⟨a, b⟩ := hz z hzm
      have h3 := h0 z hzm
      obtain ⟨u, rfl⟩ := Int.eq_ofNat_of_zero_le a
      exact meets_full ⟨u, by omega⟩ (by dsimp only; omega)
    exact lm_none f lv S s w s1 s2 hx hS hl hz hm
  | d + 1 => fun s w s1 s2 hc hx hT hE hS => by
    have ih := lm_any f lv S hl hz h0 d
    cases hm : missL s f with
    | none =>
      have e : lmI f (d + 1) s = cntTo s 8 := by unfold lmI; rw [hm]
      rw [e]
      exact lm_none f lv S s w s1 s2 hx hS hl hz hm
    | some x =>
      have e : lmI f (d + 1) s = leL f d s (ptsI x) := by unfold lmI; rw [hm]; rfl
      rw [e]
      exact lm_some f lv S d s x w ih s1 s2 hc hx hT hE hS hl hz hm
end Go.Proofs.YtgkbaenjniapiaaDoor
