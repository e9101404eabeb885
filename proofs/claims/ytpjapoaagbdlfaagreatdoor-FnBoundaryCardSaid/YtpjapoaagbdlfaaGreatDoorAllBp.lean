/- Texts merged: XBo8 XBo9 XBoA XBoB XBoC. -/
import Derived.Test.YtpjapoaagbdlfaaGreatDoorAllBo
import Derived.Test.YtpjapoaagbdlfaaGreatDoorAllSp
import Derived.Deep.RegionHeld3
import Derived.BigQuiet
import Derived.Test.YtpjapoaagbdlfaaGreatDoorFLaws
namespace Go.Proofs.YtpjapoaagbdlfaaGreatDoor
section
/- All sets in ball order: the model's comparison. -/
open Go.ChangeShapes Go.WideShapes Go.ChangeAt Go.RowKit Go.Proofs

theorem fd_step {a b : Int} {k : Nat} (h : k < 8) : fdB a b (8 - k) = if hasB a (k : Nat) != hasB b (k : Nat) then hasB a (k : Nat) else fdB a b (8 - (k + 1)) := by
  obtain ⟨j, hj⟩ : ∃ j, 8 - k = j + 1 := ⟨8 - k - 1, by omega⟩
  rw [hj, show 8 - (k + 1) = j by omega]
  have e : (7 - (j : Nat) : Int) = (k : Nat) := by omega
  show (if hasB a (7 - (j : Nat) : Int) != hasB b (7 - (j : Nat) : Int) then hasB a (7 - (j : Nat) : Int) else fdB a b j) = _
  rw [e]
end
section
/- All sets in ball order: the model's list. -/
open Go.ChangeShapes Go.WideShapes Go.ChangeAt Go.RowKit Go.Proofs

set_option maxRecDepth 100000 in
set_option maxHeartbeats 4000000 in
theorem step_app_intsb {w : World} {ops : Array Oper} {o : Oper} {a : Act} {K : Act → World → Prop} {Q : Exit → Act → World → Prop} {E : Prop} (hgd : o.guard = none) (s x : Operand)
    (ho : o.op = .call { callee := .builtin .append, args := #[s, x], argTypes := #[23, 23] })
    (B : Nat) (v : Value) (xs : List Int) (hs : a.eval s = v) (hown : OwnL w B v xs) (A : Option Addr) (c S : Nat) (ys : List Int) (hx : a.eval x = .slice A ys.length c) (hr : Row w S (.slice A ys.length c) ys)
    (hlen : xs.length ≤ 1073741824) (hlen2 : ys.length ≤ 1073741824) (hB : B ≤ w.heap.size)
    (h : ∀ v' w', OwnL w' B v' (xs ++ ys) → w.grownBy w' v.ownBlock → (∀ b, Below B b w → Below B b w') → K (a.put o.dst v') w') : if Region.wanted o (yielded ops a.tmps) = true then Oper.wp Tryz.prog o a w K Q else E := by
  have hw : Region.wanted o (yielded ops a.tmps) = true := by simp [Region.wanted, hgd]
  rw [if_pos hw]
  obtain ⟨i0, hi0, hz0, hz1, hz2⟩ := info_parts Tryz.intInfo
  obtain ⟨A', c', e, hc⟩ := hr
  injection e with e1 e2 e3
  subst e1 e3
  have hbel : ∀ w', w.grownBy w' v.ownBlock → ∀ b, Below B b w → Below B b w' := fun w' hg b hb => hb.grown hg hB (fun k e => (World.ownsRow.lt hown k e).1)
  rcases A with _ | ad
  · have hn : ys = [] := by
      rcases Nat.eq_zero_or_pos ys.length with h0 | h0
      · exact List.length_eq_zero_iff.1 h0
      · obtain ⟨b, off, e, _⟩ := hc h0; cases e
    subst hn
    have hrun := run_app_none_i o.type hown c
    unfold Oper.wp
    simp only [List.length_nil] at hx
    simp [execOp, ho, resolve, invoke, builtin, hs, hx, hrun, Result.andThen]
    exact h v w (by rw [List.append_nil]; exact hown) (World.grownBy.refl w _) (fun b hb => hb)
  · refine wp_append_own w s x 23 ho B 3 i0 (.int .i64 0) 1 8 Tryz.underlying23 hi0 hz0 hz1 hz2 rfl (by decide) v xs.length (iv xs) hs hown ad ys.length c (iv ys) hx (by simp [iv]) ?_ (iv_one ys) (by unfold maxLen; omega) (by omega) hB ?_
    · intro j u hu
      obtain ⟨hj, rfl⟩ := iv_get hu
      obtain ⟨b, off, e, _, hcc⟩ := hc (by omega)
      injection e with e
      subst e
      have hadd : (⟨b, off, none⟩ : Addr).add j = ⟨b, off + j, none⟩ := by simp [Addr.add]
      rw [hadd]
      exact hcc j hj
    · intro v' w' hown' hg _
      refine h v' w' ?_ hg (hbel w' hg)
      unfold OwnL
      rw [List.map_append, List.length_append]
      exact hown'
set_option maxRecDepth 100000 in
set_option maxHeartbeats 4000000 in
theorem cell_growb {w w' : World} {v : Value} {p : Addr} {u : Value} (h : w.cell? p = some u) (hp : p.block < w.heap.size) (hg : w.grownBy w' v.ownBlock) (hne : v.ownBlock ≠ some p.block) : w'.cell? p = some u := by
  have e := hg.block p.block hp (fun e => hne e.symm)
  simp only [World.cell?, e] at h ⊢
  exact h
set_option maxRecDepth 100000 in
set_option maxHeartbeats 4000000 in
theorem slice_fromi (b o n c l : Nat) (h1 : l ≤ n) (W : World) : (Instr.sliceAt 23 (.slice (some ⟨b, o, none⟩) n c) (some (.int .i64 ((l : Nat) : Int))) none none).run Tryz.prog W = .ok (.slice (some (if c = l then ⟨b, o, none⟩ else ⟨b, o + l, none⟩)) (n - l) (c - l)) W := by
  have hs : (sizeOf (Tryz.prog.elem 23)).run Tryz.prog W = .ok 1 W := by kernel_rfl
  have ht : Tryz.prog.underlying 23 = some (.slice (Tryz.prog.elem 23)) := by kernel_rfl
  refine (run_sliceAt_slice W 23 _ _ _ _ ht).trans ?_
  refine (run_slice_l W 23 _ _ _ ht _ _ (by omega) (by omega)).trans ?_
  rw [hs]
  simp only [Result.andThen, sliced, Int.toNat_natCast, Nat.mul_one]
  by_cases h : c = l
  · rw [if_pos h, if_pos h]
  · rw [if_neg h, if_neg h]; simp [Addr.add]
theorem slice_toi (b o M c l : Nat) (h0 : l ≤ M) (h1 : M ≤ c) (W : World) : (Instr.sliceAt 23 (.slice (some ⟨b, o, none⟩) M c) none (some (.int .i64 ((l : Nat) : Int))) none).run Tryz.prog W = .ok (.slice (some ⟨b, o, none⟩) l c) W := by
  have hs : (sizeOf (Tryz.prog.elem 23)).run Tryz.prog W = .ok 1 W := by kernel_rfl
  have ht : Tryz.prog.underlying 23 = some (.slice (Tryz.prog.elem 23)) := by kernel_rfl
  refine (run_sliceAt_slice W 23 _ _ _ _ ht).trans ?_
  refine (run_slice_h W 23 _ _ _ ht _ _ (by omega) (by omega)).trans ?_
  rw [hs]
  simp only [Result.andThen, sliced, Int.toNat_natCast, Nat.mul_one]
  by_cases h : c = 0
  · simp [h]
  · simp [Addr.add]
theorem ku_succ (j : Nat) : kL (upI (j + 1)) = insI (bkI (j : Nat)) (kL (upI j)) := by
  unfold kL
  rw [upI_succ, List.map_append, List.map_singleton, sortL_snoc]
theorem ku_mem {j : Nat} (_hj : j ≤ 256) {k : Int} (h : k ∈ kL (upI j)) : ∃ x : Int, 0 ≤ x ∧ x < j ∧ k = bkI x := by
  unfold kL at h
  rw [mem_sortL] at h
  obtain ⟨x, hx, rfl⟩ := List.mem_map.1 h
  have := mem_upI.1 hx
  exact ⟨x, this.1, this.2, rfl⟩
theorem ku_not {j : Nat} (hj : j < 256) : memB (bkI (j : Nat)) (kL (upI j)) = false := memB_mk0 fun h => by
  obtain ⟨x, x1, x2, e⟩ := ku_mem (by omega) h
  have a := (bk_facts (s := (j : Nat)) (by omega) (by omega)).2.2
  have b := (bk_facts (s := x) x1 (by omega)).2.2
  rw [e, b] at a
  omega
theorem ku_len : ∀ j : Nat, j ≤ 256 → (kL (upI j)).length = j
  | 0, _ => by simp [kL, upI, sortL]
  | j + 1, h => by rw [ku_succ, ins_len (ku_not (by omega)), ku_len j (by omega)]
theorem ku_isK {j : Nat} (hj : j ≤ 256) : ∀ k ∈ kL (upI j), IsK k := fun k hk => by
  obtain ⟨x, x1, x2, rfl⟩ := ku_mem hj hk
  exact isK_of x1 (by omega)
theorem ku_asc (j : Nat) : Asc (kL (upI j)) := asc_sortL _
theorem place_ku {j k : Nat} (hj : j < 256) (hk : k ≤ j) (h1 : ∀ i, k ≤ i → i < j → bkI (j : Nat) < (kL (upI j)).getD i 0) (h2 : k = 0 ∨ (kL (upI j)).getD (k - 1) 0 ≤ bkI (j : Nat)) : k = plN (bkI (j : Nat)) (kL (upI j)) := by
  have hl := ku_len j (by omega)
  refine plN_eq (by omega) (fun i hi => ?_) (fun i hi1 hi2 => ?_)
  · rcases h2 with h2 | h2
    · omega
    · have hne : (kL (upI j)).getD i 0 ≠ bkI (j : Nat) := fun e => by
        have := memB_no (ku_not hj)
        exact this (by rw [← e]; exact getD_mem (by omega))
      by_cases e : i = k - 1
      · subst e; omega
      · have := asc_get (ku_asc j) (i := i) (j := k - 1) (by omega) (by omega)
        omega
  · have := h1 i hi1 (by omega); omega
theorem own_some {w : World} {B : Nat} {v : Value} {xs : List Int} (h : OwnL w B v xs) (h0 : 0 < xs.length) : ∃ g c, v = .slice (some ⟨g, 0, none⟩) xs.length c ∧ xs.length ≤ c ∧ c ≤ 9223372036854775807 ∧ B ≤ g ∧ g < w.heap.size ∧ CellsAt w g 0 xs := by
  have hc := @World.ownsRow.cells _ _ _ _ _ _ _ h
  rcases h.2 with ⟨rfl, hn⟩ | ⟨g, cap, cur, rfl, hB, hg, hn, hm, hs, ht⟩
  · omega
  · refine ⟨g, cap, rfl, hn, by unfold maxLen at hm; omega, hB, (Array.getElem?_eq_some_iff.1 hg).1, fun i hi => ?_⟩
    have e : (xs.map (Value.int .i64))[i]? = some (.int .i64 (xs.getD i 0)) := by
      rw [List.getElem?_map, List.getD_eq_getElem?_getD, List.getElem?_eq_getElem hi]; rfl
    have := hc (g := g) rfl i _ e
    have hadd : (⟨g, 0, none⟩ : Addr).add i = ⟨g, i, none⟩ := by unfold Addr.add; split <;> simp_all
    rw [hadd] at this
    rw [Nat.zero_add]
    exact this
theorem row_take_i {w : World} {S g c k : Nat} {ys : List Int} (hk : k ≤ ys.length) (hg : g < S) (hc : CellsAt w g 0 ys) : Row w S (.slice (some ⟨g, 0, none⟩) (ys.take k).length c) (ys.take k) := by
  refine ⟨_, _, rfl, fun _ => ⟨g, 0, rfl, hg, fun i hi => ?_⟩⟩
  rw [List.length_take] at hi
  rw [hc i (by omega)]
  congr 2
  simp [List.getD_eq_getElem?_getD, show i < k by omega]
theorem row_drop_i {w : World} {S g c k : Nat} {ys : List Int} (hk : k ≤ ys.length) (hcap : ys.length ≤ c) (hg : g < S) (hc : CellsAt w g 0 ys) : Row w S (.slice (some (if c = k then ⟨g, 0, none⟩ else ⟨g, 0 + k, none⟩)) (ys.drop k).length (c - k)) (ys.drop k) := by
  refine ⟨_, _, rfl, fun h0 => ?_⟩
  rw [List.length_drop] at h0
  rw [if_neg (show ¬ c = k by omega)]
  refine ⟨g, 0 + k, rfl, hg, fun i hi => ?_⟩
  rw [List.length_drop] at hi
  rw [Nat.add_assoc, hc (k + i) (by omega)]
  congr 2
  simp [List.getD_eq_getElem?_getD]
/-- what the model's list leaves. -/
def OrdPost (B : Nat) (L : List Int) (w : World) (e : Ending) (w' : World) : Prop := ∃ v, e = .returned v ∧ OwnL w' B v L ∧ Below B w w' ∧ (∃ g c, v = .slice (some ⟨g, 0, none⟩) L.length c ∧ L.length ≤ c ∧ c ≤ 9223372036854775807)

end
section
/- All sets in ball order: the model. -/
open Go.ChangeShapes Go.WideShapes Go.ChangeAt Go.RowKit Go.Proofs

theorem ownL_mono {w : World} {B B' : Nat} {v : Value} {xs : List Int} (h : OwnL w B v xs) (hB : B' ≤ B) : OwnL w B' v xs := by
  refine ⟨h.1, ?_⟩
  rcases h.2 with hn | ⟨g, cap, cur, rfl, hb, rest⟩
  · exact .inl hn
  · exact .inr ⟨g, cap, cur, rfl, by omega, rest⟩
end
section
/- BoundaryOrder: the model, the law; the first sets of an order: the program. -/
open Go.ChangeShapes Go.WideShapes Go.ChangeAt Go.RowKit Go.Proofs

/-- m sets of n points can be told. -/
def fiB (n m : Int) : Bool := ptsB n && decide (0 ≤ m ∧ m ≤ 2 ^ n.toNat)
/-- what BoundaryFirst gives. -/
def fiL (n m : Int) : List Int := sortL ((orL n).take m.toNat)
/-- what first leaves. -/
def FirstPostK (w : World) (ys : List Int) (e : Ending) (w' : World) : Prop := ∃ v, e = .returned (.agg #[v, (Value.func (.func 106) #[] #[])]) ∧ SRow w' w'.heap.size v ys ∧ Below w.heap.size w w'
set_option maxRecDepth 100000 in
set_option maxHeartbeats 4000000 in
theorem first_ball (lv : Value) (xs : List Int) (m : Nat) (S : Nat) (w : World) (hx : SRow w S lv xs) (hS : S ≤ w.heap.size) (hl : xs.length ≤ 1000) (hm : m ≤ xs.length) :
    Calls Tryz.prog 31 #[.agg #[lv, (Value.func (.func 106) #[] #[])], .int .i64 (m : Nat)] w (FirstPostK w (xs.take m)) := by
  have hmk := fun W => run_make_row' (P := Tryz.prog) 41 48 (.int .u64 0) 8 Tryz.underlying41 Tryz.setInfo rfl .i64 .i64 xs.length (by omega) (by omega) W
  simp only [made_list] at hmk
  obtain ⟨a, cap, rfl, ha⟩ := hx
  obtain ⟨N, hN⟩ : ∃ N, xs.length = N := ⟨_, rfl⟩
  rw [hN] at hmk hl hm ⊢
  have hm0 : (0 : Int) ≤ (m : Nat) := by omega
  have hm1 : ((m : Nat) : Int) ≤ (N : Nat) := by omega
  obtain ⟨w3, hw3⟩ : ∃ w3, ((w.alloc (.cells #[.slice a N cap, (Value.func (.func 106) #[] #[])] 44)).alloc (.cells #[.slice none 0 0, .nilFunc] 44)).alloc (.cells (Array.replicate N (Value.int .u64 0)) 48) = w3 := ⟨_, rfl⟩
  have hbb : Below w.heap.size w w3 := hw3 ▸ (((Below.refl w.heap.size w).alloc (Nat.le_refl _) (.cells #[.slice a N cap, (Value.func (.func 106) #[] #[])] 44)).alloc (by simp) (.cells #[.slice none 0 0, .nilFunc] 44)).alloc (by simp; omega) _
  have hz3 : w3.heap.size = w.heap.size + 3 := by rw [← hw3]; simp
  have hg3 : w3.heap[w.heap.size + 1 + 1]? = some (.cells (List.replicate N (Value.int .u64 0)).toArray 48 (0, 0)) := by
    have := heap_alloc_new ((w.alloc (.cells #[.slice a N cap, (Value.func (.func 106) #[] #[])] 44)).alloc (.cells #[.slice none 0 0, .nilFunc] 44)) (.cells (Array.replicate N (Value.int .u64 0)) 48)
    rw [hw3] at this
    simpa using this
  have hc3 : w3.heap[w.heap.size]? = some (.cells #[.slice a N cap, (Value.func (.func 106) #[] #[])] 44 (0, 0)) := by rw [← hw3]; exact new_cell3a w _ _ _ _
  have hr3 : w3.heap[w.heap.size + 1]? = some (.cells #[.slice none 0 0, .nilFunc] 44 (0, 0)) := by rw [← hw3]; exact new_cell3b w _ _ _ _
  have hcs : 0 < (sv xs).length → ∃ ad, a = some ad ∧ ∀ j u, (sv xs)[j]? = some u → w3.cell? (ad.add j) = some u := fun h0 => by
    rw [sv_len] at h0
    obtain ⟨b, off, rfl, hb, hc⟩ := ha (by omega)
    refine ⟨_, rfl, fun j u hj => ?_⟩
    obtain ⟨h1, rfl⟩ := sv_get hj
    have hadd : (⟨b, off, none⟩ : Addr).add j = ⟨b, off + j, none⟩ := by simp [Addr.add]
    rw [hadd, hbb.cell (p := ⟨b, off + j, none⟩) (by show b < w.heap.size; omega)]
    exact hc j h1
  have hss : (sv xs).length = N := by rw [sv_len, hN]
  have hsp := sp_copied xs N hN.symm
  have e0 : w3.cell? ⟨w.heap.size, 0, none⟩ = some (.slice a N cap) := by rw [cell_of_row w3 _ 0 _ 44 (0, 0) hc3]; rfl
  have e1 : w3.cell? ⟨w.heap.size, 1, none⟩ = some (Value.func (.func 106) #[] #[]) := by rw [cell_of_row w3 _ 1 _ 44 (0, 0) hc3]; rfl
  replace ha := Lib.hid ha
  replace hbb := Lib.hid hbb
  replace hcs := Lib.hid hcs
  replace hg3 := Lib.hid hg3
  replace hc3 := Lib.hid hc3
  replace hr3 := Lib.hid hr3
  replace hss := Lib.hid hss
  replace hsp := Lib.hid hsp
  replace hz3 := Lib.hid hz3
  replace hN := Lib.hid hN
  go_enter Tryz.func31, Tryz.ntmps31
  go_wp2_with (with_reducible refine wpList_copy_splice rfl (.tmp 10) (.tmp 12) 41 41 rfl 48 Tryz.underlying41 set_size1 (some ⟨w.heap.size + 1 + 1, 0, none⟩) a N N N cap rfl rfl (w.heap.size + 1 + 1) 0 (List.replicate N (Value.int .u64 0)) 48 hg3.out (sv xs) (by rw [hss.out]; exact (Nat.min_self N).symm) (fun h => ⟨rfl, hcs.out h⟩) (by rw [hss.out]; simp) (sv_one xs) (w.heap.size + 2) w3 (Below.refl _ _) (by omega) ?_; intro w4 hg4 hb4)
  rw [hsp.out] at hg4
  have hz4 : w3.heap.size ≤ w4.heap.size := hb4.size
  have f0 : w4.cell? ⟨w.heap.size, 0, none⟩ = some (.slice a N cap) := by rw [hb4.cell (p := ⟨w.heap.size, 0, none⟩) (by simp)]; exact e0
  have f1 : w4.cell? ⟨w.heap.size, 1, none⟩ = some (Value.func (.func 106) #[] #[]) := by rw [hb4.cell (p := ⟨w.heap.size, 1, none⟩) (by simp)]; exact e1
  obtain ⟨d0, d1, df0, df1⟩ := res_cells hr3.out hb4
  have rr := fun v => two_cells v (Value.func (.func 106) #[] #[]) d0 d1
  have hb5 := Lib.hid (hbb.out.trans (hb4.mono (by omega)))
  have hrow := Lib.hid (row_take (show m ≤ xs.length by rw [hN.out]; exact hm) hg4.out (w.heap.size + 3) (by omega))
  have hz5 := hz3.out
  clear hbb hcs hg3 hc3 hr3 hss hsp hg4 hb4 e0 e1 hmk ha
  have hff := Lib.hid (fun u => (hrow.out.setCell (p := ⟨w.heap.size + 1, 0, none⟩) (u := u) (by simp)).setCell (p := ⟨w.heap.size + 1, 1, none⟩) (u := (Value.func (.func 106) #[] #[])) (by simp))
  have hbf := Lib.hid (fun u => below_setCell (below_setCell hb5.out (p := ⟨w.heap.size + 1, 0, none⟩) (by simp) u) (p := ⟨w.heap.size + 1, 1, none⟩) (by simp) (Value.func (.func 106) #[] #[]))
  have hzf := Lib.hid (show w.heap.size + 3 ≤ w4.heap.size by omega)
  go_region
  go_wp2_with fail
  exact bodyPost_ret (v := .agg #[.slice (some ⟨w.heap.size + 1 + 1, 0, none⟩) m m, (Value.func (.func 106) #[] #[])]) (by simp [results, Tryz.results31, go_sem, (rr _).1, (rr _).2]) rfl ⟨_, rfl, ((hff.out _).mono (by have := hzf.out; simp [World.drew]; omega)).drewS, below_drewN (hbf.out _) 1⟩
theorem orL_len {n : Int} (n1 : 1 ≤ n) (n2 : n ≤ 8) : (orL n).length = 2 ^ n.toNat := by
  obtain ⟨p1, p2, p3⟩ := pow_nat n1 n2
  unfold orL
  rw [up_sort, unL_len, ku_len _ p1]
theorem sort_bd {xs : List Int} (hz : ∀ z ∈ xs, 0 ≤ z ∧ z < 256) : (sortL xs).length ≤ 256 ∧ ∀ z ∈ sortL xs, 0 ≤ z ∧ z < 256 := by
  have h : ∀ z ∈ sortL xs, 0 ≤ z ∧ z < 256 := fun z hz2 => hz z (mem_sortL.1 hz2)
  exact ⟨asc_len256 (asc_sortL xs) h, h⟩
set_option maxRecDepth 100000 in
set_option maxHeartbeats 2000000 in
theorem first_in_ball (n m : Int) (w : World) (hT : Tab w) : Calls Tryz.prog 46 #[balO n, .int .i64 m] w (ListPost (ifL (fiB n m) (fiL n m)) (fiB n m) w) := by
  have hpt := fun W => pts_bal n W
  have hpp := fun W => pts_in n W
  have hmt := mth_bal n
  replace hpt := Lib.hid hpt
  rcases (by cases ptsB n <;> simp : ptsB n = true ∨ ptsB n = false) with hp | hp
  · obtain ⟨n1, n2⟩ := ptsB_yes hp
    rw [hp] at hpp
    replace hpp := Lib.hid hpp
    obtain ⟨p1, p2, p3⟩ := pow_nat n1 n2
    have hol := orL_len n1 n2
    obtain ⟨N, hN⟩ : ∃ N : Nat, 2 ^ n.toNat = N := ⟨_, rfl⟩
    have hNi : (2 : Int) ^ n.toNat = (N : Nat) := by rw [← hN]; simp
    have hn0 : (0 : Int) ≤ n := by omega
    have hn64 : n < 64 := by omega
    rw [hN] at p1 p2 p3 hol
    by_cases hm : 0 ≤ m ∧ m ≤ (N : Int)
    · have hb : fiB n m = true := by unfold fiB; rw [hp, hNi]; exact decide_eq_true hm
      rw [hb]
      show Calls Tryz.prog 46 #[balO n, .int .i64 m] w (ListPost (fiL n m) true w)
      obtain ⟨m1, m2⟩ := hm
      obtain ⟨M, rfl⟩ : ∃ M : Nat, m = (M : Nat) := ⟨m.toNat, by omega⟩
      have hin := in_ball n n1 n2 w hT
      change Calls Tryz.prog 76 #[balO n] w fun e w' => ∃ v, e = .returned (.agg #[v, (Value.func (.func 106) #[] #[])]) ∧ SetL w' w.heap.size v (orL n) ∧ Below w.heap.size w w' at hin
      have hz := (kL_up_len n1 n2).2
      unfold fiL
      obtain ⟨ys, hys⟩ : ∃ ys, orL n = ys := ⟨_, rfl⟩
      rw [hys] at hin hz hol ⊢
      rw [show ((M : Nat) : Int).toNat = M from Int.toNat_natCast M]
      have hzt : ∀ z ∈ ys.take M, 0 ≤ z ∧ z < 256 := fun z h => hz z (List.mem_of_mem_take h)
      obtain ⟨hsl, hsz⟩ := sort_bd hzt
      have hfl := fld0b
      have hMl : M ≤ ys.length := by omega
      have hyl : ys.length ≤ 256 := by omega
      obtain ⟨ts, hts⟩ : ∃ ts, ys.take M = ts := ⟨_, rfl⟩
      have htl : ts.length ≤ 256 := by rw [← hts, List.length_take]; omega
      rw [hts] at hzt hsl hsz ⊢
      replace hts := Lib.hid hts
      replace hin := Lib.hid hin
      replace hsz := Lib.hid hsz
      replace hzt := Lib.hid hzt
      replace hz := Lib.hid hz
      replace hys := Lib.hid hys
      replace hb := Lib.hid hb
      replace hp := Lib.hid hp
      replace hN := Lib.hid hN
      replace hNi := Lib.hid hNi
      replace hol := Lib.hid hol
      go_enter Tryz.func46, Tryz.ntmps46
      go_wp2_with (first | (go_at_call 153; refine (hpt.out _).mono ?_; rintro e w' ⟨rfl, rfl⟩) | (go_at_call 51; refine (hpp.out _).mono ?_; rintro e w' ⟨rfl, rfl⟩))
      refine hin.out.mono ?_
      rintro e w1 ⟨v1, rfl, hS1, hb1⟩
      obtain ⟨a1, c1, rfl⟩ := hS1.form
      have hz1 := hb1.size
      have hfs := first_ball _ ys M _ w1 hS1.row (Nat.le_refl _) (by omega) hMl
      rw [hts.out] at hfs
      replace hfs := Lib.hid hfs
      replace hb1 := Lib.hid hb1
      clear hS1 hin
      go_wp2_with fail
      refine hfs.out.mono ?_
      rintro e w2 ⟨v2, rfl, hS2, hb2⟩
      have hz2 := hb2.size
      have hfo := Lib.hid (family_of _ ts _ w2 hS2 (Nat.le_refl _) (fun k _ => by
        have := (sort_bd (xs := ts.take k) (fun z h => hzt.out z (List.mem_of_mem_take h))).1
        omega) (by omega))
      obtain ⟨a2, c2, rfl, _⟩ := id hS2
      replace hb2 := Lib.hid (hb1.out.trans (hb2.mono hz1))
      clear hS2 hfs
      go_wp2_with fail
      refine hfo.out.mono ?_
      rintro e w3 ⟨v3, rfl, hS3, hb3⟩
      obtain ⟨a3, c3, rfl⟩ := hS3.form
      have hz3 := hb3.size
      have hnum := Lib.hid (numbers_at _ _ _ w3 hS3.row (Nat.le_refl _) (by omega) hsz.out)
      replace hb3 := Lib.hid (hb2.out.trans (hb3.mono (by omega)))
      clear hS3 hfo
      go_wp2_with fail
      refine hnum.out.mono ?_
      rintro e w4 ⟨t, rfl, hO, hb4⟩
      obtain ⟨ua, uc, rfl, _⟩ := id hO
      replace hb4 := Lib.hid (hb3.out.trans (hb4.mono (by omega)))
      replace hO := Lib.hid (hO.mono (show w.heap.size ≤ w3.heap.size by omega) (Nat.le_refl _))
      go_wp2_with fail
      go_ret2
      exact ⟨_, rfl, hO.out, hb4.out⟩
    · have hb : fiB n m = false := by unfold fiB; rw [hp, hNi]; exact decide_eq_false hm
      rw [hb]
      replace hb := Lib.hid hb
      replace hp := Lib.hid hp
      replace hN := Lib.hid hN
      replace hNi := Lib.hid hNi
      replace hol := Lib.hid hol
      by_cases h0 : m < 0
      · clear hm
        go_enter Tryz.func46, Tryz.ntmps46
        go_wp2_with (first | (go_at_call 153; refine (hpt.out _).mono ?_; rintro e w' ⟨rfl, rfl⟩) | (go_at_call 51; refine (hpp.out _).mono ?_; rintro e w' ⟨rfl, rfl⟩))
        go_ret2
        exact ⟨_, rfl, own_empty0 _ _ _ _ _, (Below.refl _ _).alloc (Nat.le_refl _) _⟩
      · have h1 : (N : Int) < m := by omega
        clear hm
        go_enter Tryz.func46, Tryz.ntmps46
        go_wp2_with (first | (go_at_call 153; refine (hpt.out _).mono ?_; rintro e w' ⟨rfl, rfl⟩) | (go_at_call 51; refine (hpp.out _).mono ?_; rintro e w' ⟨rfl, rfl⟩))
        go_ret2
        exact ⟨_, rfl, own_empty0 _ _ _ _ _, (Below.refl _ _).alloc (Nat.le_refl _) _⟩
  · have hb : fiB n m = false := by unfold fiB; rw [hp]; rfl
    rw [hp] at hpp
    rw [hb]
    replace hpp := Lib.hid hpp
    replace hb := Lib.hid hb
    replace hp := Lib.hid hp
    go_enter Tryz.func46, Tryz.ntmps46
    go_wp2_with (first | (go_at_call 153; refine (hpt.out _).mono ?_; rintro e w' ⟨rfl, rfl⟩) | (go_at_call 51; refine (hpp.out _).mono ?_; rintro e w' ⟨rfl, rfl⟩))
    go_ret2
    exact ⟨_, rfl, own_empty0 _ _ _ _ _, (Below.refl _ _).alloc (Nat.le_refl _) _⟩

end
section
/- The first sets in binary order: the program. -/
open Go.ChangeShapes Go.WideShapes Go.ChangeAt Go.RowKit Go.Proofs

theorem up_take {M N : Nat} (h : M ≤ N) : (upI N).take M = upI M := by
  unfold upI
  rw [← List.map_take, List.take_range, Nat.min_eq_left h]
set_option maxHeartbeats 1000000 in
theorem im_BoundaryFirst (n m : Int) (w : World) (hT : Tab w) : Calls Tryz.prog 19 #[.int .i64 n, .int .i64 m] w (ListPost (ifL (fiB n m) (fiL n m)) (fiB n m) w) := by
  have hf := Lib.hid (first_in_ball n m w hT)
  go_enter Tryz.func19, Tryz.ntmps19
  go_wp2_with fail
  refine hf.out.mono ?_
  rintro e w1 ⟨v, rfl, hO, hb⟩
  obtain ⟨ua, uc, rfl, _⟩ := id hO
  replace hO := Lib.hid hO
  replace hb := Lib.hid hb
  go_wp2_with fail
  go_ret2
  exact ⟨_, rfl, hO.out, hb.out⟩
theorem orL_set {n : Int} (n1 : 1 ≤ n) (n2 : n ≤ 8) : ∀ z ∈ orL n, setB n z = true := fun z hz => by
  unfold orL at hz
  rw [up_sort] at hz
  obtain ⟨k, hk, rfl⟩ := List.mem_map.1 hz
  obtain ⟨p1, p2, p3⟩ := pow_nat n1 n2
  obtain ⟨x, x1, x2, rfl⟩ := ku_mem p1 hk
  rw [(bk_facts x1 (by omega)).2.2]
  have e : ((2 ^ n.toNat : Nat) : Int) = 2 ^ n.toNat := by simp
  exact setB_mk ⟨n1, n2, x1, by omega⟩
theorem fiB_yes {n m : Int} (h : fiB n m = true) : 1 ≤ n ∧ n ≤ 8 ∧ 0 ≤ m ∧ m ≤ 2 ^ n.toNat := by
  unfold fiB at h
  rw [Bool.and_eq_true] at h
  obtain ⟨a, b⟩ := ptsB_yes h.1
  have := of_decide_eq_true h.2
  exact ⟨a, b, this⟩
end
end Go.Proofs.YtpjapoaagbdlfaaGreatDoor
