/- All sets in ball order: the model's list. -/
import Derived.Test.YtgfmfecalhmplaaDoorBo8
namespace Go.Proofs.YtgfmfecalhmplaaDoor
open Go.ChangeShapes Go.WideShapes Go.ChangeAt Go.RowKit Go.Proofs

set_option maxRecDepth 100000 in
set_option maxHeartbeats 4000000 in
theorem step_app_intsb {w : World} {ops : Array Oper} {o : Oper} {a : Act} {K : Act → World → Prop} {Q : Exit → Act → World → Prop} {E : Prop} (hgd : o.guard = none) (s x : Operand)
    (ho : o.op = .call { callee := .builtin .append, args := #[s, x], argTypes := #[24, 24] })
    (B : Nat) (v : Value) (xs : List Int) (hs : a.eval s = v) (hown : OwnL w B v xs) (A : Option Addr) (c S : Nat) (ys : List Int) (hx : a.eval x = .slice A ys.length c) (hr : Row w S (.slice A ys.length c) ys)
    (hlen : xs.length ≤ 1073741824) (hlen2 : ys.length ≤ 1073741824) (hB : B ≤ w.heap.size)
    (h : ∀ v' w', OwnL w' B v' (xs ++ ys) → w.grownBy w' v.ownBlock → (∀ b, Below B b w → Below B b w') → K (a.put o.dst v') w') : if Region.wanted o (yielded ops a.tmps) = true then Oper.wp Tryd.prog o a w K Q else E := by
  have hw : Region.wanted o (yielded ops a.tmps) = true := by simp [Region.wanted, hgd]
  rw [if_pos hw]
  obtain ⟨i0, hi0, hz0, hz1, hz2⟩ := info_parts Tryd.intInfo
  obtain ⟨A', c', e, hc⟩ := hr
  injection e with e1 e2 e3
  subst e1 e3
  have hbel : ∀ w', w.grownBy w' v.ownBlock → ∀ b, Below B b w → Below B b w' := fun w' hg b hb => hb.grown hg hB (fun k e => (World.ownsRow.lt hown k e).1)
  rcases A with _ | ad
  · have hn : ys = [] := by
      rcases Nat.eq_zero_or_pos ys.length with h0 | h0
      · exact List.length_eq_zero_iff.1 h0
      · obtain ⟨b, off, e, _⟩ := hc h0; cases e
    subst hn
    have hrun := run_app_none_i o.type hown c
    unfold Oper.wp
    simp only [List.length_nil] at hx
    simp [execOp, ho, resolve, invoke, builtin, hs, hx, hrun, Result.andThen]
    exact h v w (by rw [List.append_nil]; exact hown) (World.grownBy.refl w _) (fun b hb => hb)
  · refine wp_append_own w s x 24 ho B 3 i0 (.int .i64 0) 1 8 Tryd.underlying24 hi0 hz0 hz1 hz2 rfl (by decide) v xs.length (iv xs) hs hown ad ys.length c (iv ys) hx (by simp [iv]) ?_ (iv_one ys) (by unfold maxLen; omega) (by omega) hB ?_
    · intro j u hu
      obtain ⟨hj, rfl⟩ := iv_get hu
      obtain ⟨b, off, e, _, hcc⟩ := hc (by omega)
      injection e with e
      subst e
      have hadd : (⟨b, off, none⟩ : Addr).add j = ⟨b, off + j, none⟩ := by simp [Addr.add]
      rw [hadd]
      exact hcc j hj
    · intro v' w' hown' hg _
      refine h v' w' ?_ hg (hbel w' hg)
      unfold OwnL
      rw [List.map_append, List.length_append]
      exact hown'
set_option maxRecDepth 100000 in
set_option maxHeartbeats 4000000 in
theorem cell_growb {w w' : World} {v : Value} {p : Addr} {u : Value} (h : w.cell? p = some u) (hp : p.block < w.heap.size) (hg : w.grownBy w' v.ownBlock) (hne : v.ownBlock ≠ some p.block) : w'.cell? p = some u := by
  have e := hg.block p.block hp (fun e => hne e.symm)
  simp only [World.cell?, e] at h ⊢
  exact h
/-- what the model's search leaves. -/
def FlSp (o : Option (List Int)) (B : Nat) (w : World) (e : Ending) (w' : World) : Prop := ∃ v, e = .returned (.tuple #[v, .bool o.isSome]) ∧ Own w' B w'.heap.size v (o.getD []) ∧ Below w.heap.size w w'
set_option maxRecDepth 100000 in
set_option maxHeartbeats 4000000 in
theorem slice_fromi (b o n c l : Nat) (h1 : l ≤ n) (W : World) : (Instr.sliceAt 24 (.slice (some ⟨b, o, none⟩) n c) (some (.int .i64 ((l : Nat) : Int))) none none).run Tryd.prog W = .ok (.slice (some (if c = l then ⟨b, o, none⟩ else ⟨b, o + l, none⟩)) (n - l) (c - l)) W := by
  have hs : (sizeOf (Tryd.prog.elem 24)).run Tryd.prog W = .ok 1 W := by kernel_rfl
  have ht : Tryd.prog.underlying 24 = some (.slice (Tryd.prog.elem 24)) := by kernel_rfl
  refine (run_sliceAt_slice W 24 _ _ _ _ ht).trans ?_
  refine (run_slice_l W 24 _ _ _ ht _ _ (by omega) (by omega)).trans ?_
  rw [hs]
  simp only [Result.andThen, sliced, Int.toNat_natCast, Nat.mul_one]
  by_cases h : c = l
  · rw [if_pos h, if_pos h]
  · rw [if_neg h, if_neg h]; simp [Addr.add]
/-- the rest behind one set. -/
theorem slice_toi (b o M c l : Nat) (h0 : l ≤ M) (h1 : M ≤ c) (W : World) : (Instr.sliceAt 24 (.slice (some ⟨b, o, none⟩) M c) none (some (.int .i64 ((l : Nat) : Int))) none).run Tryd.prog W = .ok (.slice (some ⟨b, o, none⟩) l c) W := by
  have hs : (sizeOf (Tryd.prog.elem 24)).run Tryd.prog W = .ok 1 W := by kernel_rfl
  have ht : Tryd.prog.underlying 24 = some (.slice (Tryd.prog.elem 24)) := by kernel_rfl
  refine (run_sliceAt_slice W 24 _ _ _ _ ht).trans ?_
  refine (run_slice_h W 24 _ _ _ ht _ _ (by omega) (by omega)).trans ?_
  rw [hs]
  simp only [Result.andThen, sliced, Int.toNat_natCast, Nat.mul_one]
  by_cases h : c = 0
  · simp [h]
  · simp [Addr.add]
theorem ku_succ (j : Nat) : kL (upI (j + 1)) = insI (bkI (j : Nat)) (kL (upI j)) := by
  unfold kL
  rw [upI_succ, List.map_append, List.map_singleton, sortL_snoc]
theorem ku_mem {j : Nat} (_hj : j ≤ 256) {k : Int} (h : k ∈ kL (upI j)) : ∃ x : Int, 0 ≤ x ∧ x < j ∧ k = bkI x := by
  unfold kL at h
  rw [mem_sortL] at h
  obtain ⟨x, hx, rfl⟩ := List.mem_map.1 h
  have := mem_upI.1 hx
  exact ⟨x, this.1, this.2, rfl⟩
theorem ku_not {j : Nat} (hj : j < 256) : memB (bkI (j : Nat)) (kL (upI j)) = false := memB_mk0 fun h => by
  obtain ⟨x, x1, x2, e⟩ := ku_mem (by omega) h
  have a := (bk_facts (s := (j : Nat)) (by omega) (by omega)).2.2
  have b := (bk_facts (s := x) x1 (by omega)).2.2
  rw [e, b] at a
  omega
theorem ku_len : ∀ j : Nat, j ≤ 256 → (kL (upI j)).length = j
  | 0, _ => by simp [kL, upI, sortL]
  | j + 1, h => by rw [ku_succ, ins_len (ku_not (by omega)), ku_len j (by omega)]
theorem ku_isK {j : Nat} (hj : j ≤ 256) : ∀ k ∈ kL (upI j), IsK k := fun k hk => by
  obtain ⟨x, x1, x2, rfl⟩ := ku_mem hj hk
  exact isK_of x1 (by omega)
theorem ku_asc (j : Nat) : Asc (kL (upI j)) := asc_sortL _
theorem place_ku {j k : Nat} (hj : j < 256) (hk : k ≤ j) (h1 : ∀ i, k ≤ i → i < j → bkI (j : Nat) < (kL (upI j)).getD i 0) (h2 : k = 0 ∨ (kL (upI j)).getD (k - 1) 0 ≤ bkI (j : Nat)) : k = plN (bkI (j : Nat)) (kL (upI j)) := by
  have hl := ku_len j (by omega)
  refine plN_eq (by omega) (fun i hi => ?_) (fun i hi1 hi2 => ?_)
  · rcases h2 with h2 | h2
    · omega
    · have hne : (kL (upI j)).getD i 0 ≠ bkI (j : Nat) := fun e => by
        have := memB_no (ku_not hj)
        exact this (by rw [← e]; exact getD_mem (by omega))
      by_cases e : i = k - 1
      · subst e; omega
      · have := asc_get (ku_asc j) (i := i) (j := k - 1) (by omega) (by omega)
        omega
  · have := h1 i hi1 (by omega); omega
theorem own_some {w : World} {B : Nat} {v : Value} {xs : List Int} (h : OwnL w B v xs) (h0 : 0 < xs.length) : ∃ g c, v = .slice (some ⟨g, 0, none⟩) xs.length c ∧ xs.length ≤ c ∧ c ≤ 9223372036854775807 ∧ B ≤ g ∧ g < w.heap.size ∧ CellsAt w g 0 xs := by
  have hc := @World.ownsRow.cells _ _ _ _ _ _ _ h
  rcases h.2 with ⟨rfl, hn⟩ | ⟨g, cap, cur, rfl, hB, hg, hn, hm, hs, ht⟩
  · omega
  · refine ⟨g, cap, rfl, hn, by unfold maxLen at hm; omega, hB, (Array.getElem?_eq_some_iff.1 hg).1, fun i hi => ?_⟩
    have e : (xs.map (Value.int .i64))[i]? = some (.int .i64 (xs.getD i 0)) := by
      rw [List.getElem?_map, List.getD_eq_getElem?_getD, List.getElem?_eq_getElem hi]; rfl
    have := hc (g := g) rfl i _ e
    have hadd : (⟨g, 0, none⟩ : Addr).add i = ⟨g, i, none⟩ := by unfold Addr.add; split <;> simp_all
    rw [hadd] at this
    rw [Nat.zero_add]
    exact this
theorem row_take_i {w : World} {S g c k : Nat} {ys : List Int} (hk : k ≤ ys.length) (hg : g < S) (hc : CellsAt w g 0 ys) : Row w S (.slice (some ⟨g, 0, none⟩) (ys.take k).length c) (ys.take k) := by
  refine ⟨_, _, rfl, fun _ => ⟨g, 0, rfl, hg, fun i hi => ?_⟩⟩
  rw [List.length_take] at hi
  rw [hc i (by omega)]
  congr 2
  simp [List.getD_eq_getElem?_getD, show i < k by omega]
theorem row_drop_i {w : World} {S g c k : Nat} {ys : List Int} (hk : k ≤ ys.length) (hcap : ys.length ≤ c) (hg : g < S) (hc : CellsAt w g 0 ys) : Row w S (.slice (some (if c = k then ⟨g, 0, none⟩ else ⟨g, 0 + k, none⟩)) (ys.drop k).length (c - k)) (ys.drop k) := by
  refine ⟨_, _, rfl, fun h0 => ?_⟩
  rw [List.length_drop] at h0
  rw [if_neg (show ¬ c = k by omega)]
  refine ⟨g, 0 + k, rfl, hg, fun i hi => ?_⟩
  rw [List.length_drop] at hi
  rw [Nat.add_assoc, hc (k + i) (by omega)]
  congr 2
  simp [List.getD_eq_getElem?_getD]
/-- what the model's list leaves. -/
def OrdPost (B : Nat) (L : List Int) (w : World) (e : Ending) (w' : World) : Prop := ∃ v, e = .returned v ∧ OwnL w' B v L ∧ Below B w w' ∧ (∃ g c, v = .slice (some ⟨g, 0, none⟩) L.length c ∧ L.length ≤ c ∧ c ≤ 9223372036854775807)
end Go.Proofs.YtgfmfecalhmplaaDoor
