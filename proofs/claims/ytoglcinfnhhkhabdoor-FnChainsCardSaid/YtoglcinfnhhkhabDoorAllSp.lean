/- Texts merged: XSpec1 XSpec2 XSpec3 XSpec4 XSpec5 XSpec6 XSpec7. -/
import Derived.Test.YtoglcinfnhhkhabDoorFams4
import Derived.Test.YtoglcinfnhhkhabDoorLawsB
import Derived.Test.YtoglcinfnhhkhabDoorBits
import Derived.Test.YtoglcinfnhhkhabDoorFams10
import Derived.Test.YtoglcinfnhhkhabDoorFams12
import Derived.Deep.RegionLaw
import Derived.IntWalk
import Derived.Test.YtoglcinfnhhkhabDoorFams13
namespace Go.Proofs.YtoglcinfnhhkhabDoor
section
/- The model's functions on families: which lists are families; marks; lists of marks. -/
open Go.ChangeShapes Go.WideShapes Go.ChangeAt Go.RowKit Go.Proofs

theorem asc_step {xs : List Int} {k : Nat} {x : Int} (hk : k < xs.length) (hx : xs.getD k 0 = x) (hA : Asc (xs.take k)) (h : k = 0 ∨ xs.getD (k - 1) 0 < x) : Asc (xs.take (k + 1)) := by
  rw [take_snoc hk, hx]
  refine asc_snoc hA fun a ha => ?_
  rcases h with rfl | h
  · simp at ha
  · obtain ⟨i, hi, rfl⟩ := List.getElem_of_mem ha
    have hi' : i < k := by rw [List.length_take] at hi; omega
    have e : (xs.take k)[i] = xs.getD i 0 := by rw [List.getElem_take, List.getD_eq_getElem?_getD, List.getElem?_eq_getElem (by omega)]; rfl
    rw [e]
    by_cases e2 : i = k - 1
    · subst e2; exact h
    · have h3 := asc_get hA (i := i) (j := k - 1) (by omega) (by rw [List.length_take]; omega)
      have e3 : ∀ j, j < k → (xs.take k).getD j 0 = xs.getD j 0 := fun j hj => by rw [List.getD_eq_getElem?_getD, List.getElem?_take, if_pos hj, List.getD_eq_getElem?_getD]
      rw [e3 i hi', e3 (k - 1) (by omega)] at h3
      omega
theorem le_prev {a b : Int} (h : ¬ a < b) : decide (b ≤ a) = true := decide_eq_true (by omega)
theorem lt_prev {a b : Int} (h : a < b) : decide (b ≤ a) = false := decide_eq_false (by omega)
end
section
/- The model's marks and lists of marked sets. -/
open Go.ChangeShapes Go.WideShapes Go.ChangeAt Go.RowKit Go.Proofs

theorem Tryd.boolInfo : (Tryd.prog.info? 4).map (fun i => (i.zero, i.size, i.bytes)) = some (some (.bool false), 1, 1) := by kernel_rfl
/-- block b holds N marks. -/
def MarkRow (w : World) (b N : Nat) (p : Nat → Bool) : Prop := w.rowIs b 4 N (fun j => .bool (p j))
theorem MarkRow.below {w w' : World} {b N B : Nat} {p : Nat → Bool} (h : MarkRow w b N p) (hb : Below B w w') (hB : b < B) : MarkRow w' b N p := World.rowIs.of_block h (hb.block b hB)
theorem MarkRow.drewN {w : World} {b N : Nat} {p : Nat → Bool} (h : MarkRow w b N p) (q : Nat) : MarkRow (w.drewN q) b N p := h
theorem MarkRow.put {w : World} {b N : Nat} {p p' : Nat → Bool} (h : MarkRow w b N p) (i : Nat) (hp : ∀ j, j < N → p' j = if j = i then true else p j) : MarkRow (w.setCell ⟨b, i, none⟩ (.bool true)) b N p' :=
  (World.rowIs.set h i (.bool true)).congr fun j hj => by
    rw [hp j hj]
    by_cases e : j = i
    · rw [if_pos e, if_pos e]
    · rw [if_neg e, if_neg e]
/-- what a function that makes marks leaves. -/
def MarksPost (N : Nat) (p : Nat → Bool) (w : World) (e : Ending) (w' : World) : Prop := ∃ b, e = .returned (.slice (some ⟨b, 0, none⟩) N N) ∧ w.heap.size ≤ b ∧ b < w'.heap.size ∧ MarkRow w' b N p ∧ Below w.heap.size w w'
theorem mem_take {xs : List Int} {k : Nat} {x : Int} (hk : k < xs.length) (hx : xs.getD k 0 = x) (z : Int) : memB z (xs.take (k + 1)) = if z = x then true else memB z (xs.take k) := by
  rw [take_snoc hk, hx]
  unfold memB
  by_cases e : z = x
  · rw [if_pos e]; exact decide_eq_true (by rw [e]; simp)
  · rw [if_neg e]; exact decide_eq_decide.2 (by simp [e])
theorem set_nat {n x : Int} (h : setB n x = true) : ∃ t : Nat, x = t ∧ t < 2 ^ n.toNat := by
  obtain ⟨_, _, c, d⟩ := setB_yes h
  refine ⟨x.toNat, by omega, ?_⟩
  have : ((2 ^ n.toNat : Nat) : Int) = 2 ^ n.toNat := by simp
  omega
theorem pow_nat {n : Int} (n1 : 1 ≤ n) (n2 : n ≤ 8) : (2 ^ n.toNat : Nat) ≤ 256 ∧ 2 ≤ (2 ^ n.toNat : Nat) ∧ wrap64 (2 ^ n.toNat) = ((2 ^ n.toNat : Nat) : Int) := by
  rcases n8 n1 n2 with rfl | rfl | rfl | rfl | rfl | rfl | rfl | rfl <;> decide +kernel
theorem own_empty0 (w : World) (B S g c : Nat) : Own w B S (.slice (some ⟨g, 0, none⟩) 0 c) [] := ⟨_, c, rfl, fun h => by simp at h⟩
/-- what a function that returns a list of its own leaves. -/
def IntsPost (L : List Int) (w : World) (e : Ending) (w' : World) : Prop := ∃ v, e = .returned v ∧ OwnL w' w.heap.size v L ∧ Below w.heap.size w w'
theorem OwnL.form {w : World} {B : Nat} {v : Value} {xs : List Int} (h : OwnL w B v xs) : ∃ a c, v = .slice a xs.length c := by
  obtain ⟨a, c, e, _⟩ := h.own
  exact ⟨a, c, e⟩
/-- the marked numbers below m. -/
def mkL (p : Nat → Bool) (m : Nat) : List Int := (upI m).filter (fun z => p z.toNat)
theorem mkL_succ (p : Nat → Bool) (m : Nat) : mkL p (m + 1) = mkL p m ++ (if p m then [(m : Int)] else []) := by unfold mkL; rw [upI_succ, filter_snoc]; rfl
theorem mkL_len (p : Nat → Bool) (m : Nat) : (mkL p m).length ≤ m := by unfold mkL; have := List.length_filter_le (fun z : Int => p z.toNat) (upI m); rw [upI_len] at this; exact this
theorem mkL_asc (p : Nat → Bool) (m : Nat) : Asc (mkL p m) := asc_filter (asc_upI m) _
theorem mem_mkL {p : Nat → Bool} {m : Nat} {z : Int} : z ∈ mkL p m ↔ (0 ≤ z ∧ z < m) ∧ p z.toNat = true := by unfold mkL; rw [List.mem_filter, mem_upI]
end
section
/- The model: families of lists, unions, common sets, what is left. -/
open Go.ChangeShapes Go.WideShapes Go.ChangeAt Go.RowKit Go.Proofs

theorem mkL_sort {n : Int} {xs : List Int} (hall : allB n xs = true) : mkL (fun j => memB (j : Nat) xs) (2 ^ n.toNat) = sortL xs := by
  refine asc_ext (mkL_asc _ _) (asc_sortL xs) fun z => ?_
  rw [mem_mkL, mem_sortL]
  constructor
  · rintro ⟨⟨h1, _⟩, h2⟩
    have := memB_yes h2
    rwa [Int.toNat_of_nonneg h1] at this
  · intro h
    obtain ⟨t, rfl, ht⟩ := set_nat (allB_yes hall z h)
    exact ⟨⟨by omega, by omega⟩, memB_mk (by simpa using h)⟩
theorem OwnL.mono {w : World} {B B' : Nat} {v : Value} {xs : List Int} (h : OwnL w B v xs) (hB : B' ≤ B) : OwnL w B' v xs := by
  refine ⟨h.1, ?_⟩
  rcases h.2 with hn | ⟨g, cap, cur, rfl, hb, rest⟩
  · exact .inl hn
  · exact .inr ⟨g, cap, cur, rfl, by omega, rest⟩
end
section
/- The model: unions, common sets, what is left, common parts, joins, traces, links, levels, others. -/
open Go.ChangeShapes Go.WideShapes Go.ChangeAt Go.RowKit Go.Proofs

/-- the cells of a list of numbers. -/
def iv (xs : List Int) : List Value := xs.map (Value.int .i64)
theorem iv_get {xs : List Int} {j : Nat} {u : Value} (h : (iv xs)[j]? = some u) : j < xs.length ∧ u = .int .i64 (xs.getD j 0) := by
  unfold iv at h
  rw [List.getElem?_map] at h
  cases hx : xs[j]? with
  | none => rw [hx] at h; cases h
  | some x =>
    rw [hx] at h
    have hj := (List.getElem?_eq_some_iff.1 hx).1
    refine ⟨hj, ?_⟩
    rw [List.getD_eq_getElem?_getD, hx]
    simp at h
    exact h.symm
theorem iv_one (xs : List Int) : ∀ v ∈ iv xs, v.oneCell' = true := by
  intro v hv
  obtain ⟨x, _, rfl⟩ := List.mem_map.1 hv
  rfl
theorem run_app_none_i {w : World} {B : Nat} {v : Value} {xs : List Int} (ty : TypeId) (h : OwnL w B v xs) (c : Nat) : (Builtin.append_ #[28, 28] ty #[v, .slice none 0 c]).run Tryd.prog w = .ok v w := by
  obtain ⟨i0, hi0, hz0, hz1, hz2⟩ := info_parts Tryd.intInfo
  have ht := Tryd.underlying28
  rcases h.2 with ⟨rfl, _⟩ | ⟨g, cap, cur, rfl, _, _, hn, _⟩
  · simp [Builtin.append_, run_underlying ht, sizeOf, typeInfo, hi0, Builtin.lenOf, Builtin.firstCells]
  · simp [Builtin.append_, run_underlying ht, sizeOf, typeInfo, hi0, Builtin.lenOf, Builtin.firstCells, hn, storeCells]
set_option maxRecDepth 100000 in
theorem app_ints {w : World} {ops : Array Oper} {rest : List Oper} {o : Oper} {a : Act} {Q : Exit → Act → World → Prop} (hgd : o.guard = none) (s x : Operand)
    (ho : o.op = .call { callee := .builtin .append, args := #[s, x], argTypes := #[28, 28] })
    (B : Nat) (v : Value) (xs : List Int) (hs : a.eval s = v) (hown : OwnL w B v xs) (A : Option Addr) (c S : Nat) (ys : List Int) (hx : a.eval x = .slice A ys.length c) (hr : Row w S (.slice A ys.length c) ys)
    (hlen : xs.length ≤ 1073741824) (hlen2 : ys.length ≤ 1073741824) (hB : B ≤ w.heap.size)
    (h : ∀ v' w', OwnL w' B v' (xs ++ ys) → Below B w w' → wpList Tryd.prog ops Q rest (a.put o.dst v') w') : wpList Tryd.prog ops Q (o :: rest) a w := by
  obtain ⟨i0, hi0, hz0, hz1, hz2⟩ := info_parts Tryd.intInfo
  obtain ⟨A', c', e, hc⟩ := hr
  injection e with e1 e2 e3
  subst e1 e3
  rcases A with _ | ad
  · have hn : ys = [] := by
      rcases Nat.eq_zero_or_pos ys.length with h0 | h0
      · exact List.length_eq_zero_iff.1 h0
      · obtain ⟨b, off, e, _⟩ := hc h0; cases e
    subst hn
    refine wpList_plain hgd fun K hK => ?_
    have hrun := run_app_none_i o.type hown c
    unfold Oper.wp
    simp only [List.length_nil] at hx
    simp [execOp, ho, resolve, invoke, builtin, hs, hx, hrun, Result.andThen]
    exact hK _ _ (h v w (by rw [List.append_nil]; exact hown) (Below.refl _ _))
  · refine wpList_append_own w hgd s x 28 ho B 3 i0 (.int .i64 0) 1 8 Tryd.underlying28 hi0 hz0 hz1 hz2 rfl (by decide) v xs.length (iv xs) hs hown ad ys.length c (iv ys) hx (by simp [iv]) ?_ (iv_one ys) (by unfold maxLen; omega) (by omega) hB ?_
    · intro j u hu
      obtain ⟨hj, rfl⟩ := iv_get hu
      obtain ⟨b, off, e, _, hcc⟩ := hc (by omega)
      injection e with e
      subst e
      have hadd : (⟨b, off, none⟩ : Addr).add j = ⟨b, off + j, none⟩ := by simp [Addr.add]
      rw [hadd]
      exact hcc j hj
    · intro v' w' hown' hg _
      refine h v' w' ?_ ((Below.refl B w).grown hg hB (fun k e => (World.ownsRow.lt hown k e).1))
      unfold OwnL
      rw [List.map_append, List.length_append]
      exact hown'
theorem allB_app {n : Int} {xs zs : List Int} (h1 : allB n xs = true) (h2 : allB n zs = true) : allB n (xs ++ zs) = true := List.all_eq_true.2 fun z hz => by
  rcases List.mem_append.1 hz with h | h
  · exact allB_yes h1 z h
  · exact allB_yes h2 z h
theorem famB_allB {n : Int} {xs : List Int} (h : famB n xs = true) : allB n xs = true := List.all_eq_true.2 (famB_all h).2.2
theorem own_lift {w w' : World} {q : Nat} {v : Value} {L : List Int} (h : OwnL w' (w.drewN q).heap.size v L) : Own w' w.heap.size w'.heap.size v L := h.own

theorem filt_yes {xs : List Int} {k : Nat} {x : Int} (hk : k < xs.length) (hx : xs.getD k 0 = x) (p : Int → Bool) (h : p x = true) : (xs.take (k + 1)).filter p = (xs.take k).filter p ++ [x] := by rw [take_snoc hk, hx, filter_snoc, if_pos h]
theorem filt_no {xs : List Int} {k : Nat} {x : Int} (hk : k < xs.length) (hx : xs.getD k 0 = x) (p : Int → Bool) (h : p x = false) : (xs.take (k + 1)).filter p = (xs.take k).filter p := by rw [take_snoc hk, hx, filter_snoc, if_neg (by simp [h]), List.append_nil]
theorem filt_eq {n : Int} {xs : List Int} (h : allB n xs = true) (hA : Asc xs) (p q : Int → Bool) (hpq : ∀ z, 0 ≤ z → p z = q z) : xs.filter p = sortL (xs.filter q) := by
  rw [sortL_asc (asc_filter hA _)]
  exact List.filter_congr fun z hz => hpq z (setB_lt (allB_yes h z hz)).1

end
section
/- The model: common parts, joins. -/
open Go.ChangeShapes Go.WideShapes Go.ChangeAt Go.RowKit Go.Proofs

theorem mem_snoc (z v : Int) (L : List Int) : memB z (L ++ [v]) = if z = v then true else memB z L := by
  unfold memB
  by_cases e : z = v
  · rw [if_pos e]; exact decide_eq_true (by rw [e]; simp)
  · rw [if_neg e]; exact decide_eq_decide.2 (by simp [e])
theorem pairs_all {n : Int} {F : Int → Int → Int} {xs zs : List Int} (h : ∀ x ∈ xs, ∀ z ∈ zs, setB n (F x z) = true) (k : Nat) : allB n (pairsTo F xs zs k) = true := List.all_eq_true.2 fun z hz => by
  obtain ⟨a, ha, b, hb, rfl⟩ := pairs_mem hz
  exact h a ha b hb

end
section
/- The model: others, the rest, levels, traces, links, sets without a point. -/
open Go.ChangeShapes Go.WideShapes Go.ChangeAt Go.RowKit Go.Proofs

theorem asc_map {xs : List Int} {f : Int → Int} (hA : Asc xs) (h : ∀ x ∈ xs, ∀ y ∈ xs, x < y → f x < f y) : Asc (xs.map f) := by
  unfold Asc at *
  rw [List.pairwise_map]
  exact hA.imp_of_mem (fun hx hy hxy => h _ hx _ hy hxy)
theorem asc_other {N : Int} {xs : List Int} (hA : Asc xs) : Asc ((xs.reverse).map (fun x => N - 1 - x)) := by
  unfold Asc at *
  rw [List.pairwise_map, List.pairwise_reverse]
  exact hA.imp (fun h => by omega)
theorem up_sort (N : Nat) : sortL (upI N) = upI N := sortL_asc (asc_upI N)
theorem rest_eq (N : Nat) (xs : List Int) : mkL (fun j => !memB (j : Nat) xs) N = sortL ((sortL (upI N)).filter (fun x => !memB x xs)) := by
  rw [up_sort, sortL_asc (asc_filter (asc_upI N) _)]
  unfold mkL
  exact List.filter_congr fun z hz => by show (!memB ((z.toNat : Nat) : Int) xs) = _; rw [Int.toNat_of_nonneg (mem_upI.1 hz).1]
theorem level_eq (N : Nat) (k : Int) : mkL (fun j => cntI (j : Nat) == k) N = sortL ((sortL (upI N)).filter (fun x => cntI x == k)) := by
  rw [up_sort, sortL_asc (asc_filter (asc_upI N) _)]
  unfold mkL
  exact List.filter_congr fun z hz => by show (cntI ((z.toNat : Nat) : Int) == k) = _; rw [Int.toNat_of_nonneg (mem_upI.1 hz).1]
theorem drop_step {xs : List Int} {k : Nat} {x : Int} (hk : k < xs.length) (hx : xs.getD k 0 = x) : (xs.drop k).reverse = (xs.drop (k + 1)).reverse ++ [x] := by
  rw [List.drop_eq_getElem_cons hk, List.reverse_cons]
  rw [List.getD_eq_getElem?_getD, List.getElem?_eq_getElem hk] at hx
  simp at hx
  rw [hx]
theorem app_int_at {w : World} {ops : Array Oper} {rest : List Oper} {o : Oper} {a : Act} {Q : Exit → Act → World → Prop} (hgd : o.guard = none) (s x : Operand)
    (ho : o.op = .call { callee := .builtin .append, args := #[s, x], argTypes := #[28, 28] })
    (B : Nat) (v : Value) (xs : List Int) (hs : a.eval s = v) (hown : OwnL w B v xs) (y : Int) (b : Nat) (hx : a.eval x = .slice (some ⟨b, 0, none⟩) 1 1) (hcell : w.cell? ⟨b, 0, none⟩ = some (.int .i64 y))
    (hlen : xs.length ≤ 1073741824) (hB : B ≤ w.heap.size)
    (h : ∀ v' w', OwnL w' B v' (xs ++ [y]) → w.grownBy w' v.ownBlock → (v'.ownBlock = v.ownBlock ∨ v'.ownBlock = some w.heap.size) → wpList Tryd.prog ops Q rest (a.put o.dst v') w') : wpList Tryd.prog ops Q (o :: rest) a w := by
  obtain ⟨i0, hi, hz0, hz1, hz2⟩ := info_parts Tryd.intInfo
  refine wpList_append_own_at w hgd s x 28 ho B 3 i0 (.int .i64 0) 1 8 Tryd.underlying28 hi hz0 hz1 hz2 rfl (by decide) v xs.length (iv xs) hs hown ⟨b, 0, none⟩ 1 1 [.int .i64 y] hx rfl ?_ (by simp [Value.oneCell']) (by unfold maxLen; omega) (by omega) hB ?_
  · intro j u hu
    cases j with
    | zero => simp at hu; subst hu; simpa [Addr.add] using hcell
    | succ j => simp at hu
  · intro v' w' hown' hg _ hat
    refine h v' w' ?_ hg hat
    unfold OwnL
    simpa [iv] using hown'
theorem step_app_int {w : World} {ops : Array Oper} {o : Oper} {a : Act} {K : Act → World → Prop} {Q : Exit → Act → World → Prop} {E : Prop} (hgd : o.guard = none) (s x : Operand)
    (ho : o.op = .call { callee := .builtin .append, args := #[s, x], argTypes := #[28, 28] })
    (B : Nat) (v : Value) (xs : List Int) (hs : a.eval s = v) (hown : OwnL w B v xs) (y : Int) (b : Nat) (hx : a.eval x = .slice (some ⟨b, 0, none⟩) 1 1) (hcell : w.cell? ⟨b, 0, none⟩ = some (.int .i64 y))
    (hlen : xs.length ≤ 1073741824) (hB : B ≤ w.heap.size)
    (h : ∀ v' w', OwnL w' B v' (xs ++ [y]) → Below B w w' → K (a.put o.dst v') w') : if Region.wanted o (yielded ops a.tmps) = true then Oper.wp Tryd.prog o a w K Q else E := by
  have hw : Region.wanted o (yielded ops a.tmps) = true := by simp [Region.wanted, hgd]
  rw [if_pos hw]
  obtain ⟨i0, hi, hz0, hz1, hz2⟩ := info_parts Tryd.intInfo
  refine wp_append_own w s x 28 ho B 3 i0 (.int .i64 0) 1 8 Tryd.underlying28 hi hz0 hz1 hz2 rfl (by decide) v xs.length (iv xs) hs hown ⟨b, 0, none⟩ 1 1 [.int .i64 y] hx rfl ?_ (by simp [Value.oneCell']) (by unfold maxLen; omega) (by omega) hB ?_
  · intro j u hu
    cases j with
    | zero => simp at hu; subst hu; simpa [Addr.add] using hcell
    | succ j => simp at hu
  · intro v' w' hown' hg _
    refine h v' w' ?_ ((Below.refl B w).grown hg hB (fun k e => (World.ownsRow.lt hown k e).1))
    unfold OwnL
    simpa [iv] using hown'
theorem MarkRow.grown {w w' : World} {b N : Nat} {p : Nat → Bool} {v : Value} (h : MarkRow w b N p) (hg : w.grownBy w' v.ownBlock) (hv : v.ownBlock ≠ some b) : MarkRow w' b N p :=
  World.rowIs.of_block h (hg.block b (World.rowIs.lt h) (fun e => hv e.symm))
theorem below_own {B : Nat} {a w w' : World} {v : Value} {xs : List Int} (h : Below B a w) (hg : w.grownBy w' v.ownBlock) (hO : OwnL w B v xs) (hB : B ≤ w.heap.size) : Below B a w' := h.grown hg hB (fun k e => (World.ownsRow.lt hO k e).1)
end
section
/- The model: levels, traces, links, sets without a point. -/
open Go.ChangeShapes Go.WideShapes Go.ChangeAt Go.RowKit Go.Proofs

theorem sz_in (n k : Int) : inB k 0 n = decide (0 ≤ k ∧ k ≤ n) := rfl
theorem trace_all {n s : Int} {xs : List Int} (h : allB n xs = true) (hs : setB n s = true) : allB n (xs.map (fun x => andI x s)) = true := List.all_eq_true.2 fun z hz => by
  obtain ⟨y, hy, rfl⟩ := List.mem_map.1 hz
  exact andI_set (allB_yes h y hy) hs
theorem less_lo : ∀ s : Fin 256, ∀ p : Fin 8, hasB s.val p.val = true → ((s.val : Nat) : Int) - 2 ^ p.val = lessI s.val p.val ∧ 2 ^ p.val ≤ s.val := by decide +kernel
theorem less_yes {s p : Int} (h1 : 0 ≤ s) (h2 : s < 256) (h3 : 0 ≤ p) (h4 : p ≤ 7) (h : hasB s p = true) : s - 2 ^ p.toNat = lessI s p ∧ (2 : Int) ^ p.toNat ≤ s := by
  have h0 := less_lo ⟨s.toNat, by omega⟩ ⟨p.toNat, by omega⟩
  have e1 : ((s.toNat : Nat) : Int) = s := Int.toNat_of_nonneg h1
  have e2 : ((p.toNat : Nat) : Int) = p := Int.toNat_of_nonneg h3
  simp only [e1, e2] at h0
  obtain ⟨a, b⟩ := h0 h
  refine ⟨a, ?_⟩
  have : ((2 ^ p.toNat : Nat) : Int) = 2 ^ p.toNat := by simp
  omega
theorem link_eq {xs : List Int} {p : Int} (hA : Asc xs) (hz : ∀ z ∈ xs, 0 ≤ z ∧ z < 256) (p1 : 0 ≤ p) (p2 : p ≤ 7) : (xs.filter (fun x => hasB x p)).map (fun x => lessI x p) = sortL ((sortL (xs.filter (fun x => hasB x p))).map (fun x => lessI x p)) := by
  rw [sortL_asc (asc_filter hA _)]
  refine (sortL_asc (asc_map (asc_filter hA _) fun x hx y hy hxy => ?_)).symm
  obtain ⟨hx1, hx2⟩ := List.mem_filter.1 hx
  obtain ⟨hy1, hy2⟩ := List.mem_filter.1 hy
  have a := less_yes (hz x hx1).1 (hz x hx1).2 p1 p2 hx2
  have b := less_yes (hz y hy1).1 (hz y hy1).2 p1 p2 hy2
  omega

/-- the sets that have not p. -/
def woL (p : Int) (xs : List Int) : List Int := xs.filter (fun x => !hasB x p)
theorem woL_len (p : Int) (xs : List Int) : (woL p xs).length ≤ xs.length := List.length_filter_le _ _
/-- the sets that have p, less p. -/
def liL (p : Int) (xs : List Int) : List Int := (xs.filter (fun x => hasB x p)).map (fun x => lessI x p)
theorem liL_len (p : Int) (xs : List Int) : (liL p xs).length ≤ xs.length := by unfold liL; rw [List.length_map]; exact List.length_filter_le _ _
theorem woL_yes {p x : Int} {xs : List Int} {k : Nat} (hk : k < xs.length) (hx : xs.getD k 0 = x) (h : hasB x p = false) : woL p (xs.take (k + 1)) = woL p (xs.take k) ++ [x] := filt_yes hk hx _ (by simp [h])
theorem woL_no {p x : Int} {xs : List Int} {k : Nat} (hk : k < xs.length) (hx : xs.getD k 0 = x) (h : hasB x p = true) : woL p (xs.take (k + 1)) = woL p (xs.take k) := filt_no hk hx _ (by simp [h])
theorem liL_yes {p x : Int} {xs : List Int} {k : Nat} (hk : k < xs.length) (hx : xs.getD k 0 = x) (h : hasB x p = true) : liL p (xs.take (k + 1)) = liL p (xs.take k) ++ [lessI x p] := by unfold liL; rw [filt_yes hk hx (fun x => hasB x p) h, List.map_append]; rfl
theorem liL_no {p x : Int} {xs : List Int} {k : Nat} (hk : k < xs.length) (hx : xs.getD k 0 = x) (h : hasB x p = false) : liL p (xs.take (k + 1)) = liL p (xs.take k) := by unfold liL; rw [filt_no hk hx (fun x => hasB x p) h]

end
end Go.Proofs.YtoglcinfnhhkhabDoor
