/- The model: unions, common sets, what is left, common parts, joins, traces, links, levels, others. -/
import Derived.Test.YtgfmfecalhmplaaSpec3
import Derived.Test.YtgfmfecalhmplaaLawsB
import Derived.Test.YtgfmfecalhmplaaBits
import Derived.Test.YtgfmfecalhmplaaFams10
namespace Go.Proofs.Ytgfmfecalhmplaa
open Go.ChangeShapes Go.WideShapes Go.ChangeAt Go.RowKit Go.Proofs

/-- the cells of a list of numbers. -/
def iv (xs : List Int) : List Value := xs.map (Value.int .i64)
theorem iv_get {xs : List Int} {j : Nat} {u : Value} (h : (iv xs)[j]? = some u) : j < xs.length ∧ u = .int .i64 (xs.getD j 0) := by
  unfold iv at h
  rw [List.getElem?_map] at h
  cases hx : xs[j]? with
  | none => rw [hx] at h; cases h
  | some x =>
    rw [hx] at h
    have hj := (List.getElem?_eq_some_iff.1 hx).1
    refine ⟨hj, ?_⟩
    rw [List.getD_eq_getElem?_getD, hx]
    simp at h
    exact h.symm
theorem iv_one (xs : List Int) : ∀ v ∈ iv xs, v.oneCell' = true := by
  intro v hv
  obtain ⟨x, _, rfl⟩ := List.mem_map.1 hv
  rfl
theorem run_app_none_i {w : World} {B : Nat} {v : Value} {xs : List Int} (ty : TypeId) (h : OwnL w B v xs) (c : Nat) : (Builtin.append_ #[27, 27] ty #[v, .slice none 0 c]).run Try.prog w = .ok v w := by
  obtain ⟨i0, hi0, hz0, hz1, hz2⟩ := info_parts Try.intInfo
  have ht := Try.underlying27
  rcases h.2 with ⟨rfl, _⟩ | ⟨g, cap, cur, rfl, _, _, hn, _⟩
  · simp [Builtin.append_, run_underlying ht, sizeOf, typeInfo, hi0, Builtin.lenOf, Builtin.firstCells]
  · simp [Builtin.append_, run_underlying ht, sizeOf, typeInfo, hi0, Builtin.lenOf, Builtin.firstCells, hn, storeCells]
set_option maxRecDepth 100000 in
theorem app_ints {w : World} {ops : Array Oper} {rest : List Oper} {o : Oper} {a : Act} {Q : Exit → Act → World → Prop} (hgd : o.guard = none) (s x : Operand)
    (ho : o.op = .call { callee := .builtin .append, args := #[s, x], argTypes := #[27, 27] })
    (B : Nat) (v : Value) (xs : List Int) (hs : a.eval s = v) (hown : OwnL w B v xs) (A : Option Addr) (c S : Nat) (ys : List Int) (hx : a.eval x = .slice A ys.length c) (hr : Row w S (.slice A ys.length c) ys)
    (hlen : xs.length ≤ 1073741824) (hlen2 : ys.length ≤ 1073741824) (hB : B ≤ w.heap.size)
    (h : ∀ v' w', OwnL w' B v' (xs ++ ys) → Below B w w' → wpList Try.prog ops Q rest (a.put o.dst v') w') : wpList Try.prog ops Q (o :: rest) a w := by
  obtain ⟨i0, hi0, hz0, hz1, hz2⟩ := info_parts Try.intInfo
  obtain ⟨A', c', e, hc⟩ := hr
  injection e with e1 e2 e3
  subst e1 e3
  rcases A with _ | ad
  · have hn : ys = [] := by
      rcases Nat.eq_zero_or_pos ys.length with h0 | h0
      · exact List.length_eq_zero_iff.1 h0
      · obtain ⟨b, off, e, _⟩ := hc h0; cases e
    subst hn
    refine wpList_plain hgd fun K hK => ?_
    have hrun := run_app_none_i o.type hown c
    unfold Oper.wp
    simp only [List.length_nil] at hx
    simp [execOp, ho, resolve, invoke, builtin, hs, hx, hrun, Result.andThen]
    exact hK _ _ (h v w (by rw [List.append_nil]; exact hown) (Below.refl _ _))
  · refine wpList_append_own w hgd s x 27 ho B 3 i0 (.int .i64 0) 1 8 Try.underlying27 hi0 hz0 hz1 hz2 rfl (by decide) v xs.length (iv xs) hs hown ad ys.length c (iv ys) hx (by simp [iv]) ?_ (iv_one ys) (by unfold maxLen; omega) (by omega) hB ?_
    · intro j u hu
      obtain ⟨hj, rfl⟩ := iv_get hu
      obtain ⟨b, off, e, _, hcc⟩ := hc (by omega)
      injection e with e
      subst e
      have hadd : (⟨b, off, none⟩ : Addr).add j = ⟨b, off + j, none⟩ := by simp [Addr.add]
      rw [hadd]
      exact hcc j hj
    · intro v' w' hown' hg _
      refine h v' w' ?_ ((Below.refl B w).grown hg hB (fun k e => (World.ownsRow.lt hown k e).1))
      unfold OwnL
      rw [List.map_append, List.length_append]
      exact hown'
theorem allB_app {n : Int} {xs zs : List Int} (h1 : allB n xs = true) (h2 : allB n zs = true) : allB n (xs ++ zs) = true := List.all_eq_true.2 fun z hz => by
  rcases List.mem_append.1 hz with h | h
  · exact allB_yes h1 z h
  · exact allB_yes h2 z h
theorem famB_allB {n : Int} {xs : List Int} (h : famB n xs = true) : allB n xs = true := List.all_eq_true.2 (famB_all h).2.2
theorem own_lift {w w' : World} {q : Nat} {v : Value} {L : List Int} (h : OwnL w' (w.drewN q).heap.size v L) : Own w' w.heap.size w'.heap.size v L := h.own

theorem filt_yes {xs : List Int} {k : Nat} {x : Int} (hk : k < xs.length) (hx : xs.getD k 0 = x) (p : Int → Bool) (h : p x = true) : (xs.take (k + 1)).filter p = (xs.take k).filter p ++ [x] := by rw [take_snoc hk, hx, filter_snoc, if_pos h]
theorem filt_no {xs : List Int} {k : Nat} {x : Int} (hk : k < xs.length) (hx : xs.getD k 0 = x) (p : Int → Bool) (h : p x = false) : (xs.take (k + 1)).filter p = (xs.take k).filter p := by rw [take_snoc hk, hx, filter_snoc, if_neg (by simp [h]), List.append_nil]
theorem filt_eq {n : Int} {xs : List Int} (h : allB n xs = true) (hA : Asc xs) (p q : Int → Bool) (hpq : ∀ z, 0 ≤ z → p z = q z) : xs.filter p = sortL (xs.filter q) := by
  rw [sortL_asc (asc_filter hA _)]
  exact List.filter_congr fun z hz => hpq z (setB_lt (allB_yes h z hz)).1

end Go.Proofs.Ytgfmfecalhmplaa
