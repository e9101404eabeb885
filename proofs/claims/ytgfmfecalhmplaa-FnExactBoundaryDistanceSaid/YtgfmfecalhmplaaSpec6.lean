/- The model: others, the rest, levels, traces, links, sets without a point. -/
import Derived.Test.YtgfmfecalhmplaaSpec5
import Derived.Test.YtgfmfecalhmplaaFams12
import Derived.Deep.RegionLaw
import Derived.IntWalk
namespace Go.Proofs.Ytgfmfecalhmplaa
open Go.ChangeShapes Go.WideShapes Go.ChangeAt Go.RowKit Go.Proofs

theorem asc_map {xs : List Int} {f : Int → Int} (hA : Asc xs) (h : ∀ x ∈ xs, ∀ y ∈ xs, x < y → f x < f y) : Asc (xs.map f) := by
  unfold Asc at *
  rw [List.pairwise_map]
  exact hA.imp_of_mem (fun hx hy hxy => h _ hx _ hy hxy)
theorem asc_other {N : Int} {xs : List Int} (hA : Asc xs) : Asc ((xs.reverse).map (fun x => N - 1 - x)) := by
  unfold Asc at *
  rw [List.pairwise_map, List.pairwise_reverse]
  exact hA.imp (fun h => by omega)
theorem up_sort (N : Nat) : sortL (upI N) = upI N := sortL_asc (asc_upI N)
theorem rest_eq (N : Nat) (xs : List Int) : mkL (fun j => !memB (j : Nat) xs) N = sortL ((sortL (upI N)).filter (fun x => !memB x xs)) := by
  rw [up_sort, sortL_asc (asc_filter (asc_upI N) _)]
  unfold mkL
  exact List.filter_congr fun z hz => by show (!memB ((z.toNat : Nat) : Int) xs) = _; rw [Int.toNat_of_nonneg (mem_upI.1 hz).1]
theorem level_eq (N : Nat) (k : Int) : mkL (fun j => cntI (j : Nat) == k) N = sortL ((sortL (upI N)).filter (fun x => cntI x == k)) := by
  rw [up_sort, sortL_asc (asc_filter (asc_upI N) _)]
  unfold mkL
  exact List.filter_congr fun z hz => by show (cntI ((z.toNat : Nat) : Int) == k) = _; rw [Int.toNat_of_nonneg (mem_upI.1 hz).1]
theorem drop_step {xs : List Int} {k : Nat} {x : Int} (hk : k < xs.length) (hx : xs.getD k 0 = x) : (xs.drop k).reverse = (xs.drop (k + 1)).reverse ++ [x] := by
  rw [List.drop_eq_getElem_cons hk, List.reverse_cons]
  rw [List.getD_eq_getElem?_getD, List.getElem?_eq_getElem hk] at hx
  simp at hx
  rw [hx]
theorem app_int_at {w : World} {ops : Array Oper} {rest : List Oper} {o : Oper} {a : Act} {Q : Exit → Act → World → Prop} (hgd : o.guard = none) (s x : Operand)
    (ho : o.op = .call { callee := .builtin .append, args := #[s, x], argTypes := #[27, 27] })
    (B : Nat) (v : Value) (xs : List Int) (hs : a.eval s = v) (hown : OwnL w B v xs) (y : Int) (b : Nat) (hx : a.eval x = .slice (some ⟨b, 0, none⟩) 1 1) (hcell : w.cell? ⟨b, 0, none⟩ = some (.int .i64 y))
    (hlen : xs.length ≤ 1073741824) (hB : B ≤ w.heap.size)
    (h : ∀ v' w', OwnL w' B v' (xs ++ [y]) → w.grownBy w' v.ownBlock → (v'.ownBlock = v.ownBlock ∨ v'.ownBlock = some w.heap.size) → wpList Try.prog ops Q rest (a.put o.dst v') w') : wpList Try.prog ops Q (o :: rest) a w := by
  obtain ⟨i0, hi, hz0, hz1, hz2⟩ := info_parts Try.intInfo
  refine wpList_append_own_at w hgd s x 27 ho B 3 i0 (.int .i64 0) 1 8 Try.underlying27 hi hz0 hz1 hz2 rfl (by decide) v xs.length (iv xs) hs hown ⟨b, 0, none⟩ 1 1 [.int .i64 y] hx rfl ?_ (by simp [Value.oneCell']) (by unfold maxLen; omega) (by omega) hB ?_
  · intro j u hu
    cases j with
    | zero => simp at hu; subst hu; simpa [Addr.add] using hcell
    | succ j => simp at hu
  · intro v' w' hown' hg _ hat
    refine h v' w' ?_ hg hat
    unfold OwnL
    simpa [iv] using hown'
theorem step_app_int {w : World} {ops : Array Oper} {o : Oper} {a : Act} {K : Act → World → Prop} {Q : Exit → Act → World → Prop} {E : Prop} (hgd : o.guard = none) (s x : Operand)
    (ho : o.op = .call { callee := .builtin .append, args := #[s, x], argTypes := #[27, 27] })
    (B : Nat) (v : Value) (xs : List Int) (hs : a.eval s = v) (hown : OwnL w B v xs) (y : Int) (b : Nat) (hx : a.eval x = .slice (some ⟨b, 0, none⟩) 1 1) (hcell : w.cell? ⟨b, 0, none⟩ = some (.int .i64 y))
    (hlen : xs.length ≤ 1073741824) (hB : B ≤ w.heap.size)
    (h : ∀ v' w', OwnL w' B v' (xs ++ [y]) → Below B w w' → K (a.put o.dst v') w') : if Region.wanted o (yielded ops a.tmps) = true then Oper.wp Try.prog o a w K Q else E := by
  have hw : Region.wanted o (yielded ops a.tmps) = true := by simp [Region.wanted, hgd]
  rw [if_pos hw]
  obtain ⟨i0, hi, hz0, hz1, hz2⟩ := info_parts Try.intInfo
  refine wp_append_own w s x 27 ho B 3 i0 (.int .i64 0) 1 8 Try.underlying27 hi hz0 hz1 hz2 rfl (by decide) v xs.length (iv xs) hs hown ⟨b, 0, none⟩ 1 1 [.int .i64 y] hx rfl ?_ (by simp [Value.oneCell']) (by unfold maxLen; omega) (by omega) hB ?_
  · intro j u hu
    cases j with
    | zero => simp at hu; subst hu; simpa [Addr.add] using hcell
    | succ j => simp at hu
  · intro v' w' hown' hg _
    refine h v' w' ?_ ((Below.refl B w).grown hg hB (fun k e => (World.ownsRow.lt hown k e).1))
    unfold OwnL
    simpa [iv] using hown'
theorem MarkRow.grown {w w' : World} {b N : Nat} {p : Nat → Bool} {v : Value} (h : MarkRow w b N p) (hg : w.grownBy w' v.ownBlock) (hv : v.ownBlock ≠ some b) : MarkRow w' b N p :=
  World.rowIs.of_block h (hg.block b (World.rowIs.lt h) (fun e => hv e.symm))
theorem below_own {B : Nat} {a w w' : World} {v : Value} {xs : List Int} (h : Below B a w) (hg : w.grownBy w' v.ownBlock) (hO : OwnL w B v xs) (hB : B ≤ w.heap.size) : Below B a w' := h.grown hg hB (fun k e => (World.ownsRow.lt hO k e).1)
end Go.Proofs.Ytgfmfecalhmplaa
