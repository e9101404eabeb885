/- Two lists of sets behind one another: slices.Grow and slices.Concat at the program's own type. -/
import Derived.Test.YtoglcinfnhhkhabDoorFams8
import Derived.Lib.AppendZeros
namespace Go.Proofs.YtoglcinfnhhkhabDoor
open Go.ChangeShapes Go.WideShapes Go.ChangeAt Go.RowKit Go.Proofs

/-- 'append' of nothing. -/
theorem run_app_none {w : World} {B : Nat} {v : Value} {xs : List Int} (ty : TypeId) (h : SetL w B v xs) (c : Nat) : (Builtin.append_ #[36, 36] ty #[v, .slice none 0 c]).run Tryd.prog w = .ok v w := by
  obtain ⟨i0, hi0, hz0, hz1, hz2⟩ := info_parts Tryd.setInfo
  have ht := Tryd.underlying36
  rcases h.out with ⟨rfl, _⟩ | ⟨g, cap, cur, rfl, _, _, hn, _⟩
  · simp [Builtin.append_, run_underlying ht, sizeOf, typeInfo, hi0, Builtin.lenOf, Builtin.firstCells]
  · simp [Builtin.append_, run_underlying ht, sizeOf, typeInfo, hi0, Builtin.lenOf, Builtin.firstCells, hn, storeCells]
set_option maxRecDepth 100000 in
/-- 'v = append(v, u...)'. -/
theorem app_sets {w : World} {ops : Array Oper} {rest : List Oper} {o : Oper} {a : Act} {Q : Exit → Act → World → Prop} (hgd : o.guard = none) (s x : Operand)
    (ho : o.op = .call { callee := .builtin .append, args := #[s, x], argTypes := #[36, 36] })
    (B : Nat) (v : Value) (xs : List Int) (hs : a.eval s = v) (hown : SetL w B v xs) (A : Option Addr) (c S : Nat) (ys : List Int) (hx : a.eval x = .slice A ys.length c) (hr : SRow w S (.slice A ys.length c) ys)
    (hlen : xs.length ≤ 100000) (hlen2 : ys.length ≤ 100000) (hB : B ≤ w.heap.size)
    (h : ∀ v' w', SetL w' B v' (xs ++ ys) → w.grownBy w' v.ownBlock → wpList Tryd.prog ops Q rest (a.put o.dst v') w') : wpList Tryd.prog ops Q (o :: rest) a w := by
  obtain ⟨i0, hi0, hz0, hz1, hz2⟩ := info_parts Tryd.setInfo
  obtain ⟨A', c', e, hc⟩ := hr
  injection e with e1 e2 e3
  subst e1 e3
  rcases A with _ | ad
  · have hn : ys = [] := by
      rcases Nat.eq_zero_or_pos ys.length with h0 | h0
      · exact List.length_eq_zero_iff.1 h0
      · obtain ⟨b, off, e, _⟩ := hc h0; cases e
    subst hn
    refine wpList_plain hgd fun K hK => ?_
    have hrun := run_app_none o.type hown c
    unfold Oper.wp
    simp only [List.length_nil] at hx
    simp [execOp, ho, resolve, invoke, builtin, hs, hx, hrun, Result.andThen]
    exact hK _ _ (h v w (by rw [List.append_nil]; exact hown) (grown_refl w _))
  · refine wpList_append_own w hgd s x 36 ho B 42 i0 (.int .u64 0) 1 8 Tryd.underlying36 hi0 hz0 hz1 hz2 rfl (by decide) v xs.length (sv xs) hs hown ad ys.length c (sv ys) hx (by rw [sv_len, Nat.mul_one]) ?_ (sv_one ys) (by unfold maxLen; omega) (by omega) hB ?_
    · intro j u hu
      obtain ⟨hj, rfl⟩ := sv_get hu
      obtain ⟨b, off, e, _, hcc⟩ := hc (by omega)
      injection e with e
      subst e
      have hadd : (⟨b, off, none⟩ : Addr).add j = ⟨b, off + j, none⟩ := by simp [Addr.add]
      rw [hadd]
      exact hcc j hj
    · intro v' w' hown' hg _
      refine h v' w' ?_ hg
      unfold SetL
      rw [sv_append, List.length_append]
      exact hown'
/-- what slices.Grow leaves of nil. -/
def GrowPost (w : World) (e : Ending) (w' : World) : Prop := ∃ v, e = .returned v ∧ SetL w' w.heap.size v [] ∧ Below w.heap.size w w'
/-- what slices.Concat leaves. -/
def CatPost (ys : List Int) (w : World) (e : Ending) (w' : World) : Prop := ∃ v, e = .returned v ∧ SetL w' w.heap.size v ys ∧ Below w.heap.size w w'
end Go.Proofs.YtoglcinfnhhkhabDoor
