/- Two lists of sets behind one another: slices.Grow and slices.Concat at the program's own type. -/
import Derived.Test.YtojfamjgghikoaaGreatDoorFams8
import Derived.Lib.AppendZeros
namespace Go.Proofs.YtojfamjgghikoaaGreatDoor
open Go.ChangeShapes Go.WideShapes Go.ChangeAt Go.RowKit Go.Proofs

/-- 'append' of nothing. -/
theorem run_app_none {w : World} {B : Nat} {v : Value} {xs : List Int} (ty : TypeId) (h : SetL w B v xs) (c : Nat) : (Builtin.append_ #[61, 61] ty #[v, .slice none 0 c]).run Tryz.prog w = .ok v w := by
  obtain ⟨i0, hi0, hz0, hz1, hz2⟩ := info_parts Tryz.setInfo
  have ht := Tryz.underlying61
  rcases h.out with ⟨rfl, _⟩ | ⟨g, cap, cur, rfl, _, _, hn, _⟩
  · simp [Builtin.append_, run_underlying ht, sizeOf, typeInfo, hi0, Builtin.lenOf, Builtin.firstCells]
  · simp [Builtin.append_, run_underlying ht, sizeOf, typeInfo, hi0, Builtin.lenOf, Builtin.firstCells, hn, storeCells]
set_option maxRecDepth 100000 in
/-- 'v = append(v, u...)'. -/
theorem app_sets {w : World} {ops : Array Oper} {rest : List Oper} {o : Oper} {a : Act} {Q : Exit → Act → World → Prop} (hgd : o.guard = none) (s x : Operand)
    (ho : o.op = .call { callee := .builtin .append, args := #[s, x], argTypes := #[61, 61] })
    (B : Nat) (v : Value) (xs : List Int) (hs : a.eval s = v) (hown : SetL w B v xs) (A : Option Addr) (c S : Nat) (ys : List Int) (hx : a.eval x = .slice A ys.length c) (hr : SRow w S (.slice A ys.length c) ys)
    (hlen : xs.length ≤ 100000) (hlen2 : ys.length ≤ 100000) (hB : B ≤ w.heap.size)
    (h : ∀ v' w', SetL w' B v' (xs ++ ys) → w.grownBy w' v.ownBlock → wpList Tryz.prog ops Q rest (a.put o.dst v') w') : wpList Tryz.prog ops Q (o :: rest) a w := by
  obtain ⟨i0, hi0, hz0, hz1, hz2⟩ := info_parts Tryz.setInfo
  obtain ⟨A', c', e, hc⟩ := hr
  injection e with e1 e2 e3
  subst e1 e3
  rcases A with _ | ad
  · have hn : ys = [] := by
      rcases Nat.eq_zero_or_pos ys.length with h0 | h0
      · exact List.length_eq_zero_iff.1 h0
      · obtain ⟨b, off, e, _⟩ := hc h0; cases e
    subst hn
    refine wpList_plain hgd fun K hK => ?_
    have hrun := run_app_none o.type hown c
    unfold Oper.wp
    simp only [List.length_nil] at hx
    simp [execOp, ho, resolve, invoke, builtin, hs, hx, hrun, Result.andThen]
    exact hK _ _ (h v w (by rw [List.append_nil]; exact hown) (grown_refl w _))
  · refine wpList_append_own w hgd s x 61 ho B 72 i0 (.int .u64 0) 1 8 Tryz.underlying61 hi0 hz0 hz1 hz2 rfl (by decide) v xs.length (sv xs) hs hown ad ys.length c (sv ys) hx (by rw [sv_len, Nat.mul_one]) ?_ (sv_one ys) (by unfold maxLen; omega) (by omega) hB ?_
    · intro j u hu
      obtain ⟨hj, rfl⟩ := sv_get hu
      obtain ⟨b, off, e, _, hcc⟩ := hc (by omega)
      injection e with e
      subst e
      have hadd : (⟨b, off, none⟩ : Addr).add j = ⟨b, off + j, none⟩ := by simp [Addr.add]
      rw [hadd]
      exact hcc j hj
    · intro v' w' hown' hg _
      refine h v' w' ?_ hg
      unfold SetL
      rw [sv_append, List.length_append]
      exact hown'
/-- what slices.Grow leaves of nil. -/
def GrowPost (w : World) (e : Ending) (w' : World) : Prop := ∃ v, e = .returned v ∧ SetL w' w.heap.size v [] ∧ Below w.heap.size w w'
set_option maxRecDepth 100000 in
set_option maxHeartbeats 1000000 in
theorem grow_nil (n : Nat) (hn : n ≤ 100000) (w : World) : Calls Tryz.prog 290 #[.slice none 0 0, .int .i64 n] w (GrowPost w) := by
  obtain ⟨i0, hi0, hz0, hz1, hz2⟩ := info_parts Tryz.setInfo
  by_cases h0 : n = 0
  · subst h0
    go_enter Tryz.func290, Tryz.ntmps290
    go_wp2
    go_ret
    exact ⟨_, rfl, SetL.nil _ _, Below.refl _ _⟩
  · have hpos : (0 : Int) < n := by omega
    have hr : ∀ ty, (Builtin.append_ #[61, 3] ty #[.slice none 0 0, .int .i64 n]).run Tryz.prog w = .ok (.slice (some ⟨w.heap.size, 0, none⟩) n (grownCap w n 0 72)) (w.drew.alloc (.cells (Builtin.zeroCells (Value.int .u64 0).cells n ++ Builtin.zeroCells (Value.int .u64 0).cells (grownCap w n 0 72 - n)) 72)) := fun ty =>
      Lib.run_append_nil_zeros w 61 3 ty 72 i0 _ .i64 .i64 Tryz.underlying61 Tryz.underlying3 hi0 hz0 n (by omega) (by omega) (by omega) (by rw [hz2]; omega)
    have hG1 := grownCap_ge w n 0 72
    have hG2 := grownCap_le_maxLen w n 0 72 (by unfold maxLen; omega)
    obtain ⟨G, hG⟩ : ∃ G, grownCap w n 0 72 = G := ⟨_, rfl⟩
    rw [hG] at hr hG1 hG2
    obtain ⟨ROW, hR⟩ : ∃ ROW : Array Value, Builtin.zeroCells (Value.int .u64 0).cells n ++ Builtin.zeroCells (Value.int .u64 0).cells (G - n) = ROW := ⟨_, rfl⟩
    have hRs : ROW.size = G := by rw [← hR]; simp [Builtin.zeroCells, Value.cells]; omega
    rw [hR] at hr
    replace hr := Lib.hid hr
    replace hG := Lib.hid hG
    replace hR := Lib.hid hR
    replace hRs := Lib.hid hRs
    have hG3 : G ≤ 9223372036854775807 := by unfold maxLen at hG2; omega
    go_enter Tryz.func290, Tryz.ntmps290
    go_wp2_with (at_builtin; refine Lib.wpList_append_run _ rfl _ _ 61 3 rfl _ _ rfl rfl _ _ (hr.out _) ?_)
    go_ret
    refine ⟨_, rfl, SetL.mk (xs := []) (Nat.le_refl _) (heap_alloc_new w _) (by simp) hG2 hRs.out (fun j hj => by simp at hj), ((Below.refl _ _).alloc (Nat.le_refl _) _).drew⟩

/-- what slices.Concat leaves. -/
def CatPost (ys : List Int) (w : World) (e : Ending) (w' : World) : Prop := ∃ v, e = .returned v ∧ SetL w' w.heap.size v ys ∧ Below w.heap.size w w'
set_option maxRecDepth 100000 in
set_option maxHeartbeats 4000000 in
theorem concat_two (vb : Nat) (lv lu : Value) (xs ys : List Int) (S : Nat) (w : World) (hx : SRow w S lv xs) (hy : SRow w S lu ys) (hS : S ≤ w.heap.size) (hl : xs.length ≤ 40000) (hl2 : ys.length ≤ 40000)
    (h0 : w.cell? ⟨vb, 0, none⟩ = some lv) (h1 : w.cell? ⟨vb, 1, none⟩ = some lu) (hvb : vb < w.heap.size) :
    Calls Tryz.prog 253 #[.slice (some ⟨vb, 0, none⟩) 2 2] w (CatPost (xs ++ ys) w) := by
  obtain ⟨a, cap, rfl, ha⟩ := id hx
  obtain ⟨b, cbp, rfl, hb⟩ := id hy
  replace hx := Lib.hid hx
  replace hy := Lib.hid hy
  clear ha hb
  go_enter Tryz.func253, Tryz.ntmps253
  go_wp2_with fail
  go_loop [3, 11] (fun p q => (p = .int .i64 0 ∧ q = .int .i64 0) ∨ (p = .int .i64 (xs.length : Nat) ∧ q = .int .i64 1) ∨ (p = .int .i64 ((xs.length : Nat) + (ys.length : Nat)) ∧ q = .int .i64 2)) (fun _ q => 2 - (intOf q).toNat)
  case atStart => exact .inl ⟨rfl, rfl⟩
  case round =>
    rcases hrel with ⟨rfl, rfl⟩ | ⟨rfl, rfl⟩ | ⟨rfl, rfl⟩
    · go_wp2_with fail
      go_round
      case rel => exact .inr (.inl ⟨by simp, rfl⟩)
      case measure => simp [intOf]
    · go_wp2_with fail
      go_round
      case rel => exact .inr (.inr ⟨rfl, rfl⟩)
      case measure => simp [intOf]
    · have hgn := Lib.hid (grow_nil (xs.length + ys.length) (by omega) w)
      rw [Int.natCast_add] at hgn
      go_wp2_with fail
      refine hgn.out.mono ?_
      rintro e w1 ⟨v1, rfl, hS1, hb1⟩
      obtain ⟨a1, c1, rfl⟩ := hS1.form
      replace hS1 := Lib.hid hS1
      replace hb1 := Lib.hid hb1
      clear hgn
      go_wp2_with fail
      go_loopw [6, 27] (fun p q wr => Hid (Below w.heap.size w wr) ∧ ((q = .int .i64 0 ∧ Hid (SetL wr w.heap.size p [])) ∨ (q = .int .i64 1 ∧ Hid (SetL wr w.heap.size p xs)) ∨ (q = .int .i64 2 ∧ Hid (SetL wr w.heap.size p (xs ++ ys))))) (fun _ q _ => 2 - (intOf q).toNat)
      case atStart => exact ⟨hb1, .inl ⟨rfl, hS1⟩⟩
      case round =>
        obtain ⟨hbr, hrel⟩ := hrel
        have e0 := (hbr.out.cell (p := ⟨vb, 0, none⟩) hvb).trans h0
        have e1 := (hbr.out.cell (p := ⟨vb, 1, none⟩) hvb).trans h1
        have hxr := Lib.hid (hx.out.below hbr.out hS)
        have hyr := Lib.hid (hy.out.below hbr.out hS)
        have hBr := hbr.out.size
        rcases hrel with ⟨rfl, hP⟩ | ⟨rfl, hP⟩ | ⟨rfl, hP⟩
        · obtain ⟨a2, c2, rfl⟩ := hP.out.form
          clear h0 h1
          go_wp2_with (at_builtin; refine app_sets rfl _ _ rfl w.heap.size _ [] rfl hP.out a cap S xs rfl hxr.out (by simp) (by omega) hBr ?_; intro v' w' hS' hg')
          have hb' := Lib.hid (below_grow hbr.out hg' hP.out hBr)
          replace hS' := Lib.hid hS'
          go_roundw
          case rel => exact ⟨hb', .inr (.inl ⟨rfl, hS'⟩)⟩
          case measure => simp [intOf]
        · obtain ⟨a2, c2, rfl⟩ := hP.out.form
          clear h0 h1
          go_wp2_with (at_builtin; refine app_sets rfl _ _ rfl w.heap.size _ xs rfl hP.out b cbp S ys rfl hyr.out (by omega) (by omega) hBr ?_; intro v' w' hS' hg')
          have hb' := Lib.hid (below_grow hbr.out hg' hP.out hBr)
          replace hS' := Lib.hid hS'
          go_roundw
          case rel => exact ⟨hb', .inr (.inr ⟨rfl, hS'⟩)⟩
          case measure => simp [intOf]
        · obtain ⟨a2, c2, rfl⟩ := hP.out.form
          clear h0 h1
          go_wp2_with fail
          go_ret
          exact ⟨_, rfl, hP.out, hbr.out⟩
end Go.Proofs.YtojfamjgghikoaaGreatDoor
