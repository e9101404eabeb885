/- slices.Clone, slices.IndexFunc, slices.DeleteFunc at lists of sets. -/
import Derived.Test.YtjhjmbiecihjhaaDoorCw1
import Derived.Test.YtjhjmbiecihjhaaDoorAc1
import Derived.Test.YtjhjmbiecihjhaaDoorCp1
import Derived.Lib.SliceRun
import Derived.Maps.AppendAt
namespace Go.Proofs.YtjhjmbiecihjhaaDoor
open Go.ChangeShapes Go.WideShapes Go.ChangeAt Go.RowKit Go.Proofs

/-- block g holds the N sets xs, the call's own. -/
def SetN (w : World) (B g N cap : Nat) (xs : List Int) : Prop := w.ownsRow B 55 1 (.slice (some ⟨g, 0, none⟩) N cap) N (sv xs)
theorem SetN.len {w : World} {B g N cap : Nat} {xs : List Int} (h : SetN w B g N cap xs) : xs.length = N := by have := h.1; rw [sv_len] at this; omega
theorem SetN.toL {w : World} {B g N cap : Nat} {xs : List Int} (h : SetN w B g N cap xs) : SetL w B (.slice (some ⟨g, 0, none⟩) N cap) xs := by
  have hl := h.len
  subst hl
  exact h
theorem SetN.put {w : World} {B g N cap : Nat} {xs : List Int} (h : SetN w B g N cap xs) (p : Nat) (q : Int) : SetN (w.setCell ⟨g, p, none⟩ (.int .u64 q)) B g N cap (xs.set p q) := by
  have h1 := (World.ownsRow.stored h p (.int .u64 q)).1
  unfold sv at h1
  rw [← List.map_set] at h1
  exact h1
theorem SetN.cell {w : World} {B g N cap : Nat} {xs : List Int} (h : SetN w B g N cap xs) {i : Nat} (hi : i < N) : w.cell? ⟨g, i, none⟩ = some (.int .u64 (xs.getD i 0)) := by
  have hl := h.len
  rw [World.ownsRow.cellAt h i (by omega)]
  exact sv_at (by omega)
theorem SetN.frozen {w : World} {B g N cap : Nat} {xs : List Int} (h : SetN w B g N cap xs) (i : Nat) : w.frozen? ⟨g, i, none⟩ = false := World.ownsRow.frozenAt h i
theorem SetN.ge {w : World} {B g N cap : Nat} {xs : List Int} (h : SetN w B g N cap xs) : B ≤ g ∧ g < w.heap.size := World.ownsRow.lt h g rfl
theorem SetN.cap {w : World} {B g N cap : Nat} {xs : List Int} (h : SetN w B g N cap xs) : N ≤ cap ∧ cap ≤ maxLen := by
  rcases h.2 with ⟨h2, _⟩ | ⟨g', cap', cur, e, hg, hh, h3, h4, _⟩
  · cases h2
  · cases e; exact ⟨h3, h4⟩
theorem SetN.take {w : World} {B g N cap : Nat} {xs : List Int} (h : SetN w B g N cap xs) {i : Nat} (hi : i ≤ N) : SetN w B g i cap (xs.take i) := by
  have hl := h.len
  refine ⟨by rw [sv_len, List.length_take]; omega, ?_⟩
  rcases h.2 with ⟨h2, _⟩ | ⟨g', cap', cur, e, hg, hh, h3, h4, h5, h6⟩
  · cases h2
  · cases e
    refine .inr ⟨g, cap, cur, rfl, hg, hh, by omega, h4, h5, ?_⟩
    have h7 : (cur.toList.take (N * 1)).take (i * 1) = (sv xs).take i := by rw [h6, Nat.mul_one]
    rw [List.take_take, Nat.min_eq_left (by omega)] at h7
    rw [h7]
    unfold sv
    rw [List.map_take]
theorem setN_cells {B g N cap : Nat} : ∀ (k i : Nat) (w : World) (xs : List Int), SetN w B g N cap xs → ∃ ys : List Int, SetN (w.setCells g i (List.replicate k (.int .u64 0))) B g N cap ys ∧ ys.take i = xs.take i
  | 0, i, w, xs, h => ⟨xs, h, rfl⟩
  | k + 1, i, w, xs, h => by
    rw [List.replicate_succ, World.setCells]
    obtain ⟨ys, h1, h2⟩ := setN_cells k (i + 1) _ _ (h.put i 0)
    refine ⟨ys, h1, ?_⟩
    have h3 := congrArg (List.take i) h2
    rw [List.take_take, List.take_take, Nat.min_eq_left (by omega), List.take_set_of_le (by omega)] at h3
    exact h3
theorem below_cells {B g : Nat} : ∀ (zs : List Value) (i : Nat) (w0 w : World), Below B w0 w → B ≤ g → Below B w0 (w.setCells g i zs)
  | [], _, _, _, h, _ => h
  | z :: zs, i, w0, w, h, hB => by
    rw [World.setCells]
    exact below_cells zs (i + 1) w0 _ (below_setCell h hB z) hB
theorem app_all {w : World} {ops : Array Oper} {rest : List Oper} {o : Oper} {a : Act} {Q : Exit → Act → World → Prop} (hgd : o.guard = none) (s x : Operand)
    (ho : o.op = .call { callee := .builtin .append, args := #[s, x], argTypes := #[48, 48] })
    (B : Nat) (v : Value) (hs : a.eval s = v) (hown : SetL w B v []) (ad : Addr) (m c : Nat) (xs : List Int) (hm : xs.length = m) (hx : a.eval x = .slice (some ad) m c)
    (hcell : ∀ j, j < m → w.cell? (ad.add j) = some (.int .u64 (xs.getD j 0))) (hlen : m ≤ 1000) (hB : B ≤ w.heap.size)
    (h : ∀ v' w', SetL w' B v' xs → Below B w w' → wpList Tryd.prog ops Q rest (a.put o.dst v') w') : wpList Tryd.prog ops Q (o :: rest) a w := by
  obtain ⟨i0, hi, hz0, hz1, hz2⟩ := info_parts Tryd.setInfo
  refine wpList_append_own w hgd s x 48 ho B 55 i0 (.int .u64 0) 1 8 Tryd.underlying48 hi hz0 hz1 hz2 rfl (by decide) v 0 (sv []) hs hown
    ad m c (sv xs) hx (by rw [sv_len]; omega) ?_ (sv_one xs) (by unfold maxLen; omega) (by omega) hB ?_
  · intro j u hu
    obtain ⟨h1, rfl⟩ := sv_get hu
    exact hcell j (by omega)
  · intro v' w' hown' hg _
    refine h v' w' ?_ ((Below.refl B w).grown hg hB (fun k e => (World.ownsRow.lt hown k e).1))
    unfold SetL
    rw [hm]
    simpa [sv] using hown'
theorem clone_at (a : Option Addr) (c : Nat) (xs : List Int) (S : Nat) (w : World) (hx : SRow w S (.slice a xs.length c) xs) (hS : S ≤ w.heap.size) (hl : xs.length ≤ 1000) :
    Calls Tryd.prog 88 #[.slice a xs.length c] w fun e w' => ∃ v, e = .returned v ∧ SetL w' w.heap.size v xs ∧ Below w.heap.size w w' := by
  obtain ⟨a', c', he, ha⟩ := hx
  cases he
  rcases a with _ | ad
  · have hz : xs = [] := by
      rcases Nat.eq_zero_or_pos xs.length with h | h
      · exact List.length_eq_zero_iff.1 h
      · obtain ⟨b, off, h1, _⟩ := ha h
        cases h1
    subst hz
    have hq := fun W n c => Lib.run_eql_slice_nil (P := Tryd.prog) W 48 55 none n c 0 0 Tryd.underlying48
    go_enter Tryd.func88, Tryd.ntmps88
    go_wp2_with fail
    go_ret
    exact ⟨_, rfl, SetL.nil _ _, Below.refl _ _⟩
  · have hq := fun W n c => Lib.run_eql_slice_nil (P := Tryd.prog) W 48 55 (some ad) n c 0 0 Tryd.underlying48
    have hb := (Below.refl w.heap.size w).alloc (Nat.le_refl _) (.cells #[] 55)
    have hcell := Lib.hid (show ∀ j, j < xs.length → (w.alloc (.cells #[] 55)).cell? (ad.add j) = some (.int .u64 (xs.getD j 0)) from fun j hj => by
      obtain ⟨b, off, h1, h2, h3⟩ := ha (by omega)
      cases h1
      have hadd : (⟨b, off, none⟩ : Addr).add j = ⟨b, off + j, none⟩ := by unfold Addr.add; split <;> simp_all
      rw [hadd]
      exact (hb.cell (p := ⟨b, off + j, none⟩) (show b < w.heap.size by omega)).trans (h3 j hj))
    have hO := Lib.hid (show SetL (w.alloc (.cells #[] 55)) w.heap.size (.slice (some ⟨w.heap.size, 0, none⟩) 0 0) [] from World.ownsRow_made w #[] 0 (Nat.le_refl _) (by unfold maxLen; omega) rfl)
    replace hb := Lib.hid hb
    replace ha := Lib.hid ha
    go_enter Tryd.func88, Tryd.ntmps88
    go_wp2_with (at_builtin; refine app_all rfl _ _ rfl w.heap.size _ rfl hO.out _ _ _ xs rfl rfl hcell.out hl (by simp) ?_; intro v' w1 hown1 hb1; replace hown1 := Lib.hid hown1; replace hb1 := Lib.hid hb1)
    go_ret
    exact ⟨_, rfl, hown1.out, hb.out.trans hb1.out⟩
end Go.Proofs.YtjhjmbiecihjhaaDoor
