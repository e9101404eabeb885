/- Families read from lists; FamilyIn and FamilyOf. -/
import Derived.Test.YtojfamjgghikoaaGreatDoorFams3
namespace Go.Proofs.YtojfamjgghikoaaGreatDoor
open Go.ChangeShapes Go.WideShapes Go.ChangeAt Go.RowKit Go.Proofs

theorem famB_of {n : Int} {xs : List Int} (h : colB n xs = true) : famB n xs = sameB (sortL xs) xs := by unfold famB sameB; rw [h, Bool.true_and]
theorem famB_no {n : Int} {xs : List Int} (h : colB n xs = false) : famB n xs = false := by unfold famB; rw [h, Bool.false_and]
theorem ret_vb {v : Value} {c d : Bool} (h : c = d) : Ending.returned (.tuple #[v, .bool c]) = .returned (.tuple #[v, .bool d]) := by rw [h]
theorem SetL.cast {w : World} {B : Nat} {v : Value} {ys zs : List Int} (e : ys = zs) (h : SetL w B v ys) : SetL w B v zs := e ▸ h
theorem same_yes {xs ys : List Int} (h : sameB xs ys = true) : xs = ys := of_decide_eq_true h
/-- what readFamily leaves. -/
def ReadPost (n : Int) (xs : List Int) (w : World) (e : Ending) (w' : World) : Prop :=
  (famB n xs = true ∧ ∃ v, e = .returned (.tuple #[.agg #[v, (Value.func (.func 188) #[] #[])], .bool true]) ∧ SetL w' w.heap.size v xs ∧ Below w.heap.size w w') ∨
  (famB n xs = false ∧ e = .returned (.tuple #[.agg #[.slice none 0 0, .nilFunc], .bool false]) ∧ Below w.heap.size w w')
set_option maxHeartbeats 2000000 in
theorem read_any (n : Int) (lv : Value) (xs : List Int) (S : Nat) (w : World) (hx : Row w S lv xs) (hS : S ≤ w.heap.size) (hl : xs.length ≤ 100000000) :
    Calls Tryz.prog 224 #[.int .i64 n, lv] w (ReadPost n xs w) := by
  have hR := Lib.hid hx
  have hc := Lib.hid (col_any n lv xs S (w.alloc (.cells #[.slice none 0 0, .nilFunc] 64)) (hx.below ((Below.refl _ w).alloc (Nat.le_refl _) _) hS) (by simp; omega) hl)
  obtain ⟨la, lc, rfl, _⟩ := id hx
  clear hx
  go_enter Tryz.func224, Tryz.ntmps224
  go_wp2_with fail
  refine hc.out.mono ?_
  rintro e w1 (⟨hcol, v, rfl, hS1, hb1⟩ | ⟨hcol, rfl, hb1⟩)
  · obtain ⟨a', c', rfl⟩ := hS1.form
    rw [World.size_alloc] at hS1 hb1
    have hz1 := hb1.size
    simp at hz1
    have hlen := Lib.hid (colB_len hcol)
    have hzz : ∀ z ∈ sortL xs, 0 ≤ z ∧ z < 256 := fun z hz => setB_lt ((colB_lt hcol).2.2 z (mem_sortL.1 hz))
    have hS2 := hS1.alloc (.cells #[.slice a' (sortL xs).length c', (Value.func (.func 188) #[] #[])] 64)
    have hnum := Lib.hid (numbers_at _ _ _ _ hS2.row (Nat.le_refl _) (by have := hlen.out; omega) hzz)
    have hfam := Lib.hid (famB_of hcol)
    have hb2 := Lib.hid (hb1.alloc hz1 (.cells #[.slice a' (sortL xs).length c', (Value.func (.func 188) #[] #[])] 64))
    have hbox := Lib.hid (fbox_new hS1 hz1)
    replace hS1 := Lib.hid hS1
    clear hc hcol hS2 hzz hb1
    go_wp2_with fail
    refine hnum.out.mono ?_
    rintro e w3 ⟨u, rfl, hO, hb3⟩
    obtain ⟨ua, uc, rfl, _⟩ := id hO
    have hz3 := hb3.size
    simp at hz3
    have hR3 := ((hR.out.below ((Below.refl _ w).alloc (Nat.le_refl _) _) hS).below hb2.out (by omega)).below hb3 (by simp; omega)
    have heq := Lib.hid (equal_ints _ _ _ _ w3.heap.size w3 hO.row (hR3.mono (by omega)) (by have := hlen.out; omega) (by omega))
    have hbox3 := Lib.hid (hbox.out.below hb3 (Nat.le_refl _))
    rw [World.size_alloc] at hb3
    have hb4 := Lib.hid (hb2.out.trans (hb3.mono (by omega)))
    clear hR3 hb3 hbox hO
    rcases (by cases sameB (sortL xs) xs <;> simp : sameB (sortL xs) xs = true ∨ sameB (sortL xs) xs = false) with hs | hs
    · have heq2 := heq.out
      rw [hs] at heq2
      have hfy := Lib.hid (hfam.out.trans hs)
      replace hs := Lib.hid hs
      replace heq := Lib.hid heq2
      clear heq2
      go_wp2_with fail
      refine heq.out.mono ?_
      rintro e w4 ⟨rfl, q, rfl⟩
      obtain ⟨a2, c2, b0, b1, hS5⟩ := box_cells (hbox3.out.drewN q)
      obtain ⟨d0, d1, df0, df1⟩ := res_cells (new_cell w _ _) (below_drewN hb4.out q)
      have rr := two_cells (.slice a2 (sortL xs).length c2) (Value.func (.func 188) #[] #[]) d0 d1
      have hff := Lib.hid (fam_fin hS5 (((Below.refl _ w).alloc (Nat.le_refl _) _).trans ((below_drewN hb4.out q).mono (by omega))) (Nat.le_refl _))
      have hne : w1.heap.size ≠ w.heap.size := by omega
      clear hS5
      go_wp2_with fail
      exact bodyPost_ret (v := .tuple #[.agg #[.slice a2 (sortL xs).length c2, (Value.func (.func 188) #[] #[])], .bool true]) (by simp [results, Tryz.results224, go_sem, rr.1, rr.2]) rfl (.inl ⟨hfy.out, _, rfl, hff.out.1.cast (same_yes hs.out), hff.out.2⟩)
    · have heq2 := heq.out
      rw [hs] at heq2
      have hfy := Lib.hid (hfam.out.trans hs)
      replace hs := Lib.hid hs
      replace heq := Lib.hid heq2
      clear heq2
      go_wp2_with fail
      refine heq.out.mono ?_
      rintro e w4 ⟨rfl, q, rfl⟩
      obtain ⟨d0, d1, df0, df1⟩ := res_cells (new_cell w _ _) (below_drewN hb4.out q)
      have rr := two_cells (.slice none 0 0) .nilFunc d0 d1
      have hbb := Lib.hid (below_setCell (p := ⟨w.heap.size, 1, none⟩) (below_setCell (p := ⟨w.heap.size, 0, none⟩) (((Below.refl _ w).alloc (Nat.le_refl _) _).trans ((below_drewN hb4.out q).mono (by omega))) (Nat.le_refl _) (.slice none 0 0)) (Nat.le_refl _) .nilFunc)
      go_wp2_with fail
      exact bodyPost_ret (v := .tuple #[.agg #[.slice none 0 0, .nilFunc], .bool false]) (by simp [results, Tryz.results224, go_sem, rr.1, rr.2]) rfl (.inr ⟨hfy.out, rfl, hbb.out⟩)
  · rw [World.size_alloc] at hb1
    have hz1 := hb1.size
    simp at hz1
    have hfn := Lib.hid (famB_no hcol)
    have hb2 := Lib.hid (hb1.alloc hz1 (.cells #[.slice none 0 0, .nilFunc] 64))
    obtain ⟨d0, d1, df0, df1⟩ := res_cells (new_cell w _ _) hb2.out
    have rr := two_cells (.slice none 0 0) .nilFunc d0 d1
    have hbb := Lib.hid (below_setCell (p := ⟨w.heap.size, 1, none⟩) (below_setCell (p := ⟨w.heap.size, 0, none⟩) (((Below.refl _ w).alloc (Nat.le_refl _) _).trans (hb2.out.mono (by omega))) (Nat.le_refl _) (.slice none 0 0)) (Nat.le_refl _) .nilFunc)
    clear hc hcol hb1
    go_wp2_with fail
    exact bodyPost_ret (v := .tuple #[.agg #[.slice none 0 0, .nilFunc], .bool false]) (by simp [results, Tryz.results224, go_sem, rr.1, rr.2]) rfl (.inr ⟨hfn.out, rfl, hbb.out⟩)

/-- what a function that returns a list and a bool leaves. -/
def ListPost (L : List Int) (b : Bool) (w : World) (e : Ending) (w' : World) : Prop := ∃ v, e = .returned (.tuple #[v, .bool b]) ∧ Own w' w.heap.size w'.heap.size v L ∧ Below w.heap.size w w'
/-- what FamilyOf says. -/
def famOfL (n : Int) (xs : List Int) : List Int := if colB n xs then sortL xs else []
end Go.Proofs.YtojfamjgghikoaaGreatDoor
