/- Families: a set put into a family in a variable; families made of lists. -/
import Derived.Test.YtojfamjgghikoaaGreatDoorPut
import Derived.Laws.EntriesVeiled
namespace Go.Proofs.YtojfamjgghikoaaGreatDoor
open Go.ChangeShapes Go.WideShapes Go.ChangeAt Go.RowKit Go.Proofs

theorem two_cells {w : World} {h : Nat} {u0 u1 : Value} (X Y : Value) (d0 : w.cell? ⟨h, 0, none⟩ = some u0) (d1 : w.cell? ⟨h, 1, none⟩ = some u1) :
    ((w.setCell ⟨h, 0, none⟩ X).setCell ⟨h, 1, none⟩ Y).cell? ⟨h, 0, none⟩ = some X ∧ ((w.setCell ⟨h, 0, none⟩ X).setCell ⟨h, 1, none⟩ Y).cell? ⟨h, 1, none⟩ = some Y := by
  constructor
  · rw [World.cell?_setCell_other _ _ _ _ (by intro e; injection e with _ e2; cases e2)]
    exact World.cell?_setCell_same _ _ _ d0
  · refine World.cell?_setCell_same _ _ _ (u := u1) ?_
    rw [World.cell?_setCell_other _ _ _ _ (by intro e; injection e with _ e2; cases e2)]
    exact d1
theorem putAt_ins {x : Int} {xs : List Int} (h : memB x xs = false) : putAt (plN x xs) x xs = insI x xs := (ins_no h).symm
/-- what put leaves. -/
def PutPost (B bx : Nat) (w : World) (ys : List Int) (e : Ending) (w' : World) : Prop := (∃ v, e = .returned v) ∧ FBox w' B bx ys ∧ Below B w w' ∧ w.heap.size ≤ w'.heap.size
theorem below_grow {B : Nat} {a w w' : World} {v : Value} {xs : List Int} (h : Below B a w) (hg : w.grownBy w' v.ownBlock) (hS : SetL w B v xs) (hB : B ≤ w.heap.size) : Below B a w' := h.grown hg hB (fun k e => (hS.lt k e).1)
set_option maxHeartbeats 1000000 in
theorem put_at (B bx : Nat) (xs : List Int) (x : Int) (w : World) (hF : FBox w B bx xs) (hA : Asc xs) (hl : xs.length ≤ 1000) (hB : B ≤ w.heap.size) :
    Calls Tryz.prog 130 #[.pointer (some ⟨bx, 0, none⟩), .int .u64 x] w (PutPost B bx w (insI x xs)) := by
  have hlt := hF.lt
  obtain ⟨hBx, v, hv, hS⟩ := hF
  have hap := Lib.hid (FBox.apart hv hS)
  have c0 : w.cell? ⟨bx, 0, none⟩ = some v := by rw [cell_of_row w bx 0 _ 64 (0, 0) hv]; rfl
  have c1 : w.cell? ⟨bx, 1, none⟩ = some (Value.func (.func 188) #[] #[]) := by rw [cell_of_row w bx 1 _ 64 (0, 0) hv]; rfl
  have hpl := Lib.hid (place_any v xs x w.heap.size w hS.row hA (by omega) (Nat.le_refl _))
  have hpi := plN_le x xs
  replace hv := Lib.hid hv
  replace hS := Lib.hid hS
  have hne : bx ≠ w.heap.size := by omega
  rcases (by cases memB x xs <;> simp : memB x xs = true ∨ memB x xs = false) with hm | hm
  · have hpl2 := hpl.out
    rw [hm] at hpl2
    replace hpl := Lib.hid hpl2
    replace hm := Lib.hid hm
    clear hpl2
    go_enter Tryz.func130, Tryz.ntmps130
    go_wp2_with (go_at_call 189; refine hpl.out.mono ?_; rintro e w' ⟨rfl, rfl⟩)
    go_end0
    exact ⟨⟨_, rfl⟩, ⟨hBx, v, by rw [Below.heap_alloc _ _ _ hlt, hv.out], by rw [ins_yes hm.out]; exact hS.out.alloc _⟩, (Below.refl _ _).alloc hB _, by simp⟩
  · have hpl2 := hpl.out
    rw [hm] at hpl2
    replace hpl := Lib.hid hpl2
    have hpi2 := Lib.hid (putAt_ins hm)
    replace hm := Lib.hid hm
    clear hpl2
    have hins := Lib.hid (ins_set v xs (plN x xs) B (w.heap.size + 1) x ((w.alloc (.cells #[v, (Value.func (.func 188) #[] #[])] 64)).alloc (.cells #[.int .u64 x] 72)) ((hS.out.alloc _).alloc _) hpi (by omega) (by simp; omega) (by
      have := heap_alloc_new (w.alloc (.cells #[v, (Value.func (.func 188) #[] #[])] 64)) (.cells #[.int .u64 x] 72)
      simpa using this) (by intro e; have := hS.out.lt _ e; omega))
    go_enter Tryz.func130, Tryz.ntmps130
    go_wp2_with (go_at_call 189; refine hpl.out.mono ?_; rintro e w' ⟨rfl, rfl⟩)
    refine hins.out.mono ?_
    rintro e w3 ⟨v', rfl, hS3, hg3⟩
    have hh3 : w3.heap[bx]? = some (.cells #[v, (Value.func (.func 188) #[] #[])] 64 (0, 0)) := by
      rw [hg3.block bx (by simp; omega) (fun e => hap.out e.symm), Below.heap_alloc _ _ _ (by simp; omega), Below.heap_alloc _ _ _ hlt]
      exact hv.out
    have d0 : w3.cell? ⟨bx, 0, none⟩ = some v := by rw [cell_of_row w3 bx 0 _ 64 (0, 0) hh3]; rfl
    have df : w3.frozen? ⟨bx, 0, none⟩ = false := frozen_of hh3 _
    have hb3 := Lib.hid (below_grow (((Below.refl B w).alloc hB _).alloc (by simp; omega) _) hg3 ((hS.out.alloc _).alloc _) (by simp; omega))
    have hz := hg3.size
    simp at hz
    replace hS3 := Lib.hid hS3
    replace hh3 := Lib.hid hh3
    clear hg3 hins
    obtain ⟨a', c', rfl⟩ := hS3.out.form
    go_wp2_with fail
    go_end0
    have hst := heap_setCell_same w3 bx 0 _ 64 (.slice a' (putAt (plN x xs) x xs).length c') hh3.out
    refine ⟨⟨_, rfl⟩, ⟨hBx, _, by rw [hst]; rfl, ?_⟩, below_setCell hb3.out hBx _, ?_⟩
    · rw [← hpi2.out]
      exact hS3.out.store _ _ (by
        intro e
        rcases hS3.out.out with ⟨h0, _⟩ | ⟨g, cap, cur, h0, _, hg, _⟩
        · injection h0 with h1; rw [h1] at e; cases e
        · injection h0 with h1; rw [h1] at e; cases e
          rw [hh3.out] at hg
          injection hg with hg
          injection hg with _ h2
          exact absurd h2 (by decide))
    · simp [World.setCell]; omega

/-- what a function that makes a family returns. -/
def FamPost (w : World) (ys : List Int) (e : Ending) (w' : World) : Prop := ∃ v, e = .returned (.agg #[v, (Value.func (.func 188) #[] #[])]) ∧ SetL w' w.heap.size v ys ∧ Below w.heap.size w w'
set_option maxHeartbeats 1000000 in
theorem sorted_of (lv : Value) (xs : List Int) (S : Nat) (w : World) (hx : SRow w S lv xs) (hS : S ≤ w.heap.size) (hlen : ∀ k, k ≤ xs.length → (sortL (xs.take k)).length ≤ 1000) (hl : xs.length ≤ 100000000) :
    Calls Tryz.prog 131 #[lv, (Value.func (.func 188) #[] #[])] w (FamPost w (sortL xs)) := by
  obtain ⟨a, cap, rfl, ha⟩ := hx
  replace ha := Lib.hid ha
  replace hlen := Lib.hid hlen
  go_enter Tryz.func131, Tryz.ntmps131
  go_wp2_with fail
  go_loopw [12] (fun q wr => ∃ k : Nat, k ≤ xs.length ∧ q = .int .i64 k ∧ Hid (FBox wr (w.heap.size + 1) (w.heap.size + 1) (sortL (xs.take k))) ∧ Hid (Below (w.heap.size + 1) ((w.alloc (.cells #[.slice none 0 0, .nilFunc] 64)).alloc (.cells #[.slice none 0 0, (Value.func (.func 188) #[] #[])] 64)) wr)) (fun q _ => xs.length - (intOf q).toNat)
  case atStart =>
    refine ⟨0, by omega, rfl, Lib.hid ⟨Nat.le_refl _, .slice none 0 0, ?_, SetL.nil _ _⟩, Lib.hid (Below.refl _ _)⟩
    have := heap_alloc_new (w.alloc (.cells #[.slice none 0 0, .nilFunc] 64)) (.cells #[.slice none 0 0, (Value.func (.func 188) #[] #[])] 64)
    simpa using this
  case round =>
    obtain ⟨k, hk, rfl, hF, hb⟩ := hrel
    have hz := hb.out.size
    simp at hz
    by_cases hlt : k < xs.length
    · obtain ⟨b1, o1, rfl, s1, c1⟩ := ha.out (by omega)
      have k1 : (0 : Int) ≤ (k : Int) := by omega
      have k2 : (k : Int) < (xs.length : Nat) := by omega
      have e1 : wr.cell? ⟨b1, o1 + k, none⟩ = some (.int .u64 (xs.getD k 0)) := by
        rw [hb.out.cell (p := ⟨b1, o1 + k, none⟩) (show b1 < w.heap.size + 1 by omega), World.cell?_alloc_past _ _ _ (by simp; omega), World.cell?_alloc_past _ _ _ (by omega)]
        exact c1 k hlt
      have hst := sortL_take hlt
      obtain ⟨x, hx⟩ : ∃ x, xs.getD k 0 = x := ⟨_, rfl⟩
      rw [hx] at e1 hst
      have hp := put_at (w.heap.size + 1) (w.heap.size + 1) _ x wr hF.out (asc_sortL _) (hlen.out k hk) (by omega)
      rw [← hst] at hp
      replace hp := Lib.hid hp
      clear c1 hst hx hF
      go_wp2_with fail
      refine hp.out.mono ?_
      rintro e w' ⟨⟨v, rfl⟩, hF', hb', hz'⟩
      replace hb' := Lib.hid (hb.out.trans hb')
      replace hF' := Lib.hid hF'
      go_wp2_with fail
      go_roundw
      case rel => exact ⟨k + 1, by omega, by go_num, hF', hb'⟩
      case measure => simp [intOf]; omega
    · obtain rfl : k = xs.length := by omega
      have hF2 := hF.out
      rw [List.take_length] at hF2
      have hlt2 := hF2.lt
      obtain ⟨_, v, hv, hS⟩ := hF2
      have c0 : wr.cell? ⟨w.heap.size + 1, 0, none⟩ = some v := by rw [cell_of_row wr _ 0 _ 64 (0, 0) hv]; rfl
      have c1 : wr.cell? ⟨w.heap.size + 1, 1, none⟩ = some (Value.func (.func 188) #[] #[]) := by rw [cell_of_row wr _ 1 _ 64 (0, 0) hv]; rfl
      have hr : wr.heap[w.heap.size]? = some (.cells #[.slice none 0 0, .nilFunc] 64 (0, 0)) := by
        rw [hb.out.block w.heap.size (by omega), Below.heap_alloc _ _ _ (by simp)]
        exact heap_alloc_new w _
      have d0 : wr.cell? ⟨w.heap.size, 0, none⟩ = some (.slice none 0 0) := by rw [cell_of_row wr _ 0 _ 64 (0, 0) hr]; rfl
      have d1 : wr.cell? ⟨w.heap.size, 1, none⟩ = some .nilFunc := by rw [cell_of_row wr _ 1 _ 64 (0, 0) hr]; rfl
      have df0 : wr.frozen? ⟨w.heap.size, 0, none⟩ = false := frozen_of hr _
      have df1 : wr.frozen? ⟨w.heap.size, 1, none⟩ = false := frozen_of hr _
      obtain ⟨a', c', rfl⟩ := hS.form
      replace hS := Lib.hid hS
      clear hF hv hr
      have rr := two_cells (.slice a' (sortL xs).length c') (Value.func (.func 188) #[] #[]) d0 d1
      go_wp2_with fail
      refine bodyPost_ret (v := .agg #[.slice a' (sortL xs).length c', (Value.func (.func 188) #[] #[])]) (by simp [results, Tryz.results131, go_sem, rr.1, rr.2]) rfl ⟨_, rfl, ?_, ?_⟩
      · exact ((hS.out.store _ _ (by intro e; have := hS.out.lt _ e; dsimp only at this; omega)).store _ _ (by intro e; have := hS.out.lt _ e; dsimp only at this; omega)).mono (by omega)
      · exact below_setCell (below_setCell ((((Below.refl _ _).alloc (Nat.le_refl _) _).alloc (by simp) _).trans (hb.out.mono (by omega))) (Nat.le_refl _) _) (Nat.le_refl _) _
end Go.Proofs.YtojfamjgghikoaaGreatDoor
