/- Families: made of lists of numbers, read. -/
import Derived.Test.YtojfamjgghikoaaGreatDoorFams2
namespace Go.Proofs.YtojfamjgghikoaaGreatDoor
open Go.ChangeShapes Go.WideShapes Go.ChangeAt Go.RowKit Go.Proofs

/-- the cells of a result that nothing has written yet. -/
theorem res_cells {W0 W1 : World} {h : Nat} (hh : W0.heap[h]? = some (.cells #[.slice none 0 0, .nilFunc] 64 (0, 0))) (hb : Below (h + 1) W0 W1) :
    W1.cell? ⟨h, 0, none⟩ = some (.slice none 0 0) ∧ W1.cell? ⟨h, 1, none⟩ = some .nilFunc ∧ W1.frozen? ⟨h, 0, none⟩ = false ∧ W1.frozen? ⟨h, 1, none⟩ = false := by
  have hr : W1.heap[h]? = some (.cells #[.slice none 0 0, .nilFunc] 64 (0, 0)) := by rw [hb.block h (by omega)]; exact hh
  exact ⟨by rw [cell_of_row W1 _ 0 _ 64 (0, 0) hr]; rfl, by rw [cell_of_row W1 _ 1 _ 64 (0, 0) hr]; rfl, frozen_of hr _, frozen_of hr _⟩
theorem fam_fin {w W1 : World} {h : Nat} {v : Value} {ys : List Int} (hS : SetL W1 (h + 1) v ys) (hb : Below w.heap.size w W1) (hh : w.heap.size ≤ h) :
    SetL ((W1.setCell ⟨h, 0, none⟩ v).setCell ⟨h, 1, none⟩ (Value.func (.func 188) #[] #[])) w.heap.size v ys ∧ Below w.heap.size w ((W1.setCell ⟨h, 0, none⟩ v).setCell ⟨h, 1, none⟩ (Value.func (.func 188) #[] #[])) :=
  ⟨((hS.store _ _ (by intro e; have := hS.lt _ e; dsimp only at this; omega)).store _ _ (by intro e; have := hS.lt _ e; dsimp only at this; omega)).mono (by omega),
    below_setCell (below_setCell hb hh _) hh _⟩
theorem fbox_new {w : World} {B : Nat} {v : Value} {ys : List Int} (hS : SetL w B v ys) (hB : B ≤ w.heap.size) : FBox (w.alloc (.cells #[v, (Value.func (.func 188) #[] #[])] 64)) B w.heap.size ys :=
  ⟨hB, v, heap_alloc_new w _, hS.alloc _⟩
theorem box_cells {w : World} {B bx : Nat} {xs : List Int} (h : FBox w B bx xs) : ∃ a c, w.cell? ⟨bx, 0, none⟩ = some (.slice a xs.length c) ∧ w.cell? ⟨bx, 1, none⟩ = some (Value.func (.func 188) #[] #[]) ∧ SetL w B (.slice a xs.length c) xs := by
  obtain ⟨_, v, hv, hS⟩ := h
  obtain ⟨a, c, rfl⟩ := hS.form
  exact ⟨a, c, by rw [cell_of_row w bx 0 _ 64 (0, 0) hv]; rfl, by rw [cell_of_row w bx 1 _ 64 (0, 0) hv]; rfl, hS⟩
theorem new_cell (w : World) (cs : Array Value) (t : TypeId) : (w.alloc (.cells cs t)).heap[w.heap.size]? = some (.cells cs t (0, 0)) := heap_alloc_new w _

theorem family_of (lv : Value) (xs : List Int) (S : Nat) (w : World) (hx : SRow w S lv xs) (hS : S ≤ w.heap.size) (hlen : ∀ k, k ≤ xs.length → (sortL (xs.take k)).length ≤ 1000) (hl : xs.length ≤ 100000000) :
    Calls Tryz.prog 129 #[lv] w (FamPost w (sortL xs)) := by
  have hs := Lib.hid (sorted_of lv xs S (w.alloc (.cells #[.slice none 0 0, .nilFunc] 64)) (hx.below ((Below.refl _ w).alloc (Nat.le_refl _) _) hS) (by simp; omega) hlen hl)
  obtain ⟨a, cap, rfl, _⟩ := id hx
  clear hx hlen
  go_enter Tryz.func129, Tryz.ntmps129
  go_wp2_with fail
  refine hs.out.mono ?_
  rintro e w1 ⟨v, rfl, hS1, hb1⟩
  obtain ⟨a', c', rfl⟩ := hS1.form
  rw [World.size_alloc] at hS1 hb1
  obtain ⟨d0, d1, df0, df1⟩ := res_cells (new_cell w _ _) hb1
  have rr := two_cells (.slice a' (sortL xs).length c') (Value.func (.func 188) #[] #[]) d0 d1
  have hff := Lib.hid (fam_fin hS1 (((Below.refl _ w).alloc (Nat.le_refl _) _).trans (hb1.mono (by omega))) (Nat.le_refl _))
  clear hS1 hb1
  go_wp2_with fail
  exact bodyPost_ret (v := .agg #[.slice a' (sortL xs).length c', (Value.func (.func 188) #[] #[])]) (by simp [results, Tryz.results129, go_sem, rr.1, rr.2]) rfl ⟨_, rfl, hff.out⟩
theorem family_nil (w : World) : Calls Tryz.prog 129 #[.slice none 0 0] w (FamPost w []) := family_of _ [] 0 w (SRow.nil w 0) (Nat.zero_le _) (fun k _ => by simp [sortL]) (by simp)

theorem allB_take {n : Int} {xs : List Int} (h : allB n xs = true) (k : Nat) : allB n (xs.take k) = true := List.all_eq_true.2 fun z hz => allB_yes h z (List.mem_of_mem_take hz)
theorem allB_step {n x : Int} {xs : List Int} {k : Nat} (hk : k < xs.length) (hx : xs.getD k 0 = x) (h : allB n (xs.take k) = true) (hs : setB n x = true) : allB n (xs.take (k + 1)) = true := by
  rw [take_snoc hk, hx]
  refine List.all_eq_true.2 fun z hz => ?_
  rcases List.mem_append.1 hz with hz | hz
  · exact allB_yes h z hz
  · rw [List.mem_singleton.1 hz]; exact hs
theorem allB_fail {n x : Int} {xs : List Int} {k : Nat} (hk : k < xs.length) (hx : xs.getD k 0 = x) (hs : setB n x = false) : allB n xs = false := by
  cases h : allB n xs with
  | false => rfl
  | true => have := allB_yes h _ (getD_mem hk); rw [hx, hs] at this; cases this
theorem take_len256 {n : Int} {xs : List Int} (h : allB n xs = true) : (sortL xs).length ≤ 256 := asc_len256 (asc_sortL xs) (fun z hz => setB_lt (allB_yes h z (mem_sortL.1 hz)))

/-- what collected leaves. -/
def ColPost (n : Int) (xs : List Int) (w : World) (e : Ending) (w' : World) : Prop :=
  (colB n xs = true ∧ ∃ v, e = .returned (.tuple #[.agg #[v, (Value.func (.func 188) #[] #[])], .bool true]) ∧ SetL w' w.heap.size v (sortL xs) ∧ Below w.heap.size w w') ∨
  (colB n xs = false ∧ e = .returned (.tuple #[.agg #[.slice none 0 0, .nilFunc], .bool false]) ∧ Below w.heap.size w w')
theorem set_in_cases (n s : Int) : setB n s = true ∨ setB n s = false := by cases setB n s <;> simp
set_option maxHeartbeats 2000000 in
theorem col_any (n : Int) (lv : Value) (xs : List Int) (S : Nat) (w : World) (hx : Row w S lv xs) (hS : S ≤ w.heap.size) (hl : xs.length ≤ 100000000) :
    Calls Tryz.prog 265 #[.int .i64 n, lv] w (ColPost n xs w) := by
  obtain ⟨a, cap, rfl, ha⟩ := hx
  replace ha := Lib.hid ha
  rcases (by cases ptsB n <;> simp : ptsB n = true ∨ ptsB n = false) with hp | hp
  · have hp' := Lib.hid hp
    have hpc := pts_in n
    rw [hp] at hpc
    replace hpc := Lib.hid hpc
    have hfn := Lib.hid (family_nil (w.alloc (.cells #[.slice none 0 0, .nilFunc] 64)))
    clear hp
    go_enter Tryz.func265, Tryz.ntmps265
    go_wp2_with (go_at_call 63; refine (hpc.out _).mono ?_; rintro e w' ⟨rfl, rfl⟩)
    refine hfn.out.mono ?_
    rintro e w1 ⟨v1, rfl, hS1, hb1⟩
    obtain ⟨a', c', rfl⟩ := hS1.form
    rw [World.size_alloc] at hS1 hb1
    have hz1 := hb1.size
    simp at hz1
    replace hS1 := Lib.hid hS1
    replace hb1 := Lib.hid hb1
    clear hfn
    have hF1 := Lib.hid (fbox_new hS1.out hz1)
    go_wp2_with fail
    go_loopw [16] (fun q wr => ∃ k : Nat, k ≤ xs.length ∧ q = .int .i64 k ∧ Hid (allB n (xs.take k) = true) ∧ Hid (FBox wr (w.heap.size + 1) w1.heap.size (sortL (xs.take k))) ∧ Hid (Below (w.heap.size + 1) (w.alloc (.cells #[.slice none 0 0, .nilFunc] 64)) wr)) (fun q _ => xs.length - (intOf q).toNat)
    case atStart => exact ⟨0, by omega, rfl, Lib.hid rfl, hF1, Lib.hid (hb1.out.alloc hz1 _)⟩
    case round =>
      obtain ⟨k, hk, rfl, hall, hF, hb⟩ := hrel
      have hz := hb.out.size
      simp at hz
      have hFlt := hF.out.lt
      by_cases hlt : k < xs.length
      · obtain ⟨b1, o1, rfl, s1, c1⟩ := ha.out (by omega)
        have k1 : (0 : Int) ≤ (k : Int) := by omega
        have k2 : (k : Int) < (xs.length : Nat) := by omega
        have e1 : wr.cell? ⟨b1, o1 + k, none⟩ = some (.int .i64 (xs.getD k 0)) := by
          rw [hb.out.cell (p := ⟨b1, o1 + k, none⟩) (show b1 < w.heap.size + 1 by omega), World.cell?_alloc_past _ _ _ (by omega)]
          exact c1 k hlt
        have hst := sortL_take hlt
        obtain ⟨x, hx⟩ : ∃ x, xs.getD k 0 = x := ⟨_, rfl⟩
        rw [hx] at e1 hst
        rcases set_in_cases n x with hs | hs
        · have hsi := Lib.hid (set_in_yes n x hs)
          have hall' := Lib.hid (allB_step hlt hx hall.out hs)
          obtain ⟨x1, x2⟩ := setB_lt hs
          have hp := put_at (w.heap.size + 1) w1.heap.size _ x wr hF.out (asc_sortL _) (by have := take_len256 hall.out; omega) (by omega)
          rw [← hst] at hp
          replace hp := Lib.hid hp
          clear c1 hst hx hF hs hall
          go_wp2_with (go_at_call 43; refine (hsi.out _).mono ?_; rintro e w' ⟨rfl, rfl⟩)
          refine hp.out.mono ?_
          rintro e w' ⟨⟨v, rfl⟩, hF', hb', hz'⟩
          replace hb' := Lib.hid (hb.out.trans hb')
          replace hF' := Lib.hid hF'
          go_wp2_with fail
          go_roundw
          case rel => exact ⟨k + 1, by omega, by go_num, hall', hF', hb'⟩
          case measure => simp [intOf]; omega
        · have hsi := Lib.hid (set_in_no n x hs)
          have hno := Lib.hid (show colB n xs = false by unfold colB; rw [allB_fail hlt hx hs, Bool.and_false])
          obtain ⟨d0, d1, df0, df1⟩ := res_cells (new_cell w _ _) hb.out
          have rr := two_cells (.slice none 0 0) .nilFunc d0 d1
          have hbb := Lib.hid (below_setCell (p := ⟨w.heap.size, 1, none⟩) (below_setCell (p := ⟨w.heap.size, 0, none⟩) (((Below.refl _ w).alloc (Nat.le_refl _) _).trans (hb.out.mono (by omega))) (Nat.le_refl _) (.slice none 0 0)) (Nat.le_refl _) .nilFunc)
          clear c1 hst hx hF hs hall
          go_wp2_with (go_at_call 43; refine (hsi.out _).mono ?_; rintro e w' ⟨rfl, rfl⟩)
          exact bodyPost_ret (v := .tuple #[.agg #[.slice none 0 0, .nilFunc], .bool false]) (by simp [results, Tryz.results265, go_sem, rr.1, rr.2]) rfl (.inr ⟨hno.out, rfl, hbb.out⟩)
      · obtain rfl : k = xs.length := by omega
        have hF2 := hF.out
        rw [List.take_length] at hF2
        have hyes := Lib.hid (show colB n xs = true by have := hall.out; rw [List.take_length] at this; unfold colB; rw [this, hp'.out]; rfl)
        obtain ⟨a2, c2, b0, b1, hS⟩ := box_cells hF2
        obtain ⟨d0, d1, df0, df1⟩ := res_cells (new_cell w _ _) hb.out
        have rr := two_cells (.slice a2 (sortL xs).length c2) (Value.func (.func 188) #[] #[]) d0 d1
        have hff := Lib.hid (fam_fin hS (((Below.refl _ w).alloc (Nat.le_refl _) _).trans (hb.out.mono (by omega))) (Nat.le_refl _))
        have hne : w1.heap.size ≠ w.heap.size := by omega
        clear hF hF2 hS hall
        go_wp2_with fail
        exact bodyPost_ret (v := .tuple #[.agg #[.slice a2 (sortL xs).length c2, (Value.func (.func 188) #[] #[])], .bool true]) (by simp [results, Tryz.results265, go_sem, rr.1, rr.2]) rfl (.inl ⟨hyes.out, _, rfl, hff.out⟩)
  · have hno := Lib.hid (show colB n xs = false by unfold colB; rw [hp]; rfl)
    have hpc := pts_in n
    rw [hp] at hpc
    replace hpc := Lib.hid hpc
    clear hp
    go_enter Tryz.func265, Tryz.ntmps265
    go_wp2_with (go_at_call 63; refine (hpc.out _).mono ?_; rintro e w' ⟨rfl, rfl⟩)
    exact bodyPost_ret (v := .tuple #[.agg #[.slice none 0 0, .nilFunc], .bool false]) (by simp [results, Tryz.results265, go_sem]) rfl (.inr ⟨hno.out, rfl, (Below.refl _ w).alloc (Nat.le_refl _) _⟩)
end Go.Proofs.YtojfamjgghikoaaGreatDoor
