/- Shadows taken in turn: ShadowTimes, the program. -/
import Derived.Test.YtgkbaenjniapiaaDoorAllShm
namespace Go.Proofs.YtgkbaenjniapiaaDoor
open Go.ChangeShapes Go.WideShapes Go.ChangeAt Go.RowKit Go.Proofs Go.Shelf Go.Maps

/-- the shadow taken k times. -/
def itL (xs : List Int) : Nat → List Int
  | 0 => xs
  | k + 1 => sortL (dnL (itL xs k))
theorem itL_in {xs : List Int} (h : ∀ x ∈ xs, 0 ≤ x ∧ x < 256) : ∀ k, ∀ z ∈ itL xs k, 0 ≤ z ∧ z < 256
  | 0 => h
  | k + 1 => fun z hz => dnL_in (itL_in h k) z (mem_sortL.1 hz)
theorem itL_asc {xs : List Int} (h : Asc xs) : ∀ k, Asc (itL xs k)
  | 0 => h
  | _ + 1 => asc_sortL _
theorem itL_len {xs : List Int} (h : Asc xs) (hx : ∀ x ∈ xs, 0 ≤ x ∧ x < 256) (k : Nat) : (itL xs k).length ≤ 256 := asc_len256 (itL_asc h k) (itL_in hx k)
theorem SRow.store2 {w : World} {S c : Nat} {v u0 u1 : Value} {xs : List Int} (hx : SRow w S v xs) (hc : w.heap[c]? = some (.cells #[u0, u1] 42 (0, 0))) (h0 : ∀ x, u0 ≠ .int .u64 x) (h1 : ∀ x, u1 ≠ .int .u64 x) (X Y : Value) :
    SRow ((w.setCell ⟨c, 0, none⟩ X).setCell ⟨c, 1, none⟩ Y) S v xs := by
  obtain ⟨a, cap, rfl, ha⟩ := hx
  refine ⟨a, cap, rfl, fun hp => ?_⟩
  obtain ⟨b1, o1, rfl, s1, c1⟩ := ha hp
  refine ⟨b1, o1, rfl, s1, fun i hi => ?_⟩
  have hne : b1 ≠ c := by
    rintro rfl
    have := c1 i hi
    rw [cell_of_row w b1 _ _ 42 (0, 0) hc] at this
    rcases Nat.lt_or_ge (o1 + i) 2 with h2 | h2
    · rcases (by omega : o1 + i = 0 ∨ o1 + i = 1) with e | e
      · rw [e] at this; exact h0 _ (by simpa using this)
      · rw [e] at this; exact h1 _ (by simpa using this)
    · rw [Array.getElem?_eq_none (by simpa using h2)] at this; cases this
  have e1 := c1 i hi
  simp only [World.cell?] at e1 ⊢
  rw [Below.heap_setCell _ _ _ _ hne, Below.heap_setCell _ _ _ _ hne]
  exact e1
/-- between two shadows. -/
def TmS (W : World) (xs : List Int) (k : Nat) (wr : World) : Prop := Below W.heap.size W wr ∧ (∃ a c, wr.heap[W.heap.size]? = some (.cells #[.slice a (itL xs k).length c, (Value.func (.func 107) #[] #[])] 42 (0, 0)) ∧ SRow wr wr.heap.size (.slice a (itL xs k).length c) (itL xs k)) ∧
  wr.heap[W.heap.size + 1]? = some (.cells #[.slice none 0 0, .nilFunc] 42 (0, 0)) ∧ ∃ nn l, MapS wr (W.heap.size + 1 + 1) nn l
theorem TmS.step {W wr w2 : World} {xs ys : List Int} {k : Nat} {v : Value} (h : TmS W xs k wr) (hy : itL xs (k + 1) = ys) (hS : SetL w2 wr.heap.size v ys) (hg : wr.grownBy w2 (some (W.heap.size + 1 + 1))) (hm : ∃ nn l, MapS w2 (W.heap.size + 1 + 1) nn l) :
    TmS W xs (k + 1) ((w2.setCell ⟨W.heap.size, 0, none⟩ v).setCell ⟨W.heap.size, 1, none⟩ (Value.func (.func 107) #[] #[])) := by
  obtain ⟨hb, ⟨a, c, h0, _⟩, h1, _⟩ := h
  subst hy
  have l0 := (Array.getElem?_eq_some_iff.1 h0).1
  have l1 := (Array.getElem?_eq_some_iff.1 h1).1
  have g0 : w2.heap[W.heap.size]? = some (.cells #[.slice a (itL xs k).length c, (Value.func (.func 107) #[] #[])] 42 (0, 0)) := by rw [hg.block _ l0 (by simp; omega)]; exact h0
  have g1 : w2.heap[W.heap.size + 1]? = some (.cells #[.slice none 0 0, .nilFunc] 42 (0, 0)) := by rw [hg.block _ l1 (by simp)]; exact h1
  obtain ⟨a2, c2, rfl⟩ := hS.form
  have s1 := heap_setCell_same w2 W.heap.size 0 _ 42 (.slice a2 (itL xs (k + 1)).length c2) g0
  have s2 := heap_setCell_same _ W.heap.size 1 _ 42 (Value.func (.func 107) #[] #[]) s1
  refine ⟨below_setCell (below_setCell (hb.grown hg hb.size (fun j e => by cases e; omega)) (Nat.le_refl _) _) (Nat.le_refl _) _, ⟨a2, c2, s2, ?_⟩, ?_, ?_⟩
  · have := ((hS.store ⟨W.heap.size, 0, none⟩ (.slice a2 (itL xs (k + 1)).length c2) (by intro e; have := hS.lt _ e; dsimp only at this; omega)).store ⟨W.heap.size, 1, none⟩ (Value.func (.func 107) #[] #[]) (by intro e; have := hS.lt _ e; dsimp only at this; omega)).row
    exact this
  · rw [Below.heap_setCell _ _ _ _ (show W.heap.size + 1 ≠ W.heap.size by omega), Below.heap_setCell _ _ _ _ (show W.heap.size + 1 ≠ W.heap.size by omega)]; exact g1
  · obtain ⟨nn, l, D, ⟨es, clock, hb', Ft, hs, hD⟩, hx⟩ := hm
    refine ⟨nn, l, D, ⟨es, clock, ?_, Ft, hs, hD⟩, hx⟩
    rw [Below.heap_setCell _ _ _ _ (show W.heap.size + 1 + 1 ≠ W.heap.size by omega), Below.heap_setCell _ _ _ _ (show W.heap.size + 1 + 1 ≠ W.heap.size by omega)]; exact hb'
set_option maxRecDepth 100000 in
set_option maxHeartbeats 2000000 in
theorem times_map (n : Int) (T : Nat) (hT64 : T ≤ 1000) (Bn : Nat) (xs : List Int) (w : World) (hB : Bn < w.heap.size) (hc : w.cell? ⟨Bn, 0, none⟩ = some (.int .i64 (T : Nat))) (hT : Tab w) (hf : famB n xs = true) :
    FamMapR w.heap.size 44 #[] #[.pointer (some ⟨Bn, 0, none⟩)] xs (itL xs T) w := fun W lv hb hx => by
  have hBW : Bn < W.heap.size := by have := hb.size; omega
  have hcW : W.cell? ⟨Bn, 0, none⟩ = some (.int .i64 (T : Nat)) := (hb.cell (p := ⟨Bn, 0, none⟩) hB).trans hc
  have htl := hT.lt
  have hzW := hb.size
  have hasc := famB_asc hf
  have hin := famB_lt hf
  obtain ⟨a, cap, rfl, _⟩ := id hx
  have hbw := ((Below.refl W.heap.size W).alloc (Nat.le_refl _) (.cells #[.slice a xs.length cap, (Value.func (.func 107) #[] #[])] 42)).alloc (by simp) (.cells #[.slice none 0 0, .nilFunc] 42)
  have hbw3 := hbw.alloc (by simp; omega) (.map #[] 0)
  have hm0 := MapS.made ((W.alloc (.cells #[.slice a xs.length cap, (Value.func (.func 107) #[] #[])] 42)).alloc (.cells #[.slice none 0 0, .nilFunc] 42))
  simp only [World.size_alloc] at hm0
  have hT3 := (hT.below hb htl).below hbw3 (by omega)
  have hcW3 := (hbw3.cell (p := ⟨Bn, 0, none⟩) hBW).trans hcW
  have h0 : (((W.alloc (.cells #[.slice a xs.length cap, (Value.func (.func 107) #[] #[])] 42)).alloc (.cells #[.slice none 0 0, .nilFunc] 42)).alloc (.map #[] 0)).heap[W.heap.size]? = some (.cells #[.slice a xs.length cap, (Value.func (.func 107) #[] #[])] 42 (0, 0)) := by
    rw [Below.heap_alloc _ _ _ (by simp; omega), Below.heap_alloc _ _ _ (by simp)]; exact heap_alloc_new W _
  have h1 : (((W.alloc (.cells #[.slice a xs.length cap, (Value.func (.func 107) #[] #[])] 42)).alloc (.cells #[.slice none 0 0, .nilFunc] 42)).alloc (.map #[] 0)).heap[W.heap.size + 1]? = some (.cells #[.slice none 0 0, .nilFunc] 42 (0, 0)) := by
    rw [Below.heap_alloc _ _ _ (by simp)]; exact new_cell1 W _ _ _
  have hx3 := hx.below hbw3 (Nat.le_refl _)
  have hmm := mkmap 44 ((W.alloc (.cells #[.slice a xs.length cap, (Value.func (.func 107) #[] #[])] 42)).alloc (.cells #[.slice none 0 0, .nilFunc] 42))
  simp only [World.size_alloc] at hmm
  have hz3 : W.heap.size ≤ (((W.alloc (.cells #[.slice a xs.length cap, (Value.func (.func 107) #[] #[])] 42)).alloc (.cells #[.slice none 0 0, .nilFunc] 42)).alloc (.map #[] 0)).heap.size := hbw3.size
  obtain ⟨W3, hW3⟩ : ∃ W3, (((W.alloc (.cells #[.slice a xs.length cap, (Value.func (.func 107) #[] #[])] 42)).alloc (.cells #[.slice none 0 0, .nilFunc] 42)).alloc (.map #[] 0)) = W3 := ⟨_, rfl⟩
  rw [hW3] at hbw3 hm0 hT3 hcW3 h0 h1 hx3 hmm hz3
  have hS0 := Lib.hid (show TmS W xs 0 W3 from ⟨hbw3, ⟨a, cap, h0, hx3.mono hz3⟩, h1, 0, [], hm0⟩)
  replace hasc := Lib.hid hasc
  replace hin := Lib.hid hin
  replace hT := Lib.hid (hT.below hb htl)
  replace hb := Lib.hid hb
  replace hf := Lib.hid hf
  clear hx hcW hbw hm0 hT3 h0 h1 hx3 hbw3 hW3
  show Calls Tryd.prog 44 #[.agg #[.slice a xs.length cap, (Value.func (.func 107) #[] #[])], .pointer (some ⟨Bn, 0, none⟩)] W _
  go_enter Tryd.func44, Tryd.ntmps44
  go_wp2_with fail
  go_loopw [7] (fun q wr => ∃ k : Nat, k ≤ T ∧ q = .int .i64 k ∧ Hid (TmS W xs k wr)) (fun q _ => T - (intOf q).toNat)
  case atStart => exact ⟨0, by omega, rfl, hS0⟩
  case round =>
    obtain ⟨k, hk, rfl, hS⟩ := hrel
    by_cases hlt : k < T
    · have k2 : (k : Int) < (T : Nat) := by omega
      obtain ⟨hbr, ⟨a1, c1, g0, gx⟩, g1, nn, l, gm⟩ := hS.out
      have e0 : wr.cell? ⟨W.heap.size, 0, none⟩ = some (.slice a1 (itL xs k).length c1) := by rw [cell_of_row _ _ 0 _ 42 (0, 0) g0]; rfl
      have e1 : wr.cell? ⟨W.heap.size, 1, none⟩ = some (Value.func (.func 107) #[] #[]) := by rw [cell_of_row _ _ 1 _ 42 (0, 0) g0]; rfl
      have hc := Lib.hid (sha_below _ nn W.heap.size wr.heap.size l _ (itL xs k) wr gm (by omega) (by omega) (hT.out.below hbr (by omega)) gx (Nat.le_refl _) (itL_len hasc.out hin.out k) (itL_in hin.out k))
      clear g0 gx g1 gm hbr
      go_wp2_with fail
      refine hc.out.mono ?_
      rintro e w2 ⟨v, rfl, hS2, hg2, hm2⟩
      have hl0 : W.heap.size < wr.heap.size := by
        obtain ⟨_, ⟨_, _, g0, _⟩, _⟩ := hS.out
        exact (Array.getElem?_eq_some_iff.1 g0).1
      have g0 : ∃ u, w2.heap[W.heap.size]? = some (.cells #[u, (Value.func (.func 107) #[] #[])] 42 (0, 0)) := by
        obtain ⟨_, ⟨_, _, g0, _⟩, _⟩ := hS.out
        exact ⟨_, by rw [hg2.block _ hl0 (by simp; omega)]; exact g0⟩
      obtain ⟨u, g0⟩ := g0
      have f0 : w2.cell? ⟨W.heap.size, 0, none⟩ = some u := by rw [cell_of_row _ _ 0 _ 42 (0, 0) g0]; rfl
      have f1 : w2.cell? ⟨W.heap.size, 1, none⟩ = some (Value.func (.func 107) #[] #[]) := by rw [cell_of_row _ _ 1 _ 42 (0, 0) g0]; rfl
      have z0 : w2.frozen? ⟨W.heap.size, 0, none⟩ = false := frozen_of g0 _
      have z1 : w2.frozen? ⟨W.heap.size, 1, none⟩ = false := frozen_of g0 _
      have hS3 := Lib.hid (hS.out.step rfl hS2 hg2 hm2)
      obtain ⟨a2, c2, rfl⟩ := hS2.form
      clear hS2 hg2 hm2 g0 e0 e1
      go_wp2_with fail
      go_roundw
      case rel => exact ⟨k + 1, by omega, by go_num, hS3⟩
      case measure => simp [intOf]; omega
    · obtain rfl : k = T := by omega
      obtain ⟨hbr, ⟨a1, c1, g0, gx⟩, g1, nn, l, gm⟩ := hS.out
      have e0 : wr.cell? ⟨W.heap.size, 0, none⟩ = some (.slice a1 (itL xs k).length c1) := by rw [cell_of_row _ _ 0 _ 42 (0, 0) g0]; rfl
      have e1 : wr.cell? ⟨W.heap.size, 1, none⟩ = some (Value.func (.func 107) #[] #[]) := by rw [cell_of_row _ _ 1 _ 42 (0, 0) g0]; rfl
      have d0 : wr.cell? ⟨W.heap.size + 1, 0, none⟩ = some (.slice none 0 0) := by rw [cell_of_row _ _ 0 _ 42 (0, 0) g1]; rfl
      have d1 : wr.cell? ⟨W.heap.size + 1, 1, none⟩ = some .nilFunc := by rw [cell_of_row _ _ 1 _ 42 (0, 0) g1]; rfl
      have df0 : wr.frozen? ⟨W.heap.size + 1, 0, none⟩ = false := frozen_of g1 _
      have df1 : wr.frozen? ⟨W.heap.size + 1, 1, none⟩ = false := frozen_of g1 _
      have rr := two_cells (.slice a1 (itL xs k).length c1) (Value.func (.func 107) #[] #[]) d0 d1
      have hx2 := Lib.hid (gx.store2 g1 (by intro x e; cases e) (by intro x e; cases e) (.slice a1 (itL xs k).length c1) (Value.func (.func 107) #[] #[]))
      have hb2 := Lib.hid (below_setCell (below_setCell hbr (p := ⟨W.heap.size + 1, 0, none⟩) (Nat.le_succ _) (.slice a1 (itL xs k).length c1)) (p := ⟨W.heap.size + 1, 1, none⟩) (Nat.le_succ _) (Value.func (.func 107) #[] #[]))
      clear g0 gx g1 gm hbr hS
      go_wp2_with fail
      exact bodyPost_ret (v := .agg #[.slice a1 (itL xs k).length c1, (Value.func (.func 107) #[] #[])]) (by simp [results, Tryd.results44, go_sem, rr.1, rr.2]) rfl ⟨_, rfl, by simpa [World.setCell] using hx2.out, hb2.out.mono hzW, hb2.out.size⟩
/-- how often a shadow may be taken. -/
def tmB (n t : Int) : Bool := decide (0 ≤ t) && decide (t ≤ n)
set_option maxRecDepth 100000 in
set_option maxHeartbeats 1000000 in
theorem im_ShadowTimes (n : Int) (lv : Value) (xs : List Int) (t : Int) (S : Nat) (w : World) (hx : Row w S lv xs) (hS : S ≤ w.heap.size) (hl : xs.length ≤ 100000000) (hT : Tab w) :
    Calls Tryd.prog 15 #[.int .i64 n, lv, .int .i64 t] w (ListPost (ifL (tmB n t && famB n xs) (itL xs t.toNat)) (tmB n t && famB n xs) w) := by
  have htl := hT.lt
  have hbw := (Below.refl w.heap.size w).alloc (Nat.le_refl _) (.cells #[.int .i64 t] 3)
  obtain ⟨la, lc, rfl, _⟩ := id hx
  by_cases h0 : 0 ≤ t
  · by_cases h1 : t ≤ n
    · have htm : tmB n t = true := by unfold tmB; simp [h0, h1]
      rw [htm, Bool.true_and]
      obtain ⟨T, rfl⟩ : ∃ T : Nat, t = T := ⟨t.toNat, by omega⟩
      rw [Int.toNat_natCast]
      have hk := Lib.hid (made_any (w.heap.size + 1) 44 (enters_of Tryd.func44 (by kernel_rfl) rfl) #[] #[.pointer (some ⟨w.heap.size, 0, none⟩)] n _ xs (itL xs T) S (w.alloc (.cells #[.int .i64 (T : Nat)] 3)) (by simp) (hx.below hbw hS) (by simp; omega) hl
        (fun hf => ⟨by
          have := times_map n T (by have := (famB_all hf).2.1; omega) w.heap.size xs (w.alloc (.cells #[.int .i64 (T : Nat)] 3)) (by simp) (cell_new _ _ _) (hT.below hbw htl) hf
          rw [World.size_alloc] at this; exact this, itL_in (famB_lt hf) T, by have := itL_len (famB_asc hf) (famB_lt hf) T; omega⟩))
      have hmf := mkfunc
      have q0 : (0 : Int) ≤ (T : Int) := by omega
      replace hbw := Lib.hid hbw
      clear hx
      go_enter Tryd.func15, Tryd.ntmps15
      go_wp2_with fail
      refine hk.out.mono ?_
      rintro e w2 ⟨v, rfl, hO, hb2⟩
      obtain ⟨ua, uc, rfl, _⟩ := id hO
      replace hO := Lib.hid (hO.mono (show w.heap.size ≤ w.heap.size + 1 by omega) (Nat.le_refl _))
      replace hb2 := Lib.hid (hbw.out.trans (hb2.mono (by omega)))
      go_wp2_with fail
      go_ret2
      exact ⟨_, rfl, hO.out, hb2.out⟩
    · have htm : tmB n t = false := by unfold tmB; simp [h1]
      rw [htm, Bool.false_and]
      have h2 : n < t := by omega
      replace hbw := Lib.hid hbw
      clear hx
      go_enter Tryd.func15, Tryd.ntmps15
      go_wp2_with fail
      go_ret2
      exact ⟨_, rfl, own_empty _ _ _ _ _, hbw.out.alloc (by simp) _⟩
  · have htm : tmB n t = false := by unfold tmB; simp [h0]
    rw [htm, Bool.false_and]
    have h2 : t < 0 := by omega
    replace hbw := Lib.hid hbw
    clear hx
    go_enter Tryd.func15, Tryd.ntmps15
    go_wp2_with fail
    go_ret2
    exact ⟨_, rfl, own_empty _ _ _ _ _, hbw.out.alloc (by simp) _⟩
end Go.Proofs.YtgkbaenjniapiaaDoor
