/- Sums of fractions: the program's WeightOf. -/
import Derived.Test.YtcadlfljlobjjaaCk4
namespace Go.Proofs.Ytcadlfljlobjjaa
open Go.ChangeShapes Go.WideShapes Go.ChangeAt Go.RowKit Go.Proofs

theorem fldF0 (x y : Value) (w : World) : (Instr.field 42 (.agg #[x, y]) 0).run Try.prog w = .ok x w := by kernel_rfl
theorem frac_store {W : World} {h : Nat} {u v : Value} (hh : W.heap[h]? = some (.cells #[u, v] 42 (0, 0))) (x y : Value) : ((W.setCell ⟨h, 0, none⟩ x).setCell ⟨h, 1, none⟩ y).heap[h]? = some (.cells #[x, y] 42 (0, 0)) := by
  have h1 := heap_setCell_same W h 0 _ 42 x hh
  have h2 := heap_setCell_same _ h 1 _ 42 y h1
  exact h2
set_option maxHeartbeats 4000000 in
theorem plus_at (x y C : Nat) (w : World) (hx : x ≤ 1000000) (hy : y ≤ 1000) (hC1 : 1 ≤ C) :
    Calls Try.prog 22 #[.agg #[.int .i64 (x : Nat), .int .i64 (y : Nat)], .agg #[.int .i64 1, .int .i64 (C : Nat)]] w (FracPost (x + y / C) y w) := by
  have hov : ∀ W, Calls Try.prog 44 #[.agg #[.int .i64 1, .int .i64 (C : Nat)], .int .i64 (y : Nat)] W (FracPost (y / C) y W) := fun W => by
    have := over_at 1 C y W (Nat.le_refl _) hC1 hy
    rwa [Nat.one_mul] at this
  have hdl := Nat.div_le_self y C
  obtain ⟨m, hm⟩ : ∃ m, y / C = m := ⟨_, rfl⟩
  rw [hm] at hov hdl ⊢
  have hsum : (x : Int) + (m : Int) = ((x + m : Nat) : Int) := by simp
  have hsw : IntKind.i64.wrap ((x + m : Nat) : Int) = ((x + m : Nat) : Int) := by rw [IntKind.wrap_i64]; omega
  have hsl : x + m ≤ 1001000 := by omega
  obtain ⟨t, ht⟩ : ∃ t, x + m = t := ⟨_, rfl⟩
  rw [ht] at hsum hsw hsl ⊢
  obtain ⟨W1, hW1⟩ : ∃ W1, ((w.alloc (.cells #[.int .i64 (x : Nat), .int .i64 (y : Nat)] 42)).alloc (.cells #[.int .i64 1, .int .i64 (C : Nat)] 42)).alloc (.cells #[.int .i64 0, .int .i64 0] 42) = W1 := ⟨_, rfl⟩
  have hbw := (((Below.refl w.heap.size w).alloc (Nat.le_refl _) (.cells #[.int .i64 (x : Nat), .int .i64 (y : Nat)] 42)).alloc (by simp) (.cells #[.int .i64 1, .int .i64 (C : Nat)] 42)).alloc (by simp; omega) (.cells #[.int .i64 0, .int .i64 0] 42)
  have hz : W1.heap.size = w.heap.size + 3 := by rw [← hW1]; simp
  have h0 : W1.heap[w.heap.size]? = some (.cells #[.int .i64 (x : Nat), .int .i64 (y : Nat)] 42 (0, 0)) := by
    rw [← hW1, Below.heap_alloc _ _ _ (by simp; omega)]; exact new_cell2 w _ _ _
  have h1 : W1.heap[w.heap.size + 1]? = some (.cells #[.int .i64 1, .int .i64 (C : Nat)] 42 (0, 0)) := by
    rw [← hW1, Below.heap_alloc _ _ _ (by simp)]; exact new_cell1 w _ _ _
  have h2 : W1.heap[w.heap.size + 1 + 1]? = some (.cells #[.int .i64 0, .int .i64 0] 42 (0, 0)) := by
    rw [← hW1]
    have := new_cell1 (w.alloc (.cells #[.int .i64 (x : Nat), .int .i64 (y : Nat)] 42)) #[.int .i64 0, .int .i64 0] 42 (.cells #[.int .i64 1, .int .i64 (C : Nat)] 42)
    rwa [World.size_alloc] at this
  rw [hW1] at hbw
  have g0 : w.heap.size < W1.heap.size := by omega
  have g1 : w.heap.size + 1 < W1.heap.size := by omega
  have g2 : w.heap.size + 1 + 1 < W1.heap.size := by omega
  obtain ⟨l0, l1, -, -⟩ := frac_cells h0 (Below.refl W1.heap.size W1) g0
  obtain ⟨l2, l3, -, -⟩ := frac_cells h1 (Below.refl W1.heap.size W1) g1
  have hK := Lib.hid (Below.refl W1.heap.size W1).drew
  have hfl := fldF0
  replace hov := Lib.hid hov
  replace hm := Lib.hid hm
  replace ht := Lib.hid ht
  replace hbw := Lib.hid hbw
  replace hW1 := Lib.hid hW1
  replace h0 := Lib.hid h0
  replace h1 := Lib.hid h1
  replace h2 := Lib.hid h2
  go_enter Try.func22, Try.ntmps22
  go_wp2_with fail
  rw [hW1.out]
  go_region_with (go_at_call 44; (with_reducible refine (hov.out _).mono ?_); rintro e w2 ⟨rfl, hb2⟩; replace hK := Lib.hid (hK.out.trans (hb2.mono hK.out.size)); obtain ⟨l0, l1, -, -⟩ := frac_cells h0.out hK.out g0; obtain ⟨l2, l3, -, -⟩ := frac_cells h1.out hK.out g1; obtain ⟨d0, d1, df0, df1⟩ := frac_cells h2.out hK.out g2; clear hb2)
  all_goals
    have r0 := World.cell?_setCell_same w2 _ (.int .i64 (t : Nat)) d0
    have rr := two_cells (.int .i64 (t : Nat)) (.int .i64 (y : Nat)) d0 d1
    have hff := Lib.hid (frac_fin (h := w.heap.size + 1 + 1) (.int .i64 (t : Nat)) (.int .i64 (y : Nat)) (hbw.out.trans (hK.out.mono (Nat.le_of_lt g0))) (by omega))
    go_wp2_with fail
    exact bodyPost_ret (v := .agg #[.int .i64 (t : Nat), .int .i64 (y : Nat)]) (by simp [results, Try.results22, go_sem, r0, rr.2]) rfl ⟨rfl, by first | exact hff.out | exact hff.out.drew⟩
end Go.Proofs.Ytcadlfljlobjjaa
