/- Fractions. -/
import Derived.Test.YtfcegnnajpflmaaCk1
import Derived.BigQuiet
namespace Go.Proofs.Ytfcegnnajpflmaa
open Go.ChangeShapes Go.WideShapes Go.ChangeAt Go.RowKit Go.Proofs

/-- what a function that returns a fraction leaves. -/
def FracPost (a b : Nat) (w : World) (e : Ending) (w' : World) : Prop := e = .returned (.agg #[.int .i64 (a : Nat), .int .i64 (b : Nat)]) ∧ Below w.heap.size w w'
theorem frac_cells {W0 W1 : World} {h B : Nat} {u v : Value} (hh : W0.heap[h]? = some (.cells #[u, v] 45 (0, 0))) (hb : Below B W0 W1) (hB : h < B) :
    W1.cell? ⟨h, 0, none⟩ = some u ∧ W1.cell? ⟨h, 1, none⟩ = some v ∧ W1.frozen? ⟨h, 0, none⟩ = false ∧ W1.frozen? ⟨h, 1, none⟩ = false := by
  have hr : W1.heap[h]? = some (.cells #[u, v] 45 (0, 0)) := by rw [hb.block h hB]; exact hh
  exact ⟨by rw [cell_of_row W1 _ 0 _ 45 (0, 0) hr]; rfl, by rw [cell_of_row W1 _ 1 _ 45 (0, 0) hr]; rfl, frozen_of hr _, frozen_of hr _⟩
theorem frac_fin {w W1 : World} {h : Nat} (x y : Value) (hb : Below w.heap.size w W1) (hh : w.heap.size ≤ h) : Below w.heap.size w ((W1.setCell ⟨h, 0, none⟩ x).setCell ⟨h, 1, none⟩ y) :=
  below_setCell (below_setCell hb hh _) hh _

theorem share_at (n k : Nat) (w : World) (h1 : n ≤ 8) (h2 : k ≤ n) : Calls Try.prog 39 #[.int .i64 (n : Nat), .int .i64 (k : Nat)] w (FracPost 1 (chN n k) w) := by
  have hc := fun W => choose_in (n : Nat) (k : Nat) (by omega) (by omega) (by omega) (by omega) W
  rw [(ch_N h1 h2).1] at hc
  replace hc := Lib.hid hc
  go_enter Try.func39, Try.ntmps39
  go_wp2_with (go_at_call 58; refine (hc.out _).mono ?_; rintro e w' ⟨rfl, rfl⟩)
  exact bodyPost_ret (v := .agg #[.int .i64 1, .int .i64 (chN n k : Nat)]) (by simp [results, Try.results39, go_sem]) rfl ⟨rfl, (Below.refl _ w).alloc (Nat.le_refl _) _⟩

theorem over_at (x y b : Nat) (w : World) (hx : x ≤ 1) (hy : 1 ≤ y) (hb : b ≤ 1000) : Calls Try.prog 73 #[.agg #[.int .i64 (x : Nat), .int .i64 (y : Nat)], .int .i64 (b : Nat)] w (FracPost (x * b / y) b w) := by
  have hm : x * b ≤ 1000 := by
    have := Nat.mul_le_mul hx (Nat.le_refl b); omega
  have hmul : (x : Int) * (b : Int) = ((x * b : Nat) : Int) := by simp
  obtain ⟨m, hmm⟩ : ∃ m, x * b = m := ⟨_, rfl⟩
  rw [hmm] at hmul hm ⊢
  have hdiv : (m : Int) / (y : Int) = ((m / y : Nat) : Int) := by simp
  have hdl := Nat.div_le_self m y
  obtain ⟨t, ht⟩ : ∃ t, m / y = t := ⟨_, rfl⟩
  rw [ht] at hdiv hdl ⊢
  have y0 : (1 : Int) ≤ (y : Int) := by omega
  replace hmm := Lib.hid hmm
  replace ht := Lib.hid ht
  go_enter Try.func73, Try.ntmps73
  go_wp2_with fail
  exact bodyPost_ret (v := .agg #[.int .i64 (t : Nat), .int .i64 (b : Nat)]) (by simp [results, Try.results73, go_sem]) rfl ⟨rfl, ((Below.refl w.heap.size w).alloc (Nat.le_refl _) _).alloc (by simp) _⟩

end Go.Proofs.Ytfcegnnajpflmaa
