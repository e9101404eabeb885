/- Fractions. -/
import Derived.Test.YtcadlfljlobjjaaCk1
import Derived.BigQuiet
namespace Go.Proofs.Ytcadlfljlobjjaa
open Go.ChangeShapes Go.WideShapes Go.ChangeAt Go.RowKit Go.Proofs

/-- what a function that returns a fraction leaves. -/
def FracPost (a b : Nat) (w : World) (e : Ending) (w' : World) : Prop := e = .returned (.agg #[.int .i64 (a : Nat), .int .i64 (b : Nat)]) ∧ Below w.heap.size w w'
theorem frac_cells {W0 W1 : World} {h B : Nat} {u v : Value} (hh : W0.heap[h]? = some (.cells #[u, v] 42 (0, 0))) (hb : Below B W0 W1) (hB : h < B) :
    W1.cell? ⟨h, 0, none⟩ = some u ∧ W1.cell? ⟨h, 1, none⟩ = some v ∧ W1.frozen? ⟨h, 0, none⟩ = false ∧ W1.frozen? ⟨h, 1, none⟩ = false := by
  have hr : W1.heap[h]? = some (.cells #[u, v] 42 (0, 0)) := by rw [hb.block h hB]; exact hh
  exact ⟨by rw [cell_of_row W1 _ 0 _ 42 (0, 0) hr]; rfl, by rw [cell_of_row W1 _ 1 _ 42 (0, 0) hr]; rfl, frozen_of hr _, frozen_of hr _⟩
theorem frac_fin {w W1 : World} {h : Nat} (x y : Value) (hb : Below w.heap.size w W1) (hh : w.heap.size ≤ h) : Below w.heap.size w ((W1.setCell ⟨h, 0, none⟩ x).setCell ⟨h, 1, none⟩ y) :=
  below_setCell (below_setCell hb hh _) hh _

theorem share_at (n k : Nat) (w : World) (h1 : n ≤ 8) (h2 : k ≤ n) : Calls Try.prog 23 #[.int .i64 (n : Nat), .int .i64 (k : Nat)] w (FracPost 1 (chN n k) w) := by
  have hc := fun W => choose_in (n : Nat) (k : Nat) (by omega) (by omega) (by omega) (by omega) W
  rw [(ch_N h1 h2).1] at hc
  replace hc := Lib.hid hc
  go_enter Try.func23, Try.ntmps23
  go_wp2_with (go_at_call 25; refine (hc.out _).mono ?_; rintro e w' ⟨rfl, rfl⟩)
  exact bodyPost_ret (v := .agg #[.int .i64 1, .int .i64 (chN n k : Nat)]) (by simp [results, Try.results23, go_sem]) rfl ⟨rfl, (Below.refl _ w).alloc (Nat.le_refl _) _⟩

theorem over_at (x y b : Nat) (w : World) (hx : x ≤ 1) (hy : 1 ≤ y) (hb : b ≤ 1000) : Calls Try.prog 44 #[.agg #[.int .i64 (x : Nat), .int .i64 (y : Nat)], .int .i64 (b : Nat)] w (FracPost (x * b / y) b w) := by
  have hm : x * b ≤ 1000 := by
    have := Nat.mul_le_mul hx (Nat.le_refl b); omega
  have hmul : (x : Int) * (b : Int) = ((x * b : Nat) : Int) := by simp
  obtain ⟨m, hmm⟩ : ∃ m, x * b = m := ⟨_, rfl⟩
  rw [hmm] at hmul hm ⊢
  have hdiv : (m : Int) / (y : Int) = ((m / y : Nat) : Int) := by simp
  have hdl := Nat.div_le_self m y
  obtain ⟨t, ht⟩ : ∃ t, m / y = t := ⟨_, rfl⟩
  rw [ht] at hdiv hdl ⊢
  have y0 : (1 : Int) ≤ (y : Int) := by omega
  replace hmm := Lib.hid hmm
  replace ht := Lib.hid ht
  go_enter Try.func44, Try.ntmps44
  go_wp2_with fail
  exact bodyPost_ret (v := .agg #[.int .i64 (t : Nat), .int .i64 (b : Nat)]) (by simp [results, Try.results44, go_sem]) rfl ⟨rfl, ((Below.refl w.heap.size w).alloc (Nat.le_refl _) _).alloc (by simp) _⟩

set_option maxHeartbeats 2000000 in
theorem lowest_at (a b : Nat) (w : World) (ha : a ≤ 1000) (hb1 : 1 ≤ b) (hb : b ≤ 1000) : Calls Try.prog 72 #[.agg #[.int .i64 (a : Nat), .int .i64 (b : Nat)]] w (FracPost (a / Nat.gcd b a) (b / Nat.gcd b a) w) := by
  obtain ⟨W1, hW1⟩ : ∃ W1, (w.alloc (.cells #[.int .i64 (a : Nat), .int .i64 (b : Nat)] 42)).alloc (.cells #[.int .i64 0, .int .i64 0] 42) = W1 := ⟨_, rfl⟩
  have hbw := ((Below.refl w.heap.size w).alloc (Nat.le_refl _) (.cells #[.int .i64 (a : Nat), .int .i64 (b : Nat)] 42)).alloc (by simp) (.cells #[.int .i64 0, .int .i64 0] 42)
  have hz : W1.heap.size = w.heap.size + 2 := by rw [← hW1]; simp
  have h0 : W1.heap[w.heap.size]? = some (.cells #[.int .i64 (a : Nat), .int .i64 (b : Nat)] 42 (0, 0)) := by rw [← hW1]; exact new_cell2 w _ _ _
  have h1 : W1.heap[w.heap.size + 1]? = some (.cells #[.int .i64 0, .int .i64 0] 42 (0, 0)) := by rw [← hW1]; exact new_cell1 w _ _ _
  rw [hW1] at hbw
  obtain ⟨l0, l1, -, -⟩ := frac_cells h0 (Below.refl W1.heap.size W1) (by omega)
  obtain ⟨g, hg⟩ : ∃ g, Nat.gcd b a = g := ⟨_, rfl⟩
  rw [hg]
  replace hbw := Lib.hid hbw
  replace hW1 := Lib.hid hW1
  replace h0 := Lib.hid h0
  replace h1 := Lib.hid h1
  go_enter Try.func72, Try.ntmps72
  go_wp2_with fail
  rw [hW1.out]
  go_quiet (fail)
  go_wp2_with fail
  go_loopw [3, 4] (fun x y wr => ∃ c r : Nat, x = .int .i64 (c : Nat) ∧ y = .int .i64 (r : Nat) ∧ 1 ≤ c ∧ c ≤ 1000 ∧ r ≤ 1000 ∧ Hid (Nat.gcd c r = g) ∧ Hid (∃ q, wr = W1.drewN q)) (fun _ y _ => (intOf y).toNat)
  case atStart => exact ⟨b, a, rfl, rfl, hb1, hb, ha, Lib.hid hg, Lib.hid ⟨_, rfl⟩⟩
  case round =>
    obtain ⟨c, r, rfl, rfl, hc1, hc2, hr2, hgc, hq⟩ := hrel
    obtain ⟨q, rfl⟩ := hq.out
    by_cases hr : 0 < r
    · have hr0 : (0 : Int) < (r : Int) := by omega
      have hmod : (c : Int) % (r : Int) = ((c % r : Nat) : Int) := by simp
      have hml := Nat.mod_lt c hr
      have hgs := gcd_step c r
      obtain ⟨m, hm⟩ : ∃ m, c % r = m := ⟨_, rfl⟩
      rw [hm] at hmod hml hgs
      have hg2 := Lib.hid (hgs.trans hgc.out)
      replace hm := Lib.hid hm
      clear hgs
      go_wp2_with fail
      go_quiet (fail)
      go_wp2_with fail
      go_roundw
      case rel => exact ⟨r, m, rfl, by first | rfl | go_num, by omega, by omega, by omega, hg2, Lib.hid ⟨_, World.drewN_drewN _ _ _⟩⟩
      case measure => simp [intOf]; omega
    · obtain rfl : r = 0 := by omega
      have hgc2 := hgc.out
      rw [Nat.gcd_zero_right] at hgc2
      subst hgc2
      obtain ⟨d0, d1, df0, df1⟩ := frac_cells h1.out (below_drewN (Below.refl W1.heap.size W1) q) (by omega)
      have m0 : (W1.drewN q).cell? ⟨w.heap.size, 0, none⟩ = some (.int .i64 (a : Nat)) := l0
      have m1 : (W1.drewN q).cell? ⟨w.heap.size, 1, none⟩ = some (.int .i64 (b : Nat)) := l1
      have hda : (a : Int) / (c : Int) = ((a / c : Nat) : Int) := by simp
      have hdb : (b : Int) / (c : Int) = ((b / c : Nat) : Int) := by simp
      have hal := Nat.div_le_self a c
      have hbl := Nat.div_le_self b c
      obtain ⟨s, hs⟩ : ∃ s, a / c = s := ⟨_, rfl⟩
      obtain ⟨t, ht⟩ : ∃ t, b / c = t := ⟨_, rfl⟩
      rw [hs] at hda hal
      rw [ht] at hdb hbl
      have c0 : (1 : Int) ≤ (c : Int) := by omega
      have hbq := below_drewN hbw.out q
      obtain ⟨W2, hW2⟩ : ∃ W2, W1.drewN q = W2 := ⟨_, rfl⟩
      rw [hW2] at d0 d1 df0 df1 m0 m1 hbq ⊢
      have r0 := World.cell?_setCell_same W2 _ (.int .i64 (s : Nat)) d0
      have rr := two_cells (.int .i64 (s : Nat)) (.int .i64 (t : Nat)) d0 d1
      have hff := Lib.hid (frac_fin (.int .i64 (s : Nat)) (.int .i64 (t : Nat)) hbq (Nat.le_succ _)).drew
      replace hbq := Lib.hid hbq
      replace hW2 := Lib.hid hW2
      replace hs := Lib.hid hs
      replace ht := Lib.hid ht
      clear l0 l1 h0 h1
      go_wp2_with fail
      go_region
      all_goals
        go_wp2_with fail
        exact bodyPost_ret (v := .agg #[.int .i64 (s : Nat), .int .i64 (t : Nat)]) (by simp [results, Try.results72, go_sem, r0, rr.2]) rfl ⟨by rw [hs.out, ht.out], hff.out⟩
end Go.Proofs.Ytcadlfljlobjjaa
