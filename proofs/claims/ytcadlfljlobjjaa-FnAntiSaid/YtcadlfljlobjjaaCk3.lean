/- Exact shares, the common bottom, sums of fractions. -/
import Derived.Test.YtcadlfljlobjjaaCk2
namespace Go.Proofs.Ytcadlfljlobjjaa
open Go.ChangeShapes Go.WideShapes Go.ChangeAt Go.RowKit Go.Proofs

def exC (C b : Nat) : Bool := decide (b / C / Nat.gcd b (b / C) = 1 / Nat.gcd C 1 ∧ b / Nat.gcd b (b / C) = C / Nat.gcd C 1)
set_option maxHeartbeats 4000000 in
theorem exact_at (C b : Nat) (w : World) (hC1 : 1 ≤ C) (hC : C ≤ 1000) (hb1 : 1 ≤ b) (hb : b ≤ 1000) :
    Calls Try.prog 59 #[.agg #[.int .i64 1, .int .i64 (C : Nat)], .int .i64 (b : Nat)] w fun e w' => e = .returned (.bool (exC C b)) ∧ Below w.heap.size w w' := by
  have hov : ∀ W, Calls Try.prog 44 #[.agg #[.int .i64 1, .int .i64 (C : Nat)], .int .i64 (b : Nat)] W (FracPost (b / C) b W) := fun W => by
    have := over_at 1 C b W (Nat.le_refl _) hC1 hb
    rwa [Nat.one_mul] at this
  have hdl := Nat.div_le_self b C
  have hl1 := fun W => lowest_at (b / C) b W (by omega) hb1 hb
  have hl2 : ∀ W, Calls Try.prog 72 #[.agg #[.int .i64 1, .int .i64 (C : Nat)]] W (FracPost (1 / Nat.gcd C 1) (C / Nat.gcd C 1) W) := fun W => lowest_at 1 C W (by omega) hC1 hC
  unfold exC
  obtain ⟨m, hm⟩ : ∃ m, b / C = m := ⟨_, rfl⟩
  rw [hm] at hov hl1 ⊢
  obtain ⟨x1, hx1⟩ : ∃ x, m / Nat.gcd b m = x := ⟨_, rfl⟩
  obtain ⟨y1, hy1⟩ : ∃ x, b / Nat.gcd b m = x := ⟨_, rfl⟩
  obtain ⟨x2, hx2⟩ : ∃ x, 1 / Nat.gcd C 1 = x := ⟨_, rfl⟩
  obtain ⟨y2, hy2⟩ : ∃ x, C / Nat.gcd C 1 = x := ⟨_, rfl⟩
  rw [hx1, hy1] at hl1
  rw [hx2, hy2] at hl2
  rw [hx1, hx2, hy1, hy2]
  obtain ⟨W1, hW1⟩ : ∃ W1, w.alloc (.cells #[.int .i64 1, .int .i64 (C : Nat)] 42) = W1 := ⟨_, rfl⟩
  have hbw := (Below.refl w.heap.size w).alloc (Nat.le_refl _) (.cells #[.int .i64 1, .int .i64 (C : Nat)] 42)
  have hz : W1.heap.size = w.heap.size + 1 := by rw [← hW1]; simp
  have h0 : W1.heap[w.heap.size]? = some (.cells #[.int .i64 1, .int .i64 (C : Nat)] 42 (0, 0)) := by rw [← hW1]; exact heap_alloc_new w _
  rw [hW1] at hbw
  have hlt : w.heap.size < W1.heap.size := by omega
  obtain ⟨l0, l1, -, -⟩ := frac_cells h0 (Below.refl W1.heap.size W1) hlt
  have hK := Lib.hid (Below.refl W1.heap.size W1).drew
  replace hov := Lib.hid hov
  replace hl1 := Lib.hid hl1
  replace hl2 := Lib.hid hl2
  replace hm := Lib.hid hm
  replace hx1 := Lib.hid hx1
  replace hx2 := Lib.hid hx2
  replace hy1 := Lib.hid hy1
  replace hy2 := Lib.hid hy2
  replace hbw := Lib.hid hbw
  replace hW1 := Lib.hid hW1
  replace h0 := Lib.hid h0
  by_cases e1 : x1 = x2
  · subst e1
    by_cases e2 : y1 = y2
    · subst e2
      have hB := Lib.hid (show true = decide (x1 = x1 ∧ y1 = y1) by simp)
      go_enter Try.func59, Try.ntmps59
      go_wp2_with fail
      rw [hW1.out]
      go_region_with (first
        | (go_at_call 44; (with_reducible refine (hov.out _).mono ?_); rintro e w2 ⟨rfl, hb2⟩; replace hK := Lib.hid (hK.out.trans (hb2.mono hK.out.size)); obtain ⟨l0, l1, -, -⟩ := frac_cells h0.out hK.out hlt; clear hb2)
        | (go_at_call 72; (with_reducible refine (hl1.out _).mono ?_); rintro e w2 ⟨rfl, hb2⟩; replace hK := Lib.hid (hK.out.trans (hb2.mono hK.out.size)); obtain ⟨l0, l1, -, -⟩ := frac_cells h0.out hK.out hlt; clear hb2)
        | (go_at_call 72; (with_reducible refine (hl2.out _).mono ?_); rintro e w2 ⟨rfl, hb2⟩; replace hK := Lib.hid (hK.out.trans (hb2.mono hK.out.size)); obtain ⟨l0, l1, -, -⟩ := frac_cells h0.out hK.out hlt; clear hb2))
      all_goals
        go_wp2_with fail
        go_ret
        exact ⟨ret_bool hB.out, (hbw.out.trans (hK.out.mono (Nat.le_of_lt hlt)))⟩
    · have q2 : ¬ ((y1 : Int) = (y2 : Int)) := by omega
      have hB := Lib.hid (show false = decide (x1 = x1 ∧ y1 = y2) by simp [e2])
      replace e2 := Lib.hid e2
      go_enter Try.func59, Try.ntmps59
      go_wp2_with fail
      rw [hW1.out]
      go_region_with (first
        | (go_at_call 44; (with_reducible refine (hov.out _).mono ?_); rintro e w2 ⟨rfl, hb2⟩; replace hK := Lib.hid (hK.out.trans (hb2.mono hK.out.size)); obtain ⟨l0, l1, -, -⟩ := frac_cells h0.out hK.out hlt; clear hb2)
        | (go_at_call 72; (with_reducible refine (hl1.out _).mono ?_); rintro e w2 ⟨rfl, hb2⟩; replace hK := Lib.hid (hK.out.trans (hb2.mono hK.out.size)); obtain ⟨l0, l1, -, -⟩ := frac_cells h0.out hK.out hlt; clear hb2)
        | (go_at_call 72; (with_reducible refine (hl2.out _).mono ?_); rintro e w2 ⟨rfl, hb2⟩; replace hK := Lib.hid (hK.out.trans (hb2.mono hK.out.size)); obtain ⟨l0, l1, -, -⟩ := frac_cells h0.out hK.out hlt; clear hb2))
      all_goals
        go_wp2_with fail
        go_ret
        exact ⟨ret_bool hB.out, (hbw.out.trans (hK.out.mono (Nat.le_of_lt hlt)))⟩
  · have q1 : ¬ ((x1 : Int) = (x2 : Int)) := by omega
    have hB := Lib.hid (show false = decide (x1 = x2 ∧ y1 = y2) by simp [e1])
    replace e1 := Lib.hid e1
    go_enter Try.func59, Try.ntmps59
    go_wp2_with fail
    rw [hW1.out]
    go_region_with (first
      | (go_at_call 44; (with_reducible refine (hov.out _).mono ?_); rintro e w2 ⟨rfl, hb2⟩; replace hK := Lib.hid (hK.out.trans (hb2.mono hK.out.size)); obtain ⟨l0, l1, -, -⟩ := frac_cells h0.out hK.out hlt; clear hb2)
      | (go_at_call 72; (with_reducible refine (hl1.out _).mono ?_); rintro e w2 ⟨rfl, hb2⟩; replace hK := Lib.hid (hK.out.trans (hb2.mono hK.out.size)); obtain ⟨l0, l1, -, -⟩ := frac_cells h0.out hK.out hlt; clear hb2)
      | (go_at_call 72; (with_reducible refine (hl2.out _).mono ?_); rintro e w2 ⟨rfl, hb2⟩; replace hK := Lib.hid (hK.out.trans (hb2.mono hK.out.size)); obtain ⟨l0, l1, -, -⟩ := frac_cells h0.out hK.out hlt; clear hb2))
    all_goals
      go_wp2_with fail
      go_ret
      exact ⟨ret_bool hB.out, (hbw.out.trans (hK.out.mono (Nat.le_of_lt hlt)))⟩
end Go.Proofs.Ytcadlfljlobjjaa
