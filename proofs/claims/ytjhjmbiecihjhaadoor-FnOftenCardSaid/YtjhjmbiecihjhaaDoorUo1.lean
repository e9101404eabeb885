/- The greatest number of a list, and where it stands first: mathematics, slices.Max and slices.Index at lists of numbers, UnionOften. -/
import Derived.Test.YtjhjmbiecihjhaaDoorDegB
import Derived.Test.YtjhjmbiecihjhaaDoorLawBool
import Derived.BigQuiet
namespace Go.Proofs.YtjhjmbiecihjhaaDoor
open Go.ChangeShapes Go.WideShapes Go.ChangeAt Go.RowKit Go.Proofs

/-- b is the first place of the greatest number. -/
def IsBest (xs : List Int) (k b : Nat) : Prop := b < k ∧ (∀ j, j < k → xs.getD j 0 ≤ xs.getD b 0) ∧ ∀ j, j < b → xs.getD j 0 < xs.getD b 0
theorem best_same {xs : List Int} {k b c : Nat} (h : IsBest xs k b) (h2 : IsBest xs k c) : b = c := by
  obtain ⟨a1, a2, a3⟩ := h
  obtain ⟨b1, b2, b3⟩ := h2
  rcases Nat.lt_trichotomy b c with h | h | h
  · have := b3 b h; have := a2 c b1; omega
  · exact h
  · have := a3 c h; have := b2 b a1; omega
theorem best_step {xs : List Int} {k b : Nat} (h : IsBest xs k b) : IsBest xs (k + 1) (if xs.getD b 0 < xs.getD k 0 then k else b) := by
  obtain ⟨a1, a2, a3⟩ := h
  by_cases hlt : xs.getD b 0 < xs.getD k 0
  · rw [if_pos hlt]
    refine ⟨by omega, fun j hj => ?_, fun j hj => ?_⟩
    · by_cases e : j = k
      · subst e; omega
      · have := a2 j (by omega); omega
    · have := a2 j (by omega); omega
  · rw [if_neg hlt]
    refine ⟨by omega, fun j hj => ?_, a3⟩
    by_cases e : j = k
    · subst e; omega
    · exact a2 j (by omega)
theorem best_one (xs : List Int) : IsBest xs 1 0 := by
  refine ⟨by omega, fun j hj => ?_, fun j hj => by omega⟩
  obtain rfl : j = 0 := by omega
  exact Int.le_refl _
theorem best_ex (xs : List Int) : ∀ k, ∃ b, IsBest xs (k + 1) b
  | 0 => ⟨0, best_one xs⟩
  | k + 1 => by
    obtain ⟨b, hb⟩ := best_ex xs k
    exact ⟨_, best_step hb⟩
open Classical in
/-- the first place of the greatest number, that number. -/
noncomputable def bstI (xs : List Int) : Nat := if h : ∃ b, IsBest xs xs.length b then h.choose else 0
noncomputable def maxI (xs : List Int) : Int := xs.getD (bstI xs) 0
theorem bstL_eq {xs : List Int} {b : Nat} (h : IsBest xs xs.length b) : bstI xs = b := by
  have hx : ∃ b, IsBest xs xs.length b := ⟨b, h⟩
  unfold bstI
  rw [dif_pos hx]
  exact best_same hx.choose_spec h
theorem bstL_is {xs : List Int} (h : 0 < xs.length) : IsBest xs xs.length (bstI xs) := by
  obtain ⟨k, hk⟩ : ∃ k, xs.length = k + 1 := ⟨xs.length - 1, by omega⟩
  obtain ⟨b, hb⟩ := best_ex xs k
  rw [← hk] at hb
  rw [bstL_eq hb]; exact hb
theorem max_eq {xs : List Int} {m : Int} (h : 0 < xs.length) (h1 : ∀ j, j < xs.length → xs.getD j 0 ≤ m) (h2 : ∃ j, j < xs.length ∧ xs.getD j 0 = m) : m = maxI xs := by
  obtain ⟨a1, a2, a3⟩ := bstL_is h
  obtain ⟨j, hj, rfl⟩ := h2
  have := a2 j hj
  have := h1 _ a1
  unfold maxI; omega
set_option maxHeartbeats 2000000 in
theorem max_ints (v : Value) (xs : List Int) (S : Nat) (w : World) (hx : Row w S v xs) (h0 : 0 < xs.length) (hl : xs.length ≤ 1000) :
    Calls Tryd.prog 27 #[v] w fun e w' => e = .returned (.int .i64 (maxI xs)) ∧ ∃ n, w' = w.drewN n := by
  obtain ⟨a, cap, rfl, ha⟩ := hx
  obtain ⟨b1, o1, rfl, s1, c1⟩ := ha h0
  have hlen : (xs.length : Int) < 1 → False := by omega
  have e0 : w.cell? ⟨b1, o1, none⟩ = some (.int .i64 (xs.getD 0 0)) := c1 0 h0
  obtain ⟨x0, hx0⟩ : ∃ x, xs.getD 0 0 = x := ⟨_, rfl⟩
  rw [hx0] at e0
  have k0 : (0 : Int) < (xs.length : Nat) := by omega
  have k9 : ¬ ((xs.length : Nat) : Int) < 1 := by omega
  have hm0 := Lib.hid (show (∀ j, j < 1 → xs.getD j 0 ≤ x0) ∧ ∃ j, j < 1 ∧ xs.getD j 0 = x0 from ⟨fun j hj => by
    obtain rfl : j = 0 := by omega
    rw [hx0]; exact Int.le_refl _, 0, by omega, hx0⟩)
  replace c1 := Lib.hid c1
  replace hx0 := Lib.hid hx0
  clear hlen ha
  go_enter Tryd.func27, Tryd.ntmps27
  go_wp2_with fail
  go_loopw [3, 4] (fun m i wr => ∃ (k : Nat) (r : Int), 1 ≤ k ∧ k ≤ xs.length ∧ i = .int .i64 k ∧ m = .int .i64 r ∧ Hid (∃ n, wr = w.drewN n) ∧ Hid ((∀ j, j < k → xs.getD j 0 ≤ r) ∧ ∃ j, j < k ∧ xs.getD j 0 = r)) (fun _ i _ => xs.length - (intOf i).toNat)
  case atStart => exact ⟨1, x0, by omega, by omega, rfl, rfl, Lib.hid ⟨0, rfl⟩, hm0⟩
  case round =>
    obtain ⟨k, r, hk1, hk, rfl, rfl, hw, hm⟩ := hrel
    obtain ⟨n, rfl⟩ := hw.out
    clear hw
    by_cases hlt : k < xs.length
    · have k1 : (0 : Int) ≤ (k : Int) := by omega
      have k2 : (k : Int) < (xs.length : Nat) := by omega
      have e1 := c1.out k hlt
      obtain ⟨x, hx⟩ : ∃ x, xs.getD k 0 = x := ⟨_, rfl⟩
      rw [hx] at e1
      have hmm := Lib.hid (show (∀ j, j < k + 1 → xs.getD j 0 ≤ max r x) ∧ ∃ j, j < k + 1 ∧ xs.getD j 0 = max r x from by
        obtain ⟨h1, j0, h2, h3⟩ := hm.out
        refine ⟨fun j hj => ?_, ?_⟩
        · by_cases e : j = k
          · subst e; omega
          · have := h1 j (by omega); omega
        · by_cases e : r ≤ x
          · exact ⟨k, by omega, by omega⟩
          · exact ⟨j0, by omega, by omega⟩)
      obtain ⟨r2, hr2⟩ : ∃ r2, max r x = r2 := ⟨_, rfl⟩
      rw [hr2] at hmm
      replace hx := Lib.hid hx
      go_wp2_with fail
      go_roundw
      case rel => exact ⟨k + 1, r2, by omega, by omega, by go_num, rfl, Lib.hid ⟨_, rfl⟩, hmm⟩
      case measure => simp [intOf]; omega
    · obtain rfl : k = xs.length := by omega
      have hfin := Lib.hid (max_eq h0 hm.out.1 hm.out.2)
      go_wp2_with fail
      go_ret
      exact ⟨by rw [← hfin.out]; rfl, _, rfl⟩
set_option maxHeartbeats 2000000 in
theorem index_ints (v : Value) (xs : List Int) (S : Nat) (w : World) (hx : Row w S v xs) (h0 : 0 < xs.length) (hl : xs.length ≤ 1000) :
    Calls Tryd.prog 28 #[v, .int .i64 (maxI xs)] w fun e w' => e = .returned (.int .i64 ((bstI xs : Nat) : Int)) ∧ ∃ n, w' = w.drewN n := by
  obtain ⟨a, cap, rfl, ha⟩ := hx
  obtain ⟨b1, o1, rfl, s1, c1⟩ := ha h0
  have hb := bstL_is h0
  have hmx : xs.getD (bstI xs) 0 = maxI xs := rfl
  obtain ⟨B, hB⟩ : ∃ B, bstI xs = B := ⟨_, rfl⟩
  obtain ⟨M, hM⟩ : ∃ M, maxI xs = M := ⟨_, rfl⟩
  rw [hB] at hb hmx
  rw [hM] at hmx
  rw [hB, hM]
  obtain ⟨b0, b2, b3⟩ := hb
  replace b2 := Lib.hid b2
  replace b3 := Lib.hid b3
  replace hmx := Lib.hid hmx
  replace hB := Lib.hid hB
  replace hM := Lib.hid hM
  replace c1 := Lib.hid c1
  clear ha
  go_enter Tryd.func28, Tryd.ntmps28
  go_wp2_with fail
  go_loopw [8] (fun i wr => ∃ k : Nat, k ≤ B ∧ i = .int .i64 k ∧ Hid (∃ n, wr = w.drewN n)) (fun i _ => xs.length - (intOf i).toNat)
  case atStart => exact ⟨0, by omega, rfl, Lib.hid ⟨0, rfl⟩⟩
  case round =>
    obtain ⟨k, hk, rfl, hw⟩ := hrel
    obtain ⟨n, rfl⟩ := hw.out
    clear hw
    have k1 : (0 : Int) ≤ (k : Int) := by omega
    have k2 : (k : Int) < (xs.length : Nat) := by omega
    have e1 := c1.out k (by omega)
    obtain ⟨x, hx⟩ : ∃ x, xs.getD k 0 = x := ⟨_, rfl⟩
    rw [hx] at e1
    by_cases hkB : k = B
    · subst hkB
      have hxm : x = M := by rw [← hx, hmx.out]
      subst hxm
      have hd : (x == x) = true := by simp
      replace hx := Lib.hid hx
      go_wp2_with fail
      go_ret
      exact ⟨rfl, _, rfl⟩
    · have hne : x < M := by rw [← hx, ← hmx.out]; exact b3.out k (by omega)
      have hd : (M == x) = false := by rw [beq_eq_false_iff_ne]; omega
      replace hx := Lib.hid hx
      go_wp2_with fail
      go_roundw
      case rel => exact ⟨k + 1, by omega, by go_num, Lib.hid ⟨_, rfl⟩⟩
      case measure => simp [intOf]; omega
end Go.Proofs.YtjhjmbiecihjhaaDoor
