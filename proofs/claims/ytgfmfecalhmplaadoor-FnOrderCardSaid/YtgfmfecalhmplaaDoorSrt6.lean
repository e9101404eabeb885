/- A list of sets sorted in place: patterns broken, a few steps of insertion. -/
import Derived.Test.YtgfmfecalhmplaaDoorSrt5
namespace Go.Proofs.YtgfmfecalhmplaaDoor
open Go.ChangeShapes Go.WideShapes Go.ChangeAt Go.RowKit Go.Proofs

/-- the list and the random number, side by side. -/
structure SideU (g cap c : Nat) (xs : List Int) (w0 w : World) : Prop where
  st : St g cap xs w0 w
  ne : c ≠ g
  lo : w0.heap.size ≤ c
  tu : TurnB c w w
theorem SideU.turn {g cap c : Nat} {xs : List Int} {w0 w w' : World} (h : SideU g cap c xs w0 w) (k : TurnB c w w') : SideU g cap c xs w0 w' := ⟨k.2.2.2 _ _ _ _ h.ne h.lo h.st, h.ne, h.lo, ⟨k.1, k.2.1, rfl, fun _ _ _ _ _ _ h => h⟩⟩
theorem SideU.swap {g cap c : Nat} {xs : List Int} {w0 w : World} (h : SideU g cap c xs w0 w) {i j : Nat} (hi : i < xs.length) (hj : j < xs.length) {x y : Int} (hx : w.cell? ⟨g, i, none⟩ = some (.int .u64 x)) (hy : w.cell? ⟨g, j, none⟩ = some (.int .u64 y)) :
    SideU g cap c xs w0 ((w.setCell ⟨g, i, none⟩ (.int .u64 y)).setCell ⟨g, j, none⟩ (.int .u64 x)).drew := by
  obtain ⟨⟨z, hz⟩, hf, _, _⟩ := h.tu
  have hne := h.ne
  refine ⟨(h.st.swap hi hj hx hy).drew, h.ne, h.lo, ⟨⟨z, ?_⟩, ?_, rfl, fun _ _ _ _ _ _ h => h⟩⟩
  · show ((w.setCell ⟨g, i, none⟩ (.int .u64 y)).setCell ⟨g, j, none⟩ (.int .u64 x)).cell? ⟨c, 0, none⟩ = _
    rw [World.cell?_setCell_other _ _ _ _ (by intro e; injection e with e; exact hne e.symm), World.cell?_setCell_other _ _ _ _ (by intro e; injection e with e; exact hne e.symm)]
    exact hz
  · show ((w.setCell ⟨g, i, none⟩ (.int .u64 y)).setCell ⟨g, j, none⟩ (.int .u64 x)).frozen? ⟨c, 0, none⟩ = false
    simpa using hf
theorem and_le {x : Int} {M : Nat} (h0 : 0 ≤ x) (h1 : x < 18446744073709551616) (hM : 1 ≤ M) (hM2 : M ≤ 512) : ∃ O : Nat, bits .and .u64 x ((M : Int) - 1) = (O : Int) ∧ O + 1 ≤ M := by
  refine ⟨x.toNat &&& ((M : Int) - 1).toNat, u64_and x _ h0 (by omega) (by omega) (by omega), ?_⟩
  have := Nat.and_le_right (n := x.toNat) (m := ((M : Int) - 1).toNat)
  omega

set_option maxHeartbeats 4000000 in
theorem break_st {g cap : Nat} {xs : List Int} {w0 w : World} (h : St g cap xs w0 w) (a b : Nat) (hl : xs.length ≤ 256) (hb : b ≤ xs.length) (hab : a + 13 ≤ b) :
    Calls Tryd.prog 112 #[.slice (some ⟨g, 0, none⟩) xs.length cap, .int .i64 (a : Nat), .int .i64 (b : Nat)] w fun e w' => (∃ v, e = .returned v) ∧ St g cap xs w0 w' := by
  obtain ⟨L, hL⟩ : ∃ L : Nat, b - a = L := ⟨_, rfl⟩
  have hLi : (b : Int) - (a : Int) = (L : Int) := by omega
  have hlt := h.lt
  have hz0 := h.size
  have hs0 : SideU g cap w.heap.size xs w0 (w.alloc (.cells #[.int .u64 (L : Nat)] 121)) := by
    refine ⟨h.alloc _, by omega, h.size, TurnB.refl (x := (L : Nat)) ?_ ?_⟩
    · rw [cell_of_row _ _ 0 _ _ (0, 0) (heap_alloc_new w _)]; rfl
    · exact frozen_of (heap_alloc_new w _) 0
  obtain ⟨Q, hQ⟩ : ∃ Q : Nat, L / 4 = Q := ⟨_, rfl⟩
  have hQi : (L : Int) / 4 = (Q : Int) := by omega
  obtain ⟨J, hJ⟩ : ∃ J : Nat, a + Q * 2 = J := ⟨_, rfl⟩
  have hJi : (a : Int) + (Q : Int) * 2 = (J : Int) := by omega
  obtain ⟨J0, hJ0⟩ : ∃ J0 : Nat, J = J0 + 1 := ⟨J - 1, by omega⟩
  have hJ0i : (J : Int) - 1 = (J0 : Int) := by omega
  have hL8 : (8 : Int) ≤ (L : Int) := by omega
  have hin : Hid (a ≤ J0 ∧ J0 + 2 < b ∧ a + L = b ∧ J = J0 + 1) := Lib.hid (by refine ⟨?_, ?_, ?_, ?_⟩ <;> omega)
  have hnp := Lib.hid (fun W => next_pow (L : Int) (by omega) (by omega) W)
  replace hL := Lib.hid hL
  replace hQ := Lib.hid hQ
  replace hJ := Lib.hid hJ
  replace hJ0 := Lib.hid hJ0
  replace hs0 := Lib.hid hs0
  clear h hlt
  go_enter Tryd.func112, Tryd.ntmps112
  go_wp2_with (go_at_call 122; refine (hnp.out _).mono ?_; rintro e w' ⟨M, rfl, M1, M2, M3, rfl⟩)
  go_loopw [9] (fun q wr => ∃ i : Nat, q = .int .i64 i ∧ J0 ≤ i ∧ i ≤ J0 + 3 ∧ Hid (SideU g cap w.heap.size xs w0 wr)) (fun q _ => J0 + 4 - (intOf q).toNat)
  case atStart => exact ⟨J0, by first | rfl | go_num, by omega, by omega, hs0⟩
  case round =>
    obtain ⟨i, rfl, i1, i2, hs⟩ := hrel
    by_cases hi : i ≤ J0 + 2
    · have hii : (i : Int) ≤ (J : Int) + 1 := by have := hin.out; omega
      obtain ⟨⟨y0, e0⟩, f0, _, _⟩ := hs.out.tu
      have hnx := Lib.hid (next_any w.heap.size y0 wr e0 f0)
      go_wp2_with fail
      refine hnx.out.mono ?_
      rintro e w2 ⟨x, rfl, x0, x1, ht⟩
      have hs2 := hs.out.turn ht
      obtain ⟨O, hO, hO2⟩ := and_le (M := M) x0 x1 M1 M2
      obtain ⟨P, hP, hPx⟩ : ∃ P : Nat, (P = if O < L then O else O - L) ∧ P < L := ⟨_, rfl, by split <;> omega⟩
      obtain ⟨A1, hA1⟩ : ∃ A1 : Nat, a + P = A1 := ⟨_, rfl⟩
      have hin' := hin.out
      have w1 : IntKind.i64.wrap ((a : Int) + (P : Int)) = (A1 : Int) := by rw [IntKind.wrap_i64]; omega
      have a1 : (0 : Int) ≤ (i : Int) := by omega
      have a2 : (i : Int) < (xs.length : Nat) := by omega
      have a3 : (0 : Int) ≤ (A1 : Int) := by omega
      have a4 : (A1 : Int) < (xs.length : Nat) := by omega
      have hix : i < xs.length := by omega
      have hA1x : A1 < xs.length := by omega
      obtain ⟨x2, e1⟩ := hs2.st.at (i := i) hix
      obtain ⟨y2, e2⟩ := hs2.st.at (i := A1) hA1x
      have f1 := hs2.st.frozen i
      have f2 := hs2.st.frozen A1
      have hs3 := Lib.hid (hs2.swap hix hA1x e1 e2)
      obtain ⟨u, e3⟩ := cell?_setCell_some (p := ⟨g, i, none⟩) (x := .int .u64 y2) e2
      replace hA1 := Lib.hid hA1
      clear hs hs2 ht hnx e0 f0 hin'
      by_cases hOL : O < L
      · have hd : decide (L ≤ O) = false := decide_eq_false (by omega)
        rw [if_pos hOL] at hP
        subst hP
        go_wp2_with fail
        go_region
        all_goals
          go_wp2_with fail
          go_roundw
          case rel => exact ⟨i + 1, by first | rfl | go_num, by omega, by omega, hs3⟩
          case measure => simp [intOf] <;> omega
      · have hd : decide (L ≤ O) = true := decide_eq_true (by omega)
        rw [if_neg hOL] at hP
        have hPi : (O : Int) - (L : Int) = (P : Int) := by omega
        replace hP := Lib.hid hP
        go_wp2_with fail
        go_region
        all_goals
          go_wp2_with fail
          go_roundw
          case rel => exact ⟨i + 1, by first | rfl | go_num, by omega, by omega, hs3⟩
          case measure => simp [intOf] <;> omega
    · have hii : ¬ (i : Int) ≤ (J : Int) + 1 := by have := hin.out; omega
      go_wp2_with fail
      go_end0
      exact ⟨⟨_, rfl⟩, hs.out.st⟩
end Go.Proofs.YtgfmfecalhmplaaDoor
