/- A list of sets sorted in place: heaps, reversed ranges, partitions. -/
import Derived.Test.YtgfmfecalhmplaaDoorSrt1
namespace Go.Proofs.YtgfmfecalhmplaaDoor
open Go.ChangeShapes Go.WideShapes Go.ChangeAt Go.RowKit Go.Proofs

theorem sift_st {g cap : Nat} {xs : List Int} {w0 w : World} (h : St g cap xs w0 w) (lo hi f : Nat) (hl : xs.length ≤ 1000) (hb : f + hi ≤ xs.length) (ha : lo ≤ 1000) :
    Calls Tryd.prog 121 #[.slice (some ⟨g, 0, none⟩) xs.length cap, .int .i64 (lo : Nat), .int .i64 (hi : Nat), .int .i64 (f : Nat)] w fun e w' => (∃ v, e = .returned v) ∧ St g cap xs w0 w' := by
  obtain ⟨ys, hy, hlen, hk⟩ := h.here
  have := sift g cap ys lo hi f w hy (by omega) (by omega) ha
  rw [hlen] at this
  exact this.mono fun _ _ h => ⟨h.1, hk _ h.2⟩
theorem insertion_st {g cap : Nat} {xs : List Int} {w0 w : World} (h : St g cap xs w0 w) (a b : Nat) (hl : xs.length ≤ 1000) (hb : b ≤ xs.length) (ha : a ≤ 1000) :
    Calls Tryd.prog 110 #[.slice (some ⟨g, 0, none⟩) xs.length cap, .int .i64 (a : Nat), .int .i64 (b : Nat)] w fun e w' => (∃ v, e = .returned v) ∧ St g cap xs w0 w' := by
  obtain ⟨ys, hy, hlen, hk⟩ := h.here
  have := insertion g cap ys a b w hy (by omega) (by omega) ha
  rw [hlen] at this
  exact this.mono fun _ _ h => ⟨h.1, hk _ h.2⟩

set_option maxHeartbeats 2000000 in
theorem heap_st {g cap : Nat} {xs : List Int} {w0 w : World} (h : St g cap xs w0 w) (a b : Nat) (hl : xs.length ≤ 1000) (hb : b ≤ xs.length) (hab : a < b) :
    Calls Tryd.prog 111 #[.slice (some ⟨g, 0, none⟩) xs.length cap, .int .i64 (a : Nat), .int .i64 (b : Nat)] w fun e w' => (∃ v, e = .returned v) ∧ St g cap xs w0 w' := by
  have hs0 := Lib.hid h
  obtain ⟨L, hL⟩ : ∃ L : Nat, b - a = L := ⟨_, rfl⟩
  have hLi : (b : Int) - (a : Int) = (L : Int) := by omega
  have hL1 : 1 ≤ L := by omega
  have hLx : a + L ≤ xs.length := by omega
  replace hL := Lib.hid hL
  clear h
  go_enter Tryd.func111, Tryd.ntmps111
  go_wp2_with fail
  go_loopw [9] (fun q wr => ∃ i : Int, q = .int .i64 i ∧ -1 ≤ i ∧ i ≤ 1000 ∧ Hid (St g cap xs w0 wr)) (fun q _ => (intOf q + 1).toNat)
  case atStart => exact ⟨_, rfl, by omega, by omega, hs0⟩
  case round =>
    obtain ⟨i, rfl, i1, i2, hs⟩ := hrel
    by_cases hi : 0 ≤ i
    · obtain ⟨j, rfl⟩ : ∃ j : Nat, i = (j : Nat) := ⟨i.toNat, by omega⟩
      have hc := Lib.hid (sift_st hs.out j L a hl hLx (by omega))
      go_wp2_with fail
      refine hc.out.mono ?_
      rintro e w2 ⟨⟨v, rfl⟩, hs2⟩
      replace hs2 := Lib.hid hs2
      go_wp2_with fail
      go_roundw
      case rel => exact ⟨_, rfl, by omega, by omega, hs2⟩
      case measure => simp [intOf] <;> omega
    · go_wp2_with fail
      go_loopw [10] (fun q wr => ∃ i : Int, q = .int .i64 i ∧ -1 ≤ i ∧ i < (L : Nat) ∧ Hid (St g cap xs w0 wr)) (fun q _ => (intOf q + 1).toNat)
      case atStart => exact ⟨_, rfl, by omega, by omega, hs⟩
      case round =>
        obtain ⟨i, rfl, i1, i2, hs⟩ := hrel
        by_cases hi : 0 ≤ i
        · obtain ⟨j, rfl⟩ : ∃ j : Nat, i = (j : Nat) := ⟨i.toNat, by omega⟩
          obtain ⟨A1, hA1⟩ : ∃ A1 : Nat, a + j = A1 := ⟨_, rfl⟩
          have w1 : IntKind.i64.wrap ((a : Int) + (j : Int)) = (A1 : Int) := by rw [IntKind.wrap_i64]; omega
          have a1 : (0 : Int) ≤ (a : Int) := by omega
          have a2 : (a : Int) < (xs.length : Nat) := by omega
          have a3 : (0 : Int) ≤ (A1 : Int) := by omega
          have a4 : (A1 : Int) < (xs.length : Nat) := by omega
          have hA1x : A1 < xs.length := by omega
          replace hA1 := Lib.hid hA1
          obtain ⟨x, e1⟩ := hs.out.at (i := a) (by omega)
          obtain ⟨y, e2⟩ := hs.out.at (i := A1) hA1x
          have f1 := hs.out.frozen a
          have f2 := hs.out.frozen A1
          have hs3 := Lib.hid (hs.out.swap (by omega) hA1x e1 e2).drew
          obtain ⟨u, e3⟩ := cell?_setCell_some (p := ⟨g, a, none⟩) (x := .int .u64 y) e2
          have hc := Lib.hid (sift_st hs3.out 0 j a hl (by omega) (by omega))
          clear hs
          go_wp2_with fail
          go_region
          go_wp2_with fail
          refine hc.out.mono ?_
          rintro e w2 ⟨⟨v, rfl⟩, hs2⟩
          replace hs2 := Lib.hid hs2
          go_wp2_with fail
          go_roundw
          case rel => exact ⟨_, rfl, by omega, by omega, hs2⟩
          case measure => simp [intOf] <;> omega
        · go_wp2_with fail
          go_end0
          exact ⟨⟨_, rfl⟩, hs.out⟩

set_option maxHeartbeats 1000000 in
theorem reverse_st {g cap : Nat} {xs : List Int} {w0 w : World} (h : St g cap xs w0 w) (a b : Nat) (hl : xs.length ≤ 1000) (hb : b ≤ xs.length) (hab : a < b) :
    Calls Tryd.prog 114 #[.slice (some ⟨g, 0, none⟩) xs.length cap, .int .i64 (a : Nat), .int .i64 (b : Nat)] w fun e w' => (∃ v, e = .returned v) ∧ St g cap xs w0 w' := by
  have hs0 := Lib.hid h
  obtain ⟨B, hB⟩ : ∃ B : Nat, b = B + 1 := ⟨b - 1, by omega⟩
  have hBi : (b : Int) - 1 = (B : Int) := by omega
  have hBx : B < xs.length := by omega
  replace hB := Lib.hid hB
  clear h
  go_enter Tryd.func114, Tryd.ntmps114
  go_wp2_with fail
  go_loopw [6, 7] (fun p q wr => ∃ i j : Nat, p = .int .i64 i ∧ q = .int .i64 j ∧ i ≤ 1000 ∧ j < xs.length ∧ Hid (St g cap xs w0 wr)) (fun p q _ => ((intOf q) - (intOf p)).toNat)
  case atStart => exact ⟨a, B, rfl, by first | rfl | go_num, by omega, by omega, hs0⟩
  case round =>
    obtain ⟨i, j, rfl, rfl, i1, j1, hs⟩ := hrel
    by_cases hij : i < j
    · have hd : decide (i < j) = true := decide_eq_true hij
      obtain ⟨J, hJ⟩ : ∃ J : Nat, j = J + 1 := ⟨j - 1, by omega⟩
      have hJi : (j : Int) - 1 = (J : Int) := by omega
      have a1 : (0 : Int) ≤ (i : Int) := by omega
      have a2 : (i : Int) < (xs.length : Nat) := by omega
      have a3 : (0 : Int) ≤ (j : Int) := by omega
      have a4 : (j : Int) < (xs.length : Nat) := by omega
      obtain ⟨x, e1⟩ := hs.out.at (i := i) (by omega)
      obtain ⟨y, e2⟩ := hs.out.at (i := j) j1
      have f1 := hs.out.frozen i
      have f2 := hs.out.frozen j
      have hs3 := Lib.hid (hs.out.swap (by omega) j1 e1 e2).drew
      obtain ⟨u, e3⟩ := cell?_setCell_some (p := ⟨g, i, none⟩) (x := .int .u64 y) e2
      replace hJ := Lib.hid hJ
      clear hs
      go_wp2_with fail
      go_region
      go_wp2_with fail
      go_roundw
      case rel => exact ⟨i + 1, J, by first | rfl | go_num, by first | rfl | go_num, by omega, by have := hJ.out; omega, hs3⟩
      case measure => have := hJ.out; simp [intOf]; omega
    · have hd : decide (i < j) = false := decide_eq_false hij
      go_wp2_with fail
      go_end0
      exact ⟨⟨_, rfl⟩, hs.out⟩
end Go.Proofs.YtgfmfecalhmplaaDoor
