/- A list of sets sorted in place: partitions. -/
import Derived.Test.YtgfmfecalhmplaaDoorSrt2
import Derived.Deep.DeepCutAuto
import Derived.Deep.CutBlock
namespace Go.Proofs.YtgfmfecalhmplaaDoor
open Go.ChangeShapes Go.WideShapes Go.ChangeAt Go.RowKit Go.Proofs

/-- what a partition leaves. -/
def PartPost (g cap : Nat) (xs : List Int) (w0 : World) (a b : Nat) (e : Ending) (w' : World) : Prop := ∃ (m : Nat) (f : Bool), e = .returned (.tuple #[.int .i64 m, .bool f]) ∧ a ≤ m ∧ m < b ∧ St g cap xs w0 w'
def PartEPost (g cap : Nat) (xs : List Int) (w0 : World) (a b : Nat) (e : Ending) (w' : World) : Prop := ∃ m : Nat, e = .returned (.int .i64 m) ∧ a + 1 ≤ m ∧ m ≤ b ∧ St g cap xs w0 w'
set_option maxHeartbeats 4000000 in
theorem partition_eq_st {g cap : Nat} {xs : List Int} {w0 w : World} (h : St g cap xs w0 w) (a b p : Nat) (hl : xs.length ≤ 1000) (hb : b ≤ xs.length) (hab : a < b) (hp : p < b) :
    Calls Tryd.prog 117 #[.slice (some ⟨g, 0, none⟩) xs.length cap, .int .i64 (a : Nat), .int .i64 (b : Nat), .int .i64 (p : Nat)] w (PartEPost g cap xs w0 a b) := by
  have hs := Lib.hid h
  obtain ⟨B, hB⟩ : ∃ B : Nat, b = B + 1 := ⟨b - 1, by omega⟩
  have hBi : (b : Int) - 1 = (B : Int) := by omega
  obtain ⟨A, hA⟩ : ∃ A : Nat, a + 1 = A := ⟨_, rfl⟩
  have hAi : (a : Int) + 1 = (A : Int) := by omega
  have hbb : Hid (b = B + 1 ∧ a + 1 = A) := Lib.hid ⟨hB, hA⟩
  have q1 : B < b := by omega
  have q2 : a ≤ B := by omega
  have q3 : A ≤ b := by omega
  have q4 : a < A := by omega
  clear hB hA h
  go_enter Tryd.func117, Tryd.ntmps117
  go_upto_region 1 with fail
  go_cut [] (fun wx => Hid (St g cap xs w0 wx))
  case first =>
    have m1 : (0 : Int) ≤ (a : Int) := by omega
    have m2 : (a : Int) < (xs.length : Nat) := by omega
    have m3 : (0 : Int) ≤ (p : Int) := by omega
    have m4 : (p : Int) < (xs.length : Nat) := by omega
    obtain ⟨x, e1⟩ := hs.out.at (i := a) (by omega)
    obtain ⟨y, e2⟩ := hs.out.at (i := p) (by omega)
    have f1 := hs.out.frozen a
    have f2 := hs.out.frozen p
    have hs3 := Lib.hid (hs.out.swap (i := a) (j := p) (by omega) (by omega) e1 e2).drew
    obtain ⟨u, e3⟩ := cell?_setCell_some (p := ⟨g, a, none⟩) (x := .int .u64 y) e2
    go_region
    all_goals
      go_wp2_with fail
      go_meet
      exact hs3
  replace hs := hcut
  clear hcut
  go_wp2_with fail

  go_loopg [9, 10] (B + 1 - (A)) (fun k p q wr => ∃ i0 j0 : Nat, p = .int .i64 i0 ∧ q = .int .i64 j0 ∧ a < i0 ∧ i0 ≤ b ∧ a ≤ j0 ∧ j0 < b ∧ k = j0 + 1 - i0 ∧ Hid (St g cap xs w0 wr))
  case atStart => exact ⟨A, B, by first | rfl | go_num, by first | rfl | go_num, by omega, by omega, by omega, by omega, rfl, hs⟩
  case round =>
    obtain ⟨i0, j0, rfl, rfl, i01, i02, j01, j02, hk, hs⟩ := hrel
    replace hk := Lib.hid hk
    go_upto_block 2 with fail
    go_cut [9] (fun q wx => ∃ i : Nat, q = .int .i64 i ∧ i0 ≤ i ∧ i ≤ b ∧ Hid (St g cap xs w0 wx))
    case first =>
      go_wp2_with fail
      go_loopw [9] (fun q wr => ∃ i : Nat, q = .int .i64 i ∧ i0 ≤ i ∧ i ≤ b ∧ Hid (St g cap xs w0 wr)) (fun q _ => b - (intOf q).toNat)
      case atStart => exact ⟨i0, by first | rfl | go_num, by omega, by omega, hs⟩
      case round =>
        obtain ⟨i, rfl, i1, i2, hs⟩ := hrel
        by_cases hij : i ≤ j0
        · have hd : decide (i ≤ j0) = true := decide_eq_true hij
          have k1 : (0 : Int) ≤ (i : Int) := by omega
          have k2 : (i : Int) < (xs.length : Nat) := by omega
          have k3 : (0 : Int) ≤ (a : Int) := by omega
          have k4 : (a : Int) < (xs.length : Nat) := by omega
          obtain ⟨x, e1⟩ := hs.out.at (i := i) (by omega)
          obtain ⟨p, e2⟩ := hs.out.at (i := a) (by omega)
          have hq := lessq p x
          obtain ⟨v, hv⟩ : ∃ v, decide (p < x) = v := ⟨_, rfl⟩
          rw [hv] at hq
          replace hv := Lib.hid hv
          rcases (by cases v <;> simp : v = false ∨ v = true) with rfl | rfl
          · go_wp2_with fail
            go_quiet ((go_at_call 116; exact Calls.quiet_of_same (hq.out _)))
            have hs2 := Lib.hid (hs.out.drewN nq)
            go_wp2_with fail
            go_roundw
            case rel => exact ⟨i + 1, by first | rfl | go_num, by omega, by omega, hs2⟩
            case measure => simp [intOf] <;> omega
          · go_wp2_with fail
            go_quiet ((go_at_call 116; exact Calls.quiet_of_same (hq.out _)))
            have hs2 := Lib.hid (hs.out.drewN nq)
            go_wp2_with fail
            go_meet
            exact ⟨i, rfl, i1, i2, hs2⟩
        · have hd : decide (i ≤ j0) = false := decide_eq_false hij
          go_wp2_with fail
          go_quiet (fail)
          have hs2 := Lib.hid (hs.out.drewN nq)
          go_wp2_with fail
          go_meet
          exact ⟨i, rfl, i1, i2, hs2⟩
    obtain ⟨i, rfl, i1, i2, hs⟩ := hcut

    go_upto_block 4 with fail
    go_cut [10] (fun q wx => ∃ j : Nat, q = .int .i64 j ∧ j ≤ j0 ∧ a ≤ j ∧ Hid (St g cap xs w0 wx))
    case first =>
      go_wp2_with fail
      go_loopw [10] (fun q wr => ∃ j : Nat, q = .int .i64 j ∧ j ≤ j0 ∧ a ≤ j ∧ Hid (St g cap xs w0 wr)) (fun q _ => (intOf q).toNat)
      case atStart => exact ⟨j0, by first | rfl | go_num, by omega, by omega, hs⟩
      case round =>
        obtain ⟨j, rfl, j1, j2, hs⟩ := hrel
        by_cases hij : i ≤ j
        · have hd : decide (i ≤ j) = true := decide_eq_true hij
          have k1 : (0 : Int) ≤ (j : Int) := by omega
          have k2 : (j : Int) < (xs.length : Nat) := by omega
          have k3 : (0 : Int) ≤ (a : Int) := by omega
          have k4 : (a : Int) < (xs.length : Nat) := by omega
          obtain ⟨x, e1⟩ := hs.out.at (i := j) (by omega)
          obtain ⟨p, e2⟩ := hs.out.at (i := a) (by omega)
          have hq := lessq p x
          obtain ⟨v, hv⟩ : ∃ v, decide (p < x) = v := ⟨_, rfl⟩
          rw [hv] at hq
          replace hv := Lib.hid hv
          rcases (by cases v <;> simp : v = true ∨ v = false) with rfl | rfl
          · go_wp2_with fail
            go_quiet ((go_at_call 116; exact Calls.quiet_of_same (hq.out _)))
            have hs2 := Lib.hid (hs.out.drewN nq)
            obtain ⟨J1, hJ⟩ : ∃ J1 : Nat, j = J1 + 1 := ⟨j - 1, by omega⟩
            have hJi : (j : Int) - 1 = (J1 : Int) := by omega
            replace hJ := Lib.hid hJ
            go_wp2_with fail
            go_roundw
            case rel => exact ⟨J1, by first | rfl | go_num, by have := hJ.out; omega, by have := hJ.out; omega, hs2⟩
            case measure => have := hJ.out; simp [intOf] <;> omega
          · go_wp2_with fail
            go_quiet ((go_at_call 116; exact Calls.quiet_of_same (hq.out _)))
            have hs2 := Lib.hid (hs.out.drewN nq)
            go_wp2_with fail
            go_meet
            exact ⟨j, rfl, j1, j2, hs2⟩
        · have hd : decide (i ≤ j) = false := decide_eq_false hij
          go_wp2_with fail
          go_quiet (fail)
          have hs2 := Lib.hid (hs.out.drewN nq)
          go_wp2_with fail
          go_meet
          exact ⟨j, rfl, j1, j2, hs2⟩
    obtain ⟨j, rfl, j1, j2, hs⟩ := hcut
    by_cases hgt : j < i
    · have hd2 : decide (j < i) = true := decide_eq_true hgt
      go_wp2_with fail
      go_ret
      exact ⟨i, rfl, by omega, by omega, hs.out⟩
    · have hd2 : decide (j < i) = false := decide_eq_false hgt
      go_upto_region 8 with fail
      go_cut [] (fun wx => Hid (St g cap xs w0 wx))
      case first =>
        have m1 : (0 : Int) ≤ (i : Int) := by omega
        have m2 : (i : Int) < (xs.length : Nat) := by omega
        have m3 : (0 : Int) ≤ (j : Int) := by omega
        have m4 : (j : Int) < (xs.length : Nat) := by omega
        obtain ⟨x, e1⟩ := hs.out.at (i := i) (by omega)
        obtain ⟨y, e2⟩ := hs.out.at (i := j) (by omega)
        have f1 := hs.out.frozen i
        have f2 := hs.out.frozen j
        have hs3 := Lib.hid (hs.out.swap (i := i) (j := j) (by omega) (by omega) e1 e2).drew
        obtain ⟨u, e3⟩ := cell?_setCell_some (p := ⟨g, i, none⟩) (x := .int .u64 y) e2
        go_region
        all_goals
          go_wp2_with fail
          go_meet
          exact hs3
      replace hs := hcut
      clear hcut
      obtain ⟨J0, hJ⟩ : ∃ J0 : Nat, j = J0 + 1 := ⟨j - 1, by omega⟩
      have hJi : (j : Int) - 1 = (J0 : Int) := by omega
      replace hJ := Lib.hid hJ
      go_wp2_with fail
      go_roundg (J0 + 1 - (i + 1))
      case measure => have := hJ.out; have := hk.out; omega
      case rel => exact ⟨i + 1, J0, by first | rfl | go_num, by first | rfl | go_num, by omega, by omega, by have := hJ.out; omega, by have := hJ.out; omega, rfl, hs⟩
set_option maxHeartbeats 4000000 in
set_option maxRecDepth 100000 in
theorem partition_st {g cap : Nat} {xs : List Int} {w0 w : World} (h : St g cap xs w0 w) (a b p : Nat) (hl : xs.length ≤ 1000) (hb : b ≤ xs.length) (hab : a < b) (hp : p < b) :
    Calls Tryd.prog 118 #[.slice (some ⟨g, 0, none⟩) xs.length cap, .int .i64 (a : Nat), .int .i64 (b : Nat), .int .i64 (p : Nat)] w (PartPost g cap xs w0 a b) := by
  have hs := Lib.hid h
  obtain ⟨B, hB⟩ : ∃ B : Nat, b = B + 1 := ⟨b - 1, by omega⟩
  have hBi : (b : Int) - 1 = (B : Int) := by omega
  obtain ⟨A, hA⟩ : ∃ A : Nat, a + 1 = A := ⟨_, rfl⟩
  have hAi : (a : Int) + 1 = (A : Int) := by omega
  have hbb : Hid (b = B + 1 ∧ a + 1 = A) := Lib.hid ⟨hB, hA⟩
  have q1 : B < b := by omega
  have q2 : a ≤ B := by omega
  have q3 : A ≤ b := by omega
  have q4 : a < A := by omega
  clear hB hA h
  go_enter Tryd.func118, Tryd.ntmps118
  go_upto_region 1 with fail
  go_cut [] (fun wx => Hid (St g cap xs w0 wx))
  case first =>
    have m1 : (0 : Int) ≤ (a : Int) := by omega
    have m2 : (a : Int) < (xs.length : Nat) := by omega
    have m3 : (0 : Int) ≤ (p : Int) := by omega
    have m4 : (p : Int) < (xs.length : Nat) := by omega
    obtain ⟨x, e1⟩ := hs.out.at (i := a) (by omega)
    obtain ⟨y, e2⟩ := hs.out.at (i := p) (by omega)
    have f1 := hs.out.frozen a
    have f2 := hs.out.frozen p
    have hs3 := Lib.hid (hs.out.swap (i := a) (j := p) (by omega) (by omega) e1 e2).drew
    obtain ⟨u, e3⟩ := cell?_setCell_some (p := ⟨g, a, none⟩) (x := .int .u64 y) e2
    go_region
    all_goals
      go_wp2_with fail
      go_meet
      exact hs3
  replace hs := hcut
  clear hcut

  go_upto_block 0 with fail
  go_cut [10] (fun q wx => ∃ i : Nat, q = .int .i64 i ∧ A ≤ i ∧ i ≤ b ∧ Hid (St g cap xs w0 wx))
  case first =>
    go_wp2_with fail
    go_loopw [10] (fun q wr => ∃ i : Nat, q = .int .i64 i ∧ A ≤ i ∧ i ≤ b ∧ Hid (St g cap xs w0 wr)) (fun q _ => b - (intOf q).toNat)
    case atStart => exact ⟨A, by first | rfl | go_num, by omega, by omega, hs⟩
    case round =>
      obtain ⟨i, rfl, i1, i2, hs⟩ := hrel
      by_cases hij : i ≤ B
      · have hd : decide (i ≤ B) = true := decide_eq_true hij
        have k1 : (0 : Int) ≤ (i : Int) := by omega
        have k2 : (i : Int) < (xs.length : Nat) := by omega
        have k3 : (0 : Int) ≤ (a : Int) := by omega
        have k4 : (a : Int) < (xs.length : Nat) := by omega
        obtain ⟨x, e1⟩ := hs.out.at (i := i) (by omega)
        obtain ⟨p, e2⟩ := hs.out.at (i := a) (by omega)
        have hq := lessq x p
        obtain ⟨v, hv⟩ : ∃ v, decide (x < p) = v := ⟨_, rfl⟩
        rw [hv] at hq
        replace hv := Lib.hid hv
        rcases (by cases v <;> simp : v = true ∨ v = false) with rfl | rfl
        · go_wp2_with fail
          go_quiet ((go_at_call 116; exact Calls.quiet_of_same (hq.out _)))
          have hs2 := Lib.hid (hs.out.drewN nq)
          go_wp2_with fail
          go_roundw
          case rel => exact ⟨i + 1, by first | rfl | go_num, by omega, by omega, hs2⟩
          case measure => simp [intOf] <;> omega
        · go_wp2_with fail
          go_quiet ((go_at_call 116; exact Calls.quiet_of_same (hq.out _)))
          have hs2 := Lib.hid (hs.out.drewN nq)
          go_wp2_with fail
          go_meet
          exact ⟨i, rfl, i1, i2, hs2⟩
      · have hd : decide (i ≤ B) = false := decide_eq_false hij
        go_wp2_with fail
        go_quiet (fail)
        have hs2 := Lib.hid (hs.out.drewN nq)
        go_wp2_with fail
        go_meet
        exact ⟨i, rfl, i1, i2, hs2⟩
  obtain ⟨i, rfl, i1, i2, hs⟩ := hcut

  go_upto_block 2 with fail
  go_cut [11] (fun q wx => ∃ j : Nat, q = .int .i64 j ∧ j ≤ B ∧ a ≤ j ∧ Hid (St g cap xs w0 wx))
  case first =>
    go_wp2_with fail
    go_loopw [11] (fun q wr => ∃ j : Nat, q = .int .i64 j ∧ j ≤ B ∧ a ≤ j ∧ Hid (St g cap xs w0 wr)) (fun q _ => (intOf q).toNat)
    case atStart => exact ⟨B, by first | rfl | go_num, by omega, by omega, hs⟩
    case round =>
      obtain ⟨j, rfl, j1, j2, hs⟩ := hrel
      by_cases hij : i ≤ j
      · have hd : decide (i ≤ j) = true := decide_eq_true hij
        have k1 : (0 : Int) ≤ (j : Int) := by omega
        have k2 : (j : Int) < (xs.length : Nat) := by omega
        have k3 : (0 : Int) ≤ (a : Int) := by omega
        have k4 : (a : Int) < (xs.length : Nat) := by omega
        obtain ⟨x, e1⟩ := hs.out.at (i := j) (by omega)
        obtain ⟨p, e2⟩ := hs.out.at (i := a) (by omega)
        have hq := lessq x p
        obtain ⟨v, hv⟩ : ∃ v, decide (x < p) = v := ⟨_, rfl⟩
        rw [hv] at hq
        replace hv := Lib.hid hv
        rcases (by cases v <;> simp : v = false ∨ v = true) with rfl | rfl
        · go_wp2_with fail
          go_quiet ((go_at_call 116; exact Calls.quiet_of_same (hq.out _)))
          have hs2 := Lib.hid (hs.out.drewN nq)
          obtain ⟨J1, hJ⟩ : ∃ J1 : Nat, j = J1 + 1 := ⟨j - 1, by omega⟩
          have hJi : (j : Int) - 1 = (J1 : Int) := by omega
          replace hJ := Lib.hid hJ
          go_wp2_with fail
          go_roundw
          case rel => exact ⟨J1, by first | rfl | go_num, by have := hJ.out; omega, by have := hJ.out; omega, hs2⟩
          case measure => have := hJ.out; simp [intOf] <;> omega
        · go_wp2_with fail
          go_quiet ((go_at_call 116; exact Calls.quiet_of_same (hq.out _)))
          have hs2 := Lib.hid (hs.out.drewN nq)
          go_wp2_with fail
          go_meet
          exact ⟨j, rfl, j1, j2, hs2⟩
      · have hd : decide (i ≤ j) = false := decide_eq_false hij
        go_wp2_with fail
        go_quiet (fail)
        have hs2 := Lib.hid (hs.out.drewN nq)
        go_wp2_with fail
        go_meet
        exact ⟨j, rfl, j1, j2, hs2⟩
  obtain ⟨j, rfl, j1, j2, hs⟩ := hcut
  by_cases hgt : j < i
  · have hd2 : decide (j < i) = true := decide_eq_true hgt
    go_upto_region 8 with fail
    go_cut [] (fun wx => Hid (St g cap xs w0 wx))
    case first =>
      have m1 : (0 : Int) ≤ (j : Int) := by omega
      have m2 : (j : Int) < (xs.length : Nat) := by omega
      have m3 : (0 : Int) ≤ (a : Int) := by omega
      have m4 : (a : Int) < (xs.length : Nat) := by omega
      obtain ⟨x, e1⟩ := hs.out.at (i := j) (by omega)
      obtain ⟨y, e2⟩ := hs.out.at (i := a) (by omega)
      have f1 := hs.out.frozen j
      have f2 := hs.out.frozen a
      have hs3 := Lib.hid (hs.out.swap (i := j) (j := a) (by omega) (by omega) e1 e2).drew
      obtain ⟨u, e3⟩ := cell?_setCell_some (p := ⟨g, j, none⟩) (x := .int .u64 y) e2
      go_region
      all_goals
        go_wp2_with fail
        go_meet
        exact hs3
    replace hs := hcut
    clear hcut
    go_wp2_with fail
    go_ret2
    exact ⟨j, _, rfl, by omega, by omega, hs.out⟩
  · have hd2 : decide (j < i) = false := decide_eq_false hgt
    go_upto_region 10 with fail
    go_cut [] (fun wx => Hid (St g cap xs w0 wx))
    case first =>
      have m1 : (0 : Int) ≤ (i : Int) := by omega
      have m2 : (i : Int) < (xs.length : Nat) := by omega
      have m3 : (0 : Int) ≤ (j : Int) := by omega
      have m4 : (j : Int) < (xs.length : Nat) := by omega
      obtain ⟨x, e1⟩ := hs.out.at (i := i) (by omega)
      obtain ⟨y, e2⟩ := hs.out.at (i := j) (by omega)
      have f1 := hs.out.frozen i
      have f2 := hs.out.frozen j
      have hs3 := Lib.hid (hs.out.swap (i := i) (j := j) (by omega) (by omega) e1 e2).drew
      obtain ⟨u, e3⟩ := cell?_setCell_some (p := ⟨g, i, none⟩) (x := .int .u64 y) e2
      go_region
      all_goals
        go_wp2_with fail
        go_meet
        exact hs3
    replace hs := hcut
    clear hcut
    obtain ⟨J0, hJ⟩ : ∃ J0 : Nat, j = J0 + 1 := ⟨j - 1, by omega⟩
    have hJi : (j : Int) - 1 = (J0 : Int) := by omega
    replace hJ := Lib.hid hJ
    obtain ⟨I0, hI⟩ : ∃ I0 : Nat, i + 1 = I0 := ⟨_, rfl⟩
    have hIi : (i : Int) + 1 = (I0 : Int) := by omega
    replace hI := Lib.hid hI
    have z1 : a < I0 := by have := hI.out; omega
    have z2 : I0 ≤ b := by have := hI.out; omega
    go_upto_block 4 with fail
    go_cut [11] (fun q wx => ∃ j : Nat, q = .int .i64 j ∧ a ≤ j ∧ j < b ∧ Hid (St g cap xs w0 wx))
    case first =>
      go_wp2_with fail
      go_loopg [10, 11] (J0 + 1 - (I0)) (fun k p q wr => ∃ i0 j0 : Nat, p = .int .i64 i0 ∧ q = .int .i64 j0 ∧ a < i0 ∧ i0 ≤ b ∧ a ≤ j0 ∧ j0 < b ∧ k = j0 + 1 - i0 ∧ Hid (St g cap xs w0 wr))
      case atStart => exact ⟨I0, J0, by first | rfl | go_num, by first | rfl | go_num, by omega, by omega, by have := hJ.out; omega, by have := hJ.out; omega, rfl, hs⟩
      case round =>
        obtain ⟨i0, j0, rfl, rfl, i01, i02, j01, j02, hk, hs⟩ := hrel
        replace hk := Lib.hid hk
        go_upto_block 6 with fail
        go_cut [10] (fun q wx => ∃ i : Nat, q = .int .i64 i ∧ i0 ≤ i ∧ i ≤ b ∧ Hid (St g cap xs w0 wx))
        case first =>
          go_wp2_with fail
          go_loopw [10] (fun q wr => ∃ i : Nat, q = .int .i64 i ∧ i0 ≤ i ∧ i ≤ b ∧ Hid (St g cap xs w0 wr)) (fun q _ => b - (intOf q).toNat)
          case atStart => exact ⟨i0, by first | rfl | go_num, by omega, by omega, hs⟩
          case round =>
            obtain ⟨i, rfl, i1, i2, hs⟩ := hrel
            by_cases hij : i ≤ j0
            · have hd : decide (i ≤ j0) = true := decide_eq_true hij
              have k1 : (0 : Int) ≤ (i : Int) := by omega
              have k2 : (i : Int) < (xs.length : Nat) := by omega
              have k3 : (0 : Int) ≤ (a : Int) := by omega
              have k4 : (a : Int) < (xs.length : Nat) := by omega
              obtain ⟨x, e1⟩ := hs.out.at (i := i) (by omega)
              obtain ⟨p, e2⟩ := hs.out.at (i := a) (by omega)
              have hq := lessq x p
              obtain ⟨v, hv⟩ : ∃ v, decide (x < p) = v := ⟨_, rfl⟩
              rw [hv] at hq
              replace hv := Lib.hid hv
              rcases (by cases v <;> simp : v = true ∨ v = false) with rfl | rfl
              · go_wp2_with fail
                go_quiet ((go_at_call 116; exact Calls.quiet_of_same (hq.out _)))
                have hs2 := Lib.hid (hs.out.drewN nq)
                go_wp2_with fail
                go_roundw
                case rel => exact ⟨i + 1, by first | rfl | go_num, by omega, by omega, hs2⟩
                case measure => simp [intOf] <;> omega
              · go_wp2_with fail
                go_quiet ((go_at_call 116; exact Calls.quiet_of_same (hq.out _)))
                have hs2 := Lib.hid (hs.out.drewN nq)
                go_wp2_with fail
                go_meet
                exact ⟨i, rfl, i1, i2, hs2⟩
            · have hd : decide (i ≤ j0) = false := decide_eq_false hij
              go_wp2_with fail
              go_quiet (fail)
              have hs2 := Lib.hid (hs.out.drewN nq)
              go_wp2_with fail
              go_meet
              exact ⟨i, rfl, i1, i2, hs2⟩
        obtain ⟨i, rfl, i1, i2, hs⟩ := hcut

        go_upto_block 8 with fail
        go_cut [11] (fun q wx => ∃ j : Nat, q = .int .i64 j ∧ j ≤ j0 ∧ a ≤ j ∧ Hid (St g cap xs w0 wx))
        case first =>
          go_wp2_with fail
          go_loopw [11] (fun q wr => ∃ j : Nat, q = .int .i64 j ∧ j ≤ j0 ∧ a ≤ j ∧ Hid (St g cap xs w0 wr)) (fun q _ => (intOf q).toNat)
          case atStart => exact ⟨j0, by first | rfl | go_num, by omega, by omega, hs⟩
          case round =>
            obtain ⟨j, rfl, j1, j2, hs⟩ := hrel
            by_cases hij : i ≤ j
            · have hd : decide (i ≤ j) = true := decide_eq_true hij
              have k1 : (0 : Int) ≤ (j : Int) := by omega
              have k2 : (j : Int) < (xs.length : Nat) := by omega
              have k3 : (0 : Int) ≤ (a : Int) := by omega
              have k4 : (a : Int) < (xs.length : Nat) := by omega
              obtain ⟨x, e1⟩ := hs.out.at (i := j) (by omega)
              obtain ⟨p, e2⟩ := hs.out.at (i := a) (by omega)
              have hq := lessq x p
              obtain ⟨v, hv⟩ : ∃ v, decide (x < p) = v := ⟨_, rfl⟩
              rw [hv] at hq
              replace hv := Lib.hid hv
              rcases (by cases v <;> simp : v = false ∨ v = true) with rfl | rfl
              · go_wp2_with fail
                go_quiet ((go_at_call 116; exact Calls.quiet_of_same (hq.out _)))
                have hs2 := Lib.hid (hs.out.drewN nq)
                obtain ⟨J1, hJ⟩ : ∃ J1 : Nat, j = J1 + 1 := ⟨j - 1, by omega⟩
                have hJi : (j : Int) - 1 = (J1 : Int) := by omega
                replace hJ := Lib.hid hJ
                go_wp2_with fail
                go_roundw
                case rel => exact ⟨J1, by first | rfl | go_num, by have := hJ.out; omega, by have := hJ.out; omega, hs2⟩
                case measure => have := hJ.out; simp [intOf] <;> omega
              · go_wp2_with fail
                go_quiet ((go_at_call 116; exact Calls.quiet_of_same (hq.out _)))
                have hs2 := Lib.hid (hs.out.drewN nq)
                go_wp2_with fail
                go_meet
                exact ⟨j, rfl, j1, j2, hs2⟩
            · have hd : decide (i ≤ j) = false := decide_eq_false hij
              go_wp2_with fail
              go_quiet (fail)
              have hs2 := Lib.hid (hs.out.drewN nq)
              go_wp2_with fail
              go_meet
              exact ⟨j, rfl, j1, j2, hs2⟩
        obtain ⟨j, rfl, j1, j2, hs⟩ := hcut
        by_cases hgt : j < i
        · have hd2 : decide (j < i) = true := decide_eq_true hgt
          go_wp2_with fail
          go_meet
          exact ⟨j, rfl, by omega, by omega, hs⟩
        · have hd2 : decide (j < i) = false := decide_eq_false hgt
          go_upto_region 18 with fail
          go_cut [] (fun wx => Hid (St g cap xs w0 wx))
          case first =>
            have m1 : (0 : Int) ≤ (i : Int) := by omega
            have m2 : (i : Int) < (xs.length : Nat) := by omega
            have m3 : (0 : Int) ≤ (j : Int) := by omega
            have m4 : (j : Int) < (xs.length : Nat) := by omega
            obtain ⟨x, e1⟩ := hs.out.at (i := i) (by omega)
            obtain ⟨y, e2⟩ := hs.out.at (i := j) (by omega)
            have f1 := hs.out.frozen i
            have f2 := hs.out.frozen j
            have hs3 := Lib.hid (hs.out.swap (i := i) (j := j) (by omega) (by omega) e1 e2).drew
            obtain ⟨u, e3⟩ := cell?_setCell_some (p := ⟨g, i, none⟩) (x := .int .u64 y) e2
            go_region
            all_goals
              go_wp2_with fail
              go_meet
              exact hs3
          replace hs := hcut
          clear hcut
          obtain ⟨J0, hJ⟩ : ∃ J0 : Nat, j = J0 + 1 := ⟨j - 1, by omega⟩
          have hJi : (j : Int) - 1 = (J0 : Int) := by omega
          replace hJ := Lib.hid hJ
          go_wp2_with fail
          go_roundg (J0 + 1 - (i + 1))
          case measure => have := hJ.out; have := hk.out; omega
          case rel => exact ⟨i + 1, J0, by first | rfl | go_num, by first | rfl | go_num, by omega, by omega, by have := hJ.out; omega, by have := hJ.out; omega, rfl, hs⟩
    obtain ⟨j, rfl, y1, y2, hs⟩ := hcut

    go_upto_region 21 with fail
    go_cut [] (fun wx => Hid (St g cap xs w0 wx))
    case first =>
      have m1 : (0 : Int) ≤ (j : Int) := by omega
      have m2 : (j : Int) < (xs.length : Nat) := by omega
      have m3 : (0 : Int) ≤ (a : Int) := by omega
      have m4 : (a : Int) < (xs.length : Nat) := by omega
      obtain ⟨x, e1⟩ := hs.out.at (i := j) (by omega)
      obtain ⟨y, e2⟩ := hs.out.at (i := a) (by omega)
      have f1 := hs.out.frozen j
      have f2 := hs.out.frozen a
      have hs3 := Lib.hid (hs.out.swap (i := j) (j := a) (by omega) (by omega) e1 e2).drew
      obtain ⟨u, e3⟩ := cell?_setCell_some (p := ⟨g, j, none⟩) (x := .int .u64 y) e2
      go_region
      all_goals
        go_wp2_with fail
        go_meet
        exact hs3
    replace hs := hcut
    clear hcut
    go_wp2_with fail
    go_ret2
    exact ⟨j, _, rfl, by omega, by omega, hs.out⟩
end Go.Proofs.YtgfmfecalhmplaaDoor
