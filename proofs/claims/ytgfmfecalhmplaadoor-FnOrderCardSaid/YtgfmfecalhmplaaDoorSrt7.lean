/- A list of sets sorted in place: a few steps of insertion. -/
import Derived.Test.YtgfmfecalhmplaaDoorSrt6
namespace Go.Proofs.YtgfmfecalhmplaaDoor
open Go.ChangeShapes Go.WideShapes Go.ChangeAt Go.RowKit Go.Proofs

/-- a bool, and the state. -/
def BoolSt (g cap : Nat) (xs : List Int) (w0 : World) (e : Ending) (w' : World) : Prop := (∃ v, e = .returned (.bool v)) ∧ St g cap xs w0 w'
set_option maxHeartbeats 8000000 in
set_option maxRecDepth 100000 in
theorem partial_st {g cap : Nat} {xs : List Int} {w0 w : World} (h : St g cap xs w0 w) (a b : Nat) (hl : xs.length ≤ 1000) (hb : b ≤ xs.length) (hab : a < b) :
    Calls Tryd.prog 115 #[.slice (some ⟨g, 0, none⟩) xs.length cap, .int .i64 (a : Nat), .int .i64 (b : Nat)] w (BoolSt g cap xs w0) := by
  have hs := Lib.hid h
  obtain ⟨L, hL⟩ : ∃ L : Nat, b - a = L := ⟨_, rfl⟩
  have hLi : (b : Int) - (a : Int) = (L : Int) := by omega
  replace hL := Lib.hid hL
  clear h
  go_enter Tryd.func115, Tryd.ntmps115
  go_wp2_with fail
  go_loopg [7, 8] 5 (fun k p q wr => ∃ i j : Nat, p = .int .i64 i ∧ q = .int .i64 j ∧ a + 1 ≤ i ∧ i ≤ b ∧ j ≤ 5 ∧ k = 5 - j ∧ Hid (St g cap xs w0 wr))
  case atStart => exact ⟨a + 1, 0, by first | rfl | go_num, by first | rfl | go_num, by omega, by omega, by omega, rfl, hs⟩
  case round =>
    obtain ⟨i0, jj, rfl, rfl, i01, i02, jj5, hk, hs⟩ := hrel
    replace hk := Lib.hid hk
    by_cases hjj : jj < 5
    · have hjd : decide (jj < 5) = true := decide_eq_true hjj
      have hji : (jj : Int) < 5 := by omega
      go_upto_block 2 with fail
      go_cut [7] (fun q wx => ∃ i : Nat, q = .int .i64 i ∧ a + 1 ≤ i ∧ i ≤ b ∧ Hid (St g cap xs w0 wx))
      case first =>
        go_wp2_with fail
        go_loopw [7] (fun q wr => ∃ i : Nat, q = .int .i64 i ∧ a + 1 ≤ i ∧ i ≤ b ∧ Hid (St g cap xs w0 wr)) (fun q _ => b - (intOf q).toNat)
        case atStart => exact ⟨i0, rfl, i01, i02, hs⟩
        case round =>
          obtain ⟨i, rfl, i1, i2, hs⟩ := hrel
          by_cases hi : i < b
          · have hid : decide (i < b) = true := decide_eq_true hi
            obtain ⟨J, hJ⟩ : ∃ J : Nat, i = J + 1 := ⟨i - 1, by omega⟩
            have hJw : IntKind.i64.wrap ((i : Int) - 1) = (J : Int) := by rw [IntKind.wrap_i64]; omega
            have hJi : (i : Int) - 1 = (J : Int) := by omega
            have hJx : J < xs.length := by omega
            have hjx : i < xs.length := by omega
            have k1 : (0 : Int) ≤ (i : Int) := by omega
            have k2 : (i : Int) < (xs.length : Nat) := by omega
            have k3 : (0 : Int) ≤ (J : Int) := by omega
            have k4 : (J : Int) < (xs.length : Nat) := by omega
            replace hJ := Lib.hid hJ
            obtain ⟨x, e1⟩ := hs.out.at (i := i) hjx
            obtain ⟨y, e2⟩ := hs.out.at (i := J) hJx
            have hq := lessq x y
            obtain ⟨v, hv⟩ : ∃ v, decide (x < y) = v := ⟨_, rfl⟩
            rw [hv] at hq
            replace hv := Lib.hid hv
            rcases (by cases v <;> simp : v = false ∨ v = true) with rfl | rfl
            · go_wp2_with fail
              go_quiet ((go_at_call 116; exact Calls.quiet_of_same (hq.out _)))
              have hs2 := Lib.hid (hs.out.drewN nq)
              go_wp2_with fail
              go_roundw
              case rel => exact ⟨i + 1, by first | rfl | go_num, by omega, by omega, hs2⟩
              case measure => simp [intOf] <;> omega
            · go_wp2_with fail
              go_quiet ((go_at_call 116; exact Calls.quiet_of_same (hq.out _)))
              have hs2 := Lib.hid (hs.out.drewN nq)
              go_wp2_with fail
              go_meet
              exact ⟨i, rfl, i1, i2, hs2⟩
          · have hid : decide (i < b) = false := decide_eq_false hi
            go_wp2_with fail
            go_quiet (fail)
            have hs2 := Lib.hid (hs.out.drewN nq)
            go_wp2_with fail
            go_meet
            exact ⟨i, rfl, i1, i2, hs2⟩
      obtain ⟨i, rfl, i1, i2, hs⟩ := hcut
      by_cases hib : i = b
      · subst hib
        go_wp2_with fail
        go_ret
        exact ⟨⟨_, rfl⟩, hs.out⟩
      · have hid : ((i : Int) == (b : Int)) = false := by rw [beq_eq_false_iff_ne]; omega
        have hidn : (i == b) = false := by rw [beq_eq_false_iff_ne]; omega
        have hidd : decide (i = b) = false := decide_eq_false hib
        have hine : ¬ (i : Int) = (b : Int) := by omega
        have hilt : i < b := by omega
        by_cases hL50 : L < 50
        · have hLd : decide (L < 50) = true := decide_eq_true hL50
          have hLz : (L : Int) < 50 := by omega
          go_wp2_with fail
          go_ret
          exact ⟨⟨_, rfl⟩, hs.out⟩
        · have hLd : decide (L < 50) = false := decide_eq_false hL50
          have hLz : ¬ (L : Int) < 50 := by omega
          go_upto_region 11 with fail
          go_cut [] (fun wx => Hid (St g cap xs w0 wx))
          case first =>
            obtain ⟨J, hJ⟩ : ∃ J : Nat, i = J + 1 := ⟨i - 1, by omega⟩
            have hJw : IntKind.i64.wrap ((i : Int) - 1) = (J : Int) := by rw [IntKind.wrap_i64]; omega
            have hJi : (i : Int) - 1 = (J : Int) := by omega
            have hJx : J < xs.length := by omega
            have hjx : i < xs.length := by omega
            have k1 : (0 : Int) ≤ (i : Int) := by omega
            have k2 : (i : Int) < (xs.length : Nat) := by omega
            have k3 : (0 : Int) ≤ (J : Int) := by omega
            have k4 : (J : Int) < (xs.length : Nat) := by omega
            replace hJ := Lib.hid hJ
            obtain ⟨x, e1⟩ := hs.out.at (i := i) hjx
            obtain ⟨y, e2⟩ := hs.out.at (i := J) hJx
            have f1 := hs.out.frozen i
            have f2 := hs.out.frozen J
            have hs3 := Lib.hid (hs.out.swap (i := i) (j := J) hjx hJx e1 e2).drew
            obtain ⟨u, e3⟩ := cell?_setCell_some (p := ⟨g, i, none⟩) (x := .int .u64 y) e2
            go_region
            all_goals
              go_wp2_with fail
              go_meet
              exact hs3
          replace hs := hcut
          clear hcut
          go_upto_if 61 with fail
          go_cut [] (fun wx => Hid (St g cap xs w0 wx))
          case first =>
            obtain ⟨I0, hI0⟩ : ∃ I0 : Nat, i = I0 + 1 := ⟨i - 1, by omega⟩
            have hI0i : (i : Int) - 1 = (I0 : Int) := by omega
            have hI0b : I0 < b := by omega
            replace hI0 := Lib.hid hI0
            by_cases h2 : 2 ≤ (i : Int) - (a : Int)
            · go_wp2_with fail
              go_loopw [9] (fun q wr => ∃ j : Nat, q = .int .i64 j ∧ 0 ≤ j ∧ j < b ∧ Hid (St g cap xs w0 wr)) (fun q _ => (intOf q).toNat)
              case atStart => exact ⟨I0, by first | rfl | go_num, by omega, hI0b, hs⟩
              case round =>
                obtain ⟨j, rfl, j1, j2, hs⟩ := hrel
                by_cases hj : 1 ≤ j
                · have hjd : decide (1 ≤ j) = true := decide_eq_true hj
                  obtain ⟨J, hJ⟩ : ∃ J : Nat, j = J + 1 := ⟨j - 1, by omega⟩
                  have hJw : IntKind.i64.wrap ((j : Int) - 1) = (J : Int) := by rw [IntKind.wrap_i64]; omega
                  have hJi : (j : Int) - 1 = (J : Int) := by omega
                  have hJx : J < xs.length := by omega
                  have hjx : j < xs.length := by omega
                  have k1 : (0 : Int) ≤ (j : Int) := by omega
                  have k2 : (j : Int) < (xs.length : Nat) := by omega
                  have k3 : (0 : Int) ≤ (J : Int) := by omega
                  have k4 : (J : Int) < (xs.length : Nat) := by omega
                  replace hJ := Lib.hid hJ
                  obtain ⟨x, e1⟩ := hs.out.at (i := j) hjx
                  obtain ⟨y, e2⟩ := hs.out.at (i := J) hJx
                  have hq := lessq x y
                  obtain ⟨v, hv⟩ : ∃ v, decide (x < y) = v := ⟨_, rfl⟩
                  rw [hv] at hq
                  replace hv := Lib.hid hv
                  rcases (by cases v <;> simp : v = true ∨ v = false) with rfl | rfl
                  · go_wp2_with fail
                    go_quiet ((go_at_call 116; exact Calls.quiet_of_same (hq.out _)))
                    have hs2 := hs.out.drewN nq
                    have e1' : (wr.drewN nq).cell? ⟨g, j, none⟩ = some (.int .u64 x) := e1
                    have e2' : (wr.drewN nq).cell? ⟨g, J, none⟩ = some (.int .u64 y) := e2
                    clear hs e1 e2
                    generalize wr.drewN nq = wq at *
                    have f1 := hs2.frozen j
                    have f2 := hs2.frozen J
                    have hs3 := Lib.hid (hs2.swap (i := j) (j := J) hjx hJx e1' e2').drew
                    obtain ⟨u, e3⟩ := cell?_setCell_some (p := ⟨g, j, none⟩) (x := .int .u64 y) e2'
                    clear hs2
                    go_wp2_with fail
                    go_region
                    all_goals
                      go_wp2_with fail
                      go_roundw
                      case rel => exact ⟨J, by first | rfl | go_num, by have := hJ.out; omega, by have := hJ.out; omega, hs3⟩
                      case measure => have := hJ.out; simp [intOf] <;> omega
                  · go_wp2_with fail
                    go_quiet ((go_at_call 116; exact Calls.quiet_of_same (hq.out _)))
                    have hs2 := Lib.hid (hs.out.drewN nq)
                    go_wp2_with fail
                    go_meet
                    exact hs2
                · have hjd : decide (1 ≤ j) = false := decide_eq_false hj
                  go_wp2_with fail
                  go_meet
                  exact hs
            · go_wp2_with fail
              go_meet
              exact hs
          replace hs := hcut
          clear hcut
          by_cases h2 : 2 ≤ (b : Int) - (i : Int)
          · go_wp2_with fail
            go_loopw [10] (fun q wr => ∃ j : Nat, q = .int .i64 j ∧ 1 ≤ j ∧ j ≤ b ∧ Hid (St g cap xs w0 wr)) (fun q _ => b - (intOf q).toNat)
            case atStart => exact ⟨i + 1, by first | rfl | go_num, by omega, by omega, hs⟩
            case round =>
              obtain ⟨j, rfl, j1, j2, hs⟩ := hrel
              by_cases hj : j < b
              · have hjd : decide (j < b) = true := decide_eq_true hj
                obtain ⟨J, hJ⟩ : ∃ J : Nat, j = J + 1 := ⟨j - 1, by omega⟩
                have hJw : IntKind.i64.wrap ((j : Int) - 1) = (J : Int) := by rw [IntKind.wrap_i64]; omega
                have hJi : (j : Int) - 1 = (J : Int) := by omega
                have hJx : J < xs.length := by omega
                have hjx : j < xs.length := by omega
                have k1 : (0 : Int) ≤ (j : Int) := by omega
                have k2 : (j : Int) < (xs.length : Nat) := by omega
                have k3 : (0 : Int) ≤ (J : Int) := by omega
                have k4 : (J : Int) < (xs.length : Nat) := by omega
                replace hJ := Lib.hid hJ
                obtain ⟨x, e1⟩ := hs.out.at (i := j) hjx
                obtain ⟨y, e2⟩ := hs.out.at (i := J) hJx
                have hq := lessq x y
                obtain ⟨v, hv⟩ : ∃ v, decide (x < y) = v := ⟨_, rfl⟩
                rw [hv] at hq
                replace hv := Lib.hid hv
                rcases (by cases v <;> simp : v = true ∨ v = false) with rfl | rfl
                · go_wp2_with fail
                  go_quiet ((go_at_call 116; exact Calls.quiet_of_same (hq.out _)))
                  have hs2 := hs.out.drewN nq
                  have e1' : (wr.drewN nq).cell? ⟨g, j, none⟩ = some (.int .u64 x) := e1
                  have e2' : (wr.drewN nq).cell? ⟨g, J, none⟩ = some (.int .u64 y) := e2
                  clear hs e1 e2
                  generalize wr.drewN nq = wq at *
                  have f1 := hs2.frozen j
                  have f2 := hs2.frozen J
                  have hs3 := Lib.hid (hs2.swap (i := j) (j := J) hjx hJx e1' e2').drew
                  obtain ⟨u, e3⟩ := cell?_setCell_some (p := ⟨g, j, none⟩) (x := .int .u64 y) e2'
                  clear hs2
                  go_wp2_with fail
                  go_region
                  all_goals
                    go_wp2_with fail
                    go_roundw
                    case rel => exact ⟨j + 1, by first | rfl | go_num, by have := hJ.out; omega, by have := hJ.out; omega, hs3⟩
                    case measure => have := hJ.out; simp [intOf] <;> omega
                · go_wp2_with fail
                  go_quiet ((go_at_call 116; exact Calls.quiet_of_same (hq.out _)))
                  have hs2 := Lib.hid (hs.out.drewN nq)
                  go_wp2_with fail
                  go_roundg (5 - (jj + 1))
                  case measure => have := hk.out; omega
                  case rel => exact ⟨i, jj + 1, by first | rfl | go_num, by first | rfl | go_num, i1, i2, by omega, rfl, hs2⟩
              · have hjd : decide (j < b) = false := decide_eq_false hj
                go_wp2_with fail
                go_roundg (5 - (jj + 1))
                case measure => have := hk.out; omega
                case rel => exact ⟨i, jj + 1, by first | rfl | go_num, by first | rfl | go_num, i1, i2, by omega, rfl, hs⟩
          · go_wp2_with fail
            go_roundg (5 - (jj + 1))
            case measure => have := hk.out; omega
            case rel => exact ⟨i, jj + 1, by first | rfl | go_num, by first | rfl | go_num, i1, i2, by omega, rfl, hs⟩
    · have hjd : decide (jj < 5) = false := decide_eq_false hjj
      have hji : ¬ (jj : Int) < 5 := by omega
      go_wp2_with fail
      go_ret
      exact ⟨⟨_, rfl⟩, hs.out⟩
end Go.Proofs.YtgfmfecalhmplaaDoor
