/- IntersectRank: the model, the law. -/
import Derived.Test.YtgkbaenjniapiaaDoorRk3
namespace Go.Proofs.YtgkbaenjniapiaaDoor
open Go.ChangeShapes Go.WideShapes Go.ChangeAt Go.RowKit Go.Shelf Go.Proofs

theorem mem_zero {xs : List Int} (hA : Asc xs) (hz : ∀ z ∈ xs, 0 ≤ z ∧ z < 256) (hl : 0 < xs.length) : memB 0 xs = (xs.getD 0 0 == 0) := by
  cases xs with
  | nil => simp at hl
  | cons x l =>
    show memB 0 (x :: l) = (x == 0)
    have h1 := (List.pairwise_cons.1 hA).1
    have h2 := (hz x (by simp)).1
    by_cases e : x = 0
    · subst e; rw [memB_mk (by simp)]; rfl
    · rw [memB_mk0 (fun h => by
        rcases List.mem_cons.1 h with h | h
        · omega
        · have := h1 0 h; omega)]
      simp [e]
theorem one_row4 (w : World) (x : Int) : Row (w.alloc (.cells #[.int .i64 x] 3)) (w.alloc (.cells #[.int .i64 x] 3)).heap.size (.slice (some ⟨w.heap.size, 0, none⟩) 1 1) [x] := by
  refine ⟨_, 1, rfl, fun _ => ⟨w.heap.size, 0, rfl, by simp, fun i hi => ?_⟩⟩
  simp at hi
  subst hi
  exact cell_new _ _ _
theorem cross_of (s : Int) (xs : List Int) : crossB [s] xs = xs.all (meetB s) := by
  unfold crossB; simp
set_option maxHeartbeats 1000000 in
theorem sp_IntersectRank (n : Int) (lv : Value) (xs : List Int) (S : Nat) (w : World) (hx : Row w S lv xs) (hS : S ≤ w.heap.size) (hl : xs.length ≤ 100000000) :
    Calls Tryd.prog 30 #[.int .i64 n, lv] w (RkPost (rkV n xs) (rkB n xs) w) := by
  have h1 := sp_FamilyIn n lv xs S w hx (by omega)
  obtain ⟨a, cap, rfl, ha⟩ := id hx
  rcases (by cases famB n xs <;> simp : famB n xs = true ∨ famB n xs = false) with hf | hf
  · obtain ⟨n1, n2, hall⟩ := famB_all hf
    have hlt := famB_lt hf
    have hasc := famB_asc hf
    have hlen := famB_len hf
    obtain ⟨p1, p2, p3⟩ := pow_nat n1 n2
    obtain ⟨N, hN⟩ : ∃ N : Nat, 2 ^ n.toNat = N := ⟨_, rfl⟩
    have hNi : (2 : Int) ^ n.toNat = (N : Nat) := by rw [← hN]; simp
    have hn0 : (0 : Int) ≤ n := by omega
    have hn64 : n < 64 := by omega
    have hrk : memB 0 xs = false → lmI xs 8 0 = bsI n.toNat xs N := fun hm => by
      rw [rank_eq (n := n.toNat) (by omega) (fun z hz => by
        obtain ⟨_, _, c, d⟩ := setB_yes (hall z hz)
        exact ⟨c, by rw [hN]; omega⟩) (fun z hz e => memB_no hm (e ▸ hz)), hN]
    rw [hf] at h1
    rw [hN] at p1 p2 p3
    obtain ⟨b0, hb0⟩ : ∃ b0, memB 0 xs = b0 := ⟨_, rfl⟩
    have hB := Lib.hid (show (!b0) = rkB n xs by unfold rkB; rw [hf, hb0]; rfl)
    replace h1 := Lib.hid h1
    replace hN := Lib.hid hN
    replace hall := Lib.hid hall
    replace hlt := Lib.hid hlt
    replace hasc := Lib.hid hasc
    replace hlen := Lib.hid hlen
    replace hf := Lib.hid hf
    replace hrk := Lib.hid hrk
    replace hx := Lib.hid hx
    cases b0 with
    | true =>
      have hV := Lib.hid (show (0 : Int) = rkV n xs by unfold rkV; rw [← hB.out]; rfl)
      have hl0 : 0 < xs.length := List.length_pos_iff.2 (fun e => by rw [e] at hb0; cases hb0)
      obtain ⟨b1, o1, rfl, t1, c1⟩ := ha hl0
      have e1 := fun q => (show (w.drewN q).cell? ⟨b1, o1 + 0, none⟩ = some (.int .i64 (xs.getD 0 0)) from c1 0 hl0)
      have hz0 := mem_zero hasc.out hlt.out hl0
      rw [hb0] at hz0
      have hx0 : xs.getD 0 0 = 0 := by have := hz0.symm; simpa using this
      rw [hx0] at e1
      have hl0i : (0 : Int) < (xs.length : Nat) := by omega
      replace hb0 := Lib.hid hb0
      have hl0c : decide (0 < xs.length) = true := by simp [hl0]
      clear c1 ha hz0 hx0
      go_enter Tryd.func30, Tryd.ntmps30
      go_wp2_with fail
      refine h1.out.mono ?_
      rintro e w1 ⟨rfl, q, rfl⟩
      have e2 := e1 q
      rw [Nat.add_zero] at e2
      go_wp2_with fail
      go_ret2
      exact ⟨by rw [← hV.out, ← hB.out]; rfl, below_drewN (Below.refl _ w) q⟩
    | false =>
      have hV := Lib.hid (show ((bsI n.toNat xs N : Nat) : Int) = rkV n xs by unfold rkV; rw [← hB.out, hrk.out hb0]; rfl)
      have hst : ∀ k : Nat, bsI n.toNat xs (k + 1) = if decide (cntTo (k : Nat) 8 < bsI n.toNat xs k) && xs.all (meetB (k : Nat)) then cntTo (k : Nat) 8 else bsI n.toNat xs k := fun k => rfl
      have hbn : ∀ k : Nat, bsI n.toNat xs k ≤ 8 := fun k => by have := (bs_le n.toNat xs k).1; omega
      have hbz : ((bsI n.toNat xs 0 : Nat) : Int) = n := by show ((n.toNat : Nat) : Int) = n; omega
      replace hbz := Lib.hid hbz
      replace hst := Lib.hid hst
      replace hbn := Lib.hid hbn
      rcases Nat.eq_zero_or_pos xs.length with hl0 | hl0
      · replace hb0 := Lib.hid hb0
        have hl0b : ¬ ((0 : Int) < (xs.length : Nat)) := by omega
        have hl0c : decide (0 < xs.length) = false := by simp [hl0]
        have hl0d : ¬ (0 < xs.length) := by omega
        replace hl0 := Lib.hid hl0
        clear ha
        go_enter Tryd.func30, Tryd.ntmps30
        go_wp2_with fail
        refine h1.out.mono ?_
        rintro e w1 ⟨rfl, q, rfl⟩
        have hbq := Lib.hid (below_drewN (Below.refl w.heap.size w) q)
        go_wp2_with fail
        go_loopw [6, 7] (fun v s wr => ∃ k : Nat, k ≤ N ∧ s = .int .i64 k ∧ v = .int .i64 (bsI n.toNat xs k : Nat) ∧ Hid (Below w.heap.size w wr)) (fun _ s _ => N - (intOf s).toNat)
        case atStart => exact ⟨0, by omega, rfl, by rw [hbz.out], hbq⟩
        case round =>
          obtain ⟨k, hk, rfl, rfl, hbel⟩ := hrel
          have hsz := hbel.out.size
          by_cases hlt2 : k < N
          · have k1 : (0 : Int) ≤ (k : Int) := by omega
            have k2 : (k : Int) < (N : Nat) := by omega
            have hs := hst.out k
            have hb8 := hbn.out k
            have hsize := fun W => l1size (k : Nat) k1 (by omega) W
            have hc8 := cnt_8 (k : Nat)
            rw [cntI_eq ⟨k, by omega⟩] at hsize
            dsimp only at hsize
            have hsp := sp_meets _ _ [(k : Int)] xs _ _ (one_row4 wr (k : Int)) (hx.out.below (hbel.out.alloc hsz (.cells #[.int .i64 (k : Int)] 3)) hS |>.mono (show S ≤ (wr.alloc (.cells #[.int .i64 (k : Int)] 3)).heap.size by rw [World.size_alloc]; omega)) (by simp) hl (fun z hz => by simp at hz; subst hz; exact ⟨k1, by omega⟩) hlt.out
            rw [cross_of] at hsp
            have hb2 := Lib.hid (fun q => below_drewN (hbel.out.alloc hsz (.cells #[.int .i64 (k : Int)] 3)) q)
            obtain ⟨B, hBk⟩ : ∃ B, bsI n.toNat xs k = B := ⟨_, rfl⟩
            obtain ⟨C, hC⟩ : ∃ C, cntTo (k : Nat) 8 = C := ⟨_, rfl⟩
            obtain ⟨b, hbb⟩ : ∃ b, xs.all (meetB (k : Nat)) = b := ⟨_, rfl⟩
            rw [hBk] at hs hb8 ⊢
            rw [hC] at hs hsize hc8
            rw [hbb] at hs hsp
            replace hsize := Lib.hid hsize
            replace hsp := Lib.hid hsp
            replace hBk := Lib.hid hBk
            replace hC := Lib.hid hC
            replace hbb := Lib.hid hbb
            by_cases hcb : C < B
            · have hcb2 : (C : Int) < (B : Int) := by omega
              rw [decide_eq_true hcb, Bool.true_and] at hs
              cases b with
              | true =>
                rw [if_pos rfl] at hs
                replace hs := Lib.hid hs
                go_wp2_with (first | (go_at_call 68; refine (hsize.out _).mono ?_; rintro e w' ⟨rfl, rfl⟩) | (go_at_call 69; refine hsp.out.mono ?_; rintro e w' ⟨rfl, q2, rfl⟩))
                go_roundw
                case rel => exact ⟨k + 1, by omega, by go_num, by rw [hs.out], hb2.out _⟩
                case measure => simp [intOf]; omega
              | false =>
                rw [if_neg (by simp)] at hs
                replace hs := Lib.hid hs
                go_wp2_with (first | (go_at_call 68; refine (hsize.out _).mono ?_; rintro e w' ⟨rfl, rfl⟩) | (go_at_call 69; refine hsp.out.mono ?_; rintro e w' ⟨rfl, q2, rfl⟩))
                go_roundw
                case rel => exact ⟨k + 1, by omega, by go_num, by rw [hs.out], hb2.out _⟩
                case measure => simp [intOf]; omega
            · have hcb2 : ¬ ((C : Int) < (B : Int)) := by omega
              rw [decide_eq_false hcb, Bool.false_and, if_neg (by simp)] at hs
              replace hs := Lib.hid hs
              go_wp2_with (first | (go_at_call 68; refine (hsize.out _).mono ?_; rintro e w' ⟨rfl, rfl⟩))
              go_roundw
              case rel => exact ⟨k + 1, by omega, by go_num, by rw [hs.out], hbel⟩
              case measure => simp [intOf]; omega
          · obtain rfl : k = N := by omega
            have hge : ¬ ((k : Int) < (k : Nat)) := by omega
            obtain ⟨B, hBk⟩ : ∃ B, bsI n.toNat xs k = B := ⟨_, rfl⟩
            rw [hBk] at hV ⊢
            replace hBk := Lib.hid hBk
            go_wp2_with fail
            go_ret2
            exact ⟨by rw [← hV.out, ← hB.out]; rfl, hbel.out⟩
      · obtain ⟨b1, o1, rfl, t1, c1⟩ := ha hl0
        have e1 := fun q => (show (w.drewN q).cell? ⟨b1, o1 + 0, none⟩ = some (.int .i64 (xs.getD 0 0)) from c1 0 hl0)
        have hz0 := mem_zero hasc.out hlt.out hl0
        rw [hb0] at hz0
        obtain ⟨x0, hx0⟩ : ∃ x0, xs.getD 0 0 = x0 := ⟨_, rfl⟩
        rw [hx0] at e1 hz0
        have hx1 : (x0 == 0) = false := hz0.symm
        have hx2 : x0 ≠ 0 := by simpa using hx1
        have hl0i : (0 : Int) < (xs.length : Nat) := by omega
        replace hb0 := Lib.hid hb0
        replace hx0 := Lib.hid hx0
        have hl0c : decide (0 < xs.length) = true := by simp [hl0]
        clear c1 ha hz0
        go_enter Tryd.func30, Tryd.ntmps30
        go_wp2_with fail
        refine h1.out.mono ?_
        rintro e w1 ⟨rfl, q, rfl⟩
        have e2 := e1 q
        rw [Nat.add_zero] at e2
        have hbq := Lib.hid (below_drewN (Below.refl w.heap.size w) q)
        go_wp2_with fail
        go_loopw [6, 7] (fun v s wr => ∃ k : Nat, k ≤ N ∧ s = .int .i64 k ∧ v = .int .i64 (bsI n.toNat xs k : Nat) ∧ Hid (Below w.heap.size w wr)) (fun _ s _ => N - (intOf s).toNat)
        case atStart => exact ⟨0, by omega, rfl, by rw [hbz.out], hbq⟩
        case round =>
          obtain ⟨k, hk, rfl, rfl, hbel⟩ := hrel
          have hsz := hbel.out.size
          by_cases hlt2 : k < N
          · have k1 : (0 : Int) ≤ (k : Int) := by omega
            have k2 : (k : Int) < (N : Nat) := by omega
            have hs := hst.out k
            have hb8 := hbn.out k
            have hsize := fun W => l1size (k : Nat) k1 (by omega) W
            have hc8 := cnt_8 (k : Nat)
            rw [cntI_eq ⟨k, by omega⟩] at hsize
            dsimp only at hsize
            have hsp := sp_meets _ _ [(k : Int)] xs _ _ (one_row4 wr (k : Int)) (hx.out.below (hbel.out.alloc hsz (.cells #[.int .i64 (k : Int)] 3)) hS |>.mono (show S ≤ (wr.alloc (.cells #[.int .i64 (k : Int)] 3)).heap.size by rw [World.size_alloc]; omega)) (by simp) hl (fun z hz => by simp at hz; subst hz; exact ⟨k1, by omega⟩) hlt.out
            rw [cross_of] at hsp
            have hb2 := Lib.hid (fun q => below_drewN (hbel.out.alloc hsz (.cells #[.int .i64 (k : Int)] 3)) q)
            obtain ⟨B, hBk⟩ : ∃ B, bsI n.toNat xs k = B := ⟨_, rfl⟩
            obtain ⟨C, hC⟩ : ∃ C, cntTo (k : Nat) 8 = C := ⟨_, rfl⟩
            obtain ⟨b, hbb⟩ : ∃ b, xs.all (meetB (k : Nat)) = b := ⟨_, rfl⟩
            rw [hBk] at hs hb8 ⊢
            rw [hC] at hs hsize hc8
            rw [hbb] at hs hsp
            replace hsize := Lib.hid hsize
            replace hsp := Lib.hid hsp
            replace hBk := Lib.hid hBk
            replace hC := Lib.hid hC
            replace hbb := Lib.hid hbb
            by_cases hcb : C < B
            · have hcb2 : (C : Int) < (B : Int) := by omega
              rw [decide_eq_true hcb, Bool.true_and] at hs
              cases b with
              | true =>
                rw [if_pos rfl] at hs
                replace hs := Lib.hid hs
                go_wp2_with (first | (go_at_call 68; refine (hsize.out _).mono ?_; rintro e w' ⟨rfl, rfl⟩) | (go_at_call 69; refine hsp.out.mono ?_; rintro e w' ⟨rfl, q2, rfl⟩))
                go_roundw
                case rel => exact ⟨k + 1, by omega, by go_num, by rw [hs.out], hb2.out _⟩
                case measure => simp [intOf]; omega
              | false =>
                rw [if_neg (by simp)] at hs
                replace hs := Lib.hid hs
                go_wp2_with (first | (go_at_call 68; refine (hsize.out _).mono ?_; rintro e w' ⟨rfl, rfl⟩) | (go_at_call 69; refine hsp.out.mono ?_; rintro e w' ⟨rfl, q2, rfl⟩))
                go_roundw
                case rel => exact ⟨k + 1, by omega, by go_num, by rw [hs.out], hb2.out _⟩
                case measure => simp [intOf]; omega
            · have hcb2 : ¬ ((C : Int) < (B : Int)) := by omega
              rw [decide_eq_false hcb, Bool.false_and, if_neg (by simp)] at hs
              replace hs := Lib.hid hs
              go_wp2_with (first | (go_at_call 68; refine (hsize.out _).mono ?_; rintro e w' ⟨rfl, rfl⟩))
              go_roundw
              case rel => exact ⟨k + 1, by omega, by go_num, by rw [hs.out], hbel⟩
              case measure => simp [intOf]; omega
          · obtain rfl : k = N := by omega
            have hge : ¬ ((k : Int) < (k : Nat)) := by omega
            obtain ⟨B, hBk⟩ : ∃ B, bsI n.toNat xs k = B := ⟨_, rfl⟩
            rw [hBk] at hV ⊢
            replace hBk := Lib.hid hBk
            go_wp2_with fail
            go_ret2
            exact ⟨by rw [← hV.out, ← hB.out]; rfl, hbel.out⟩
  · have hB := Lib.hid (show false = rkB n xs by unfold rkB; rw [hf, Bool.false_and])
    have hV := Lib.hid (show (0 : Int) = rkV n xs by unfold rkV; rw [← hB.out]; rfl)
    rw [hf] at h1
    replace h1 := Lib.hid h1
    replace hf := Lib.hid hf
    replace hx := Lib.hid hx
    go_enter Tryd.func30, Tryd.ntmps30
    go_wp2_with fail
    refine h1.out.mono ?_
    rintro e w1 ⟨rfl, q, rfl⟩
    go_wp2_with fail
    go_ret2
    exact ⟨by rw [← hV.out, ← hB.out]; rfl, below_drewN (Below.refl _ w) q⟩
end Go.Proofs.YtgkbaenjniapiaaDoor
