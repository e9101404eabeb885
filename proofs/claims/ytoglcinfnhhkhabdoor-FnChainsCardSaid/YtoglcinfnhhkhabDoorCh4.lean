/- The model's chain; the exact law of ChainOf. -/
import Derived.Test.YtoglcinfnhhkhabDoorCh3
import Derived.Test.YtoglcinfnhhkhabDoorCp4
namespace Go.Proofs.YtoglcinfnhhkhabDoor
open Go.ChangeShapes Go.WideShapes Go.ChangeAt Go.RowKit Go.Proofs

theorem pow_at {k : Nat} (h : k ≤ 7) : wrap64 (2 ^ k) = 2 ^ k ∧ (1 : Int) ≤ 2 ^ k ∧ (2 : Int) ^ k ≤ 128 := by
  have := pow8 (p := (k : Nat)) (by omega) (by omega)
  simpa using this
set_option maxHeartbeats 8000000 in
theorem l5chain_at (N : Nat) (s : Int) (w : World) (h1 : 1 ≤ N) (h8 : N ≤ 8) (s1 : 0 ≤ s) (s2 : s < 256) (s3 : s < 2 ^ N) :
    Calls Tryd.prog 16 #[.int .i64 (N : Nat), .int .i64 s] w (IntsPost (chnL N s) w) := by
  have hp := Lib.hid (fun W => l5pairs_at N s W h8 s1 s2)
  have n1 : (1 : Int) ≤ (N : Nat) := by omega
  have n8 : (N : Int) ≤ 8 := by omega
  have hend := (chn_facts h8 s1 s3).1
  go_enter Tryd.func16, Tryd.ntmps16
  go_wp2_with (first | (go_at_call 29; refine (hp.out _).mono ?_; rintro e w1 ⟨v, rfl, hO, hb1⟩; obtain ⟨pa, pc, rfl⟩ := hO.form))
  have hPl := pr_len s N N
  obtain ⟨P, hP⟩ : ∃ P, pairL s N N = P := ⟨_, rfl⟩
  rw [hP] at hO hPl hend ⊢
  have hrw := hO.own.row
  rw [hPl]
  obtain ⟨ra, rc, hre, hrow⟩ := hrw
  cases hre
  rw [hPl] at hrow
  have hzw := hb1.size
  replace hP := Lib.hid hP
  replace hO := Lib.hid hO
  replace hrow := Lib.hid hrow
  replace hend := Lib.hid hend
  replace hb1 := Lib.hid hb1
  go_loopw [6, 7] (fun x i wr => wr = w1 ∧ ∃ k : Nat, k ≤ N ∧ i = .int .i64 (k : Nat) ∧ x = .int .i64 (mcI s P k)) (fun _ i _ => N - (intOf i).toNat)
  case atStart => exact ⟨rfl, 0, by omega, rfl, rfl⟩
  case round =>
    obtain ⟨rfl, k, hk, rfl, rfl⟩ := hrel
    have hbd := mc_bd s P k
    have hp2 : (2 : Int) ^ k ≤ 256 := by
      have : 2 ^ k ≤ 2 ^ 8 := Nat.pow_le_pow_right (by omega) (show k ≤ 8 by omega)
      have h := Int.ofNat_le.2 this
      simpa using h
    by_cases hkN : k < N
    · obtain ⟨g, off, rfl, hg1, hgc⟩ := hrow.out (by omega)
      have k1 : (0 : Int) ≤ (k : Int) := by omega
      have k2 : (k : Int) < (N : Nat) := by omega
      have k7 : (k : Int) ≤ 7 := by omega
      obtain ⟨pw, _, _⟩ := pow_at (k := k) (by omega)
      have e1 := hgc k (by omega)
      have hst : mcI s P (k + 1) = if 0 ≤ P.getD k 0 ∧ hasB s (k : Nat) = true then mcI s P k + 2 ^ k else mcI s P k := rfl
      obtain ⟨y, hy⟩ : ∃ y, P.getD k 0 = y := ⟨_, rfl⟩
      obtain ⟨X, hX⟩ : ∃ X, mcI s P k = X := ⟨_, rfl⟩
      obtain ⟨z, hz⟩ : ∃ z, (2 : Int) ^ k = z := ⟨_, rfl⟩
      rw [hy] at e1 hst
      rw [hX, hz] at hst hbd
      rw [hz] at pw hp2
      rw [hX]
      have hhas := fun W => l1has s (k : Nat) s1 s2 k1 k7 W
      obtain ⟨hb, hhb⟩ : ∃ b, hasB s (k : Nat) = b := ⟨_, rfl⟩
      rw [hhb] at hhas hst
      replace hhas := Lib.hid hhas
      replace hhb := Lib.hid hhb
      replace hy := Lib.hid hy
      replace hX := Lib.hid hX
      clear hgc
      by_cases hpos : 0 ≤ y
      · rcases (by cases hb <;> simp : hb = true ∨ hb = false) with rfl | rfl
        · rw [if_pos ⟨hpos, rfl⟩] at hst
          replace hst := Lib.hid hst
          go_wp2_with (first | (go_at_call 30; refine (hhas.out _).mono ?_; rintro e w' ⟨rfl, rfl⟩))
          go_roundw
          case rel => exact ⟨trivial, k + 1, by omega, by first | rfl | go_num, by rw [hst.out]⟩
          case measure => simp [intOf]; omega
        · rw [if_neg (by simp)] at hst
          replace hst := Lib.hid hst
          go_wp2_with (first | (go_at_call 30; refine (hhas.out _).mono ?_; rintro e w' ⟨rfl, rfl⟩))
          go_roundw
          case rel => exact ⟨trivial, k + 1, by omega, by first | rfl | go_num, by rw [hst.out]⟩
          case measure => simp [intOf]; omega
      · rw [if_neg (fun h => hpos h.1)] at hst
        replace hst := Lib.hid hst
        go_wp2_with (first | (go_at_call 30; refine (hhas.out _).mono ?_; rintro e w' ⟨rfl, rfl⟩))
        go_roundw
        case rel => exact ⟨trivial, k + 1, by omega, by first | rfl | go_num, by rw [hst.out]⟩
        case measure => simp [intOf]; omega
    · obtain rfl : k = N := by omega
      obtain ⟨X, hX⟩ : ∃ X, mcI s P k = X := ⟨_, rfl⟩
      rw [hX] at hend hbd ⊢
      replace hX := Lib.hid hX
      have hX0 := hbd.1
      have hX2 : X < 256 := by omega
      obtain ⟨W0, rfl⟩ : ∃ W0, W0 = wr := ⟨_, rfl⟩
      have hO0 := Lib.hid (show OwnL (W0.alloc (.cells #[.int .i64 X] 3)) W0.heap.size (.slice (some ⟨W0.heap.size, 0, none⟩) 1 1) (mlI P X 0).2 from (ownN_heap (xs := [X]) (N := 1) (heap_alloc_new W0 (.cells #[.int .i64 X] 3)) rfl (by omega) (Nat.le_refl _)).toL)
      go_wp2_with fail
      go_loopw [6, 8, 9] (fun x o i wq => ∃ j : Nat, j ≤ k ∧ i = .int .i64 (j : Nat) ∧ x = .int .i64 (mlI P X j).1 ∧ Hid (OwnL wq W0.heap.size o (mlI P X j).2) ∧ Hid (Below W0.heap.size W0 wq)) (fun _ _ i _ => k - (intOf i).toNat)
      case atStart => exact ⟨0, by omega, rfl, rfl, hO0, Lib.hid ((Below.refl _ W0).alloc (Nat.le_refl _) _)⟩
      case round =>
        obtain ⟨j, hj, rfl, rfl, hown, hkeep⟩ := hrel
        have hsz := hkeep.out.size
        have hbd2 := ml_bd P X hX0 j
        have hp3 : (2 : Int) ^ j ≤ 256 := by
          have : 2 ^ j ≤ 2 ^ 8 := Nat.pow_le_pow_right (by omega) (show j ≤ 8 by omega)
          have h := Int.ofNat_le.2 this
          simpa using h
        by_cases hjk : j < k
        · obtain ⟨g, off, rfl, hg1, hgc⟩ := hrow.out (by omega)
          have j1 : (0 : Int) ≤ (j : Int) := by omega
          have j2 : (j : Int) < (k : Nat) := by omega
          have j7 : (j : Int) ≤ 7 := by omega
          obtain ⟨pw, _, _⟩ := pow_at (k := j) (by omega)
          have e1 := (hkeep.out.cell (p := ⟨g, off + j, none⟩) hg1).trans (hgc j (by omega))
          have hst : mlI P X (j + 1) = if P.getD j 0 < 0 then ((mlI P X j).1 + 2 ^ j, (mlI P X j).2 ++ [(mlI P X j).1 + 2 ^ j]) else mlI P X j := rfl
          have hll := ml_len P X j
          obtain ⟨y, hy⟩ : ∃ y, P.getD j 0 = y := ⟨_, rfl⟩
          obtain ⟨z, hz⟩ : ∃ z, (2 : Int) ^ j = z := ⟨_, rfl⟩
          obtain ⟨m, hm⟩ : ∃ m, mlI P X j = m := ⟨_, rfl⟩
          obtain ⟨mx, ml⟩ := m
          rw [hm] at hst hbd2 hown hll ⊢
          rw [hz] at hst hbd2 pw hp3
          rw [hy] at e1 hst
          dsimp only at hst hbd2 hown hll ⊢
          obtain ⟨oa, oc, rfl⟩ := hown.out.form
          replace hm := Lib.hid hm
          replace hy := Lib.hid hy
          clear hgc
          by_cases hneg : y < 0
          · rw [if_pos hneg] at hst
            have hw : wrap64 (mx + z) = mx + z := by unfold wrap64; omega
            obtain ⟨t, ht⟩ : ∃ t, mx + z = t := ⟨_, rfl⟩
            rw [ht] at hst hw
            have hlen1 : ml.length ≤ 1073741824 := by omega
            have hB1 : W0.heap.size ≤ (wr.alloc (.cells #[.int .i64 t] 3)).heap.size := by rw [World.size_alloc]; omega
            replace hst := Lib.hid hst
            go_wp2_with (at_builtin; refine app_int rfl _ _ rfl W0.heap.size _ ml rfl (hown.out.alloc _) t wr.heap.size rfl (cell_new _ _ _) hlen1 hB1 ?_; intro v' w2 hown1 hb2)
            have hk2 := Lib.hid ((hkeep.out.alloc hsz _).trans hb2)
            replace hown1 := Lib.hid hown1
            go_roundw
            case rel => exact ⟨j + 1, by omega, by first | rfl | go_num, by rw [hst.out], by rw [hst.out]; exact hown1, hk2⟩
            case measure => simp [intOf]; omega
          · rw [if_neg hneg] at hst
            replace hst := Lib.hid hst
            go_wp2_with fail
            go_roundw
            case rel => exact ⟨j + 1, by omega, by first | rfl | go_num, by rw [hst.out], by rw [hst.out]; exact hown, hkeep⟩
            case measure => simp [intOf]; omega
        · obtain rfl : j = k := by omega
          have hown2 := hown.out
          rw [hend.out] at hown2
          replace hown2 := Lib.hid hown2
          clear hown
          go_wp2_with fail
          go_ret
          exact ⟨_, rfl, hown2.out.mono hzw, hb1.out.trans (hkeep.out.mono hzw)⟩
theorem chn_len {N : Nat} {s : Int} (h8 : N ≤ 8) (s1 : 0 ≤ s) (s2 : s < 2 ^ N) : (chnL N s).length ≤ 9 := (chn_facts h8 s1 s2).2.2
/-- a set's chain, or nothing. -/
def chnI (n s : Int) : List Int := if setB n s then chnL n.toNat s else []
theorem chnI_len (n s : Int) : (chnI n s).length ≤ 1000000 := by
  unfold chnI
  split
  · rename_i h
    obtain ⟨n1, n2, h1, h2⟩ := setB_yes h
    have := chn_len (N := n.toNat) (s := s) (by omega) h1 h2
    omega
  · simp
end Go.Proofs.YtoglcinfnhhkhabDoor
