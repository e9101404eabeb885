/- The exact law of sets of a rank. -/
import Derived.Test.YtgimceanhmhgkaaDoorLawsB
import Derived.Test.YtgimceanhmhgkaaDoorBase2
namespace Go.Proofs.YtgimceanhmhgkaaDoor
open Go.ChangeShapes Go.WideShapes Go.ChangeAt Go.RowKit

theorem ret_ibb {k : IntKind} {a b : Int} {c d : Bool} (h : a = b) (h2 : c = d) : Ending.returned (.tuple #[.int k a, .bool c]) = .returned (.tuple #[.int k b, .bool d]) := by rw [h, h2]
theorem l1rank (s : Int) (h1 : 0 ≤ s) (h2 : s < 256) (w : World) : Calls Tryd.prog 19 #[.int .i64 s] w fun e w' => e = .returned (.int .i64 (rankI s)) ∧ w = w' := by
  have hst := Lib.hid (rank_steps h1 h2)
  have hr : Hid (rankTo s 8 = rankI s) := Lib.hid rfl
  go_enter Tryd.func19, Tryd.ntmps19
  go_wp2
  go_loop [3, 4, 5] (fun n k i => ∃ j : Nat, j ≤ 8 ∧ i = .int .i64 j ∧ k = .int .i64 (cntTo s j : Nat) ∧ n = .int .i64 (rankTo s j)) (fun _ _ i => 8 - (intOf i).toNat)
  case atStart => exact ⟨0, by omega, rfl, rfl, rfl⟩
  case round =>
    obtain ⟨j, hj, rfl, rfl, rfl⟩ := hrel
    have hc := cnt_le s j
    obtain ⟨r1, r2⟩ := hst.out j (by omega)
    by_cases hlt : j < 8
    · have hb := chI_bounds (n := (j : Nat)) (k := (cntTo s j + 1 : Nat)) (by omega) (by omega) (by omega) (by omega)
      obtain ⟨b1, b2⟩ := hb
      simp only [Int.natCast_add, Int.cast_ofNat_Int] at b1 b2
      rcases (by cases hasB s (j : Nat) <;> simp : hasB s (j : Nat) = true ∨ hasB s (j : Nat) = false) with hi | hi
      · have e1 := Lib.hid (show cntTo s (j + 1) = cntTo s j + 1 by simp [cntTo, hi])
        have e2 := Lib.hid (show rankTo s (j + 1) = rankTo s j + chI (j : Nat) ((cntTo s j : Nat) + 1) by simp [rankTo, hi])
        go_wp2_with (first | (go_at_call 16; refine (l1has _ _ h1 h2 (by omega) (by omega) _).mono ?_; rintro e w' ⟨rfl, rfl⟩) | (go_at_call 28; refine (sp_choose_in _ _ (by omega) (by omega) (by omega) (by omega) _).mono ?_; rintro e w' ⟨rfl, rfl⟩) | go_in)
        go_round
        case rel => exact ⟨j + 1, by omega, by go_num, by rw [e1.out]; go_num, by rw [e2.out]⟩
        case measure => simp [intOf]; omega
      · have e1 := Lib.hid (show cntTo s (j + 1) = cntTo s j by simp [cntTo, hi])
        have e2 := Lib.hid (show rankTo s (j + 1) = rankTo s j by simp [rankTo, hi])
        go_wp2_with (first | (go_at_call 16; refine (l1has _ _ h1 h2 (by omega) (by omega) _).mono ?_; rintro e w' ⟨rfl, rfl⟩) | go_in)
        go_round
        case rel => exact ⟨j + 1, by omega, by go_num, by rw [e1.out], by rw [e2.out]⟩
        case measure => simp [intOf]; omega
    · obtain rfl : j = 8 := by omega
      go_wp2
      go_ret
      exact ⟨ret_int hr.out, rfl⟩

/-- the greatest top from k - 1 on. -/
def topOf (m k : Int) : Int := topI m k (k - 1) 42
theorem topOf_bd {m k : Int} (hk : 1 ≤ k) (hk2 : k ≤ 8) : 0 ≤ topOf m k ∧ topOf m k ≤ 41 := by
  have := top_bd m k 42 (k - 1)
  unfold topOf
  omega
/-- there is a set of the size and the rank. -/
def unrankOk (n k r : Int) : Prop := 1 ≤ n ∧ n ≤ 8 ∧ 0 ≤ k ∧ k ≤ n ∧ 0 ≤ r ∧ r < chI n k
theorem unrankOk_facts {n k r : Int} (h : unrankOk n k r) : unrOk 0 r k.toNat = true ∧ 0 ≤ unrI 0 r k.toNat ∧ unrI 0 r k.toNat < 2 ^ n.toNat ∧ cntI (unrI 0 r k.toNat) = k ∧ rankI (unrI 0 r k.toNat) = r := by
  obtain ⟨n1, n2, k1, k2, r1, r2⟩ := h
  have e1 : ((n.toNat : Nat) : Int) = n := Int.toNat_of_nonneg (by omega)
  have e2 : ((k.toNat : Nat) : Int) = k := Int.toNat_of_nonneg (by omega)
  have e3 : ((r.toNat : Nat) : Int) = r := Int.toNat_of_nonneg (by omega)
  have c := ch_small ⟨n.toNat, by omega⟩ ⟨k.toNat, by omega⟩
  simp only [e1, e2] at c
  have a := unr_ok ⟨n.toNat, by omega⟩ ⟨k.toNat, by omega⟩ ⟨r.toNat, by omega⟩ (by simp; omega)
  have b := unr_at ⟨n.toNat, by omega⟩ ⟨k.toNat, by omega⟩ ⟨r.toNat, by omega⟩ (by simp; omega)
  simp only [e1, e2, e3] at a b
  obtain ⟨b1, b2, b3, b4⟩ := b r2
  refine ⟨a r2, b1, b2, ?_, b4⟩
  unfold cntI
  rw [b3]; exact e2
theorem rank_only {s : Int} (h1 : 0 ≤ s) (h2 : s < 256) : s = unrI 0 (rankI s) (cntI s).toNat := by
  have := all256 (P := fun s => unrI 0 (rankI s) (cntTo s 8) = s) (fun s => unr_back s) h1 h2
  simpa [cntI] using this.symm
theorem rank_fits {n s : Int} (n1 : 1 ≤ n) (n2 : n ≤ 8) (h1 : 0 ≤ s) (h2 : s < 2 ^ n.toNat) : 0 ≤ rankI s ∧ rankI s < chI n (cntI s) := by
  have p := pow_le256 n1 n2
  have e1 : ((n.toNat : Nat) : Int) = n := Int.toNat_of_nonneg (by omega)
  have e2 : ((s.toNat : Nat) : Int) = s := Int.toNat_of_nonneg h1
  have h := rank_lt ⟨n.toNat, by omega⟩ ⟨s.toNat, by omega⟩ (by
    have : ((s.toNat : Nat) : Int) < ((2 ^ n.toNat : Nat) : Int) := by rw [e2]; simpa using h2
    simpa using Int.ofNat_lt.1 this)
  simpa only [e1, e2] using h

end Go.Proofs.YtgimceanhmhgkaaDoor
