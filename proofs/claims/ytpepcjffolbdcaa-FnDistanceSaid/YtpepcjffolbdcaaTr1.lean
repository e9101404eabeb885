/- Bounds of dimensions, and all sets of at most so many points: the program, the model, the laws. -/
import Derived.Test.YtpepcjffolbdcaaFLaws
import Derived.Test.YtpepcjffolbdcaaLawsB
import Derived.Test.YtpepcjffolbdcaaSh1
namespace Go.Proofs.Ytpepcjffolbdcaa
open Go.ChangeShapes Go.WideShapes Go.ChangeAt Go.RowKit Go.Proofs

/-- n points and a dimension of theirs. -/
def dimB (n d : Int) : Bool := ptsB n && inB d (-1) n
theorem dimB_yes {n d : Int} (h : dimB n d = true) : 1 ≤ n ∧ n ≤ 8 ∧ -1 ≤ d ∧ d ≤ n := by
  unfold dimB at h
  rw [Bool.and_eq_true] at h
  obtain ⟨n1, n2⟩ := ptsB_yes h.1
  have := of_decide_eq_true h.2
  exact ⟨n1, n2, this.1, this.2⟩
theorem dimB_cases (n d : Int) : dimB n d = true ∨ dimB n d = false := by cases dimB n d <;> simp
/-- ways to choose fewer than k. -/
def bndN (n : Int) : Nat → Int
  | 0 => 0
  | k + 1 => bndN n k + chI n (k : Nat)
/-- the bound of a dimension. -/
def bndV (n d : Int) : Int := if dimB n d then bndN n (d + 1).toNat else 0
theorem bnd_dec : ∀ n : Fin 9, ∀ k : Fin 10, 0 ≤ bndN ((n.val : Nat) : Int) k.val ∧ bndN ((n.val : Nat) : Int) k.val ≤ 256 ∧ 0 ≤ chI ((n.val : Nat) : Int) ((k.val : Nat) : Int) ∧ chI ((n.val : Nat) : Int) ((k.val : Nat) : Int) ≤ 70 := by decide +kernel
theorem bnd_small {n : Int} (n1 : 1 ≤ n) (n2 : n ≤ 8) (k : Nat) (hk : k ≤ 9) : 0 ≤ bndN n k ∧ bndN n k ≤ 256 ∧ 0 ≤ chI n (k : Nat) ∧ chI n (k : Nat) ≤ 70 := by
  have h := bnd_dec ⟨n.toNat, by omega⟩ ⟨k, by omega⟩
  have e : ((n.toNat : Nat) : Int) = n := Int.toNat_of_nonneg (by omega)
  simpa only [e] using h
set_option maxHeartbeats 1000000 in
theorem dim_in (n d : Int) (w : World) : Calls Try.prog 19 #[.int .i64 n, .int .i64 d] w fun e w' => e = .returned (.bool (dimB n d)) ∧ w = w' := by
  have hpc := pts_in n
  rcases (by cases ptsB n <;> simp : ptsB n = true ∨ ptsB n = false) with hp | hp
  · rw [hp] at hpc
    by_cases hk0 : -1 ≤ d
    · by_cases hkn : d ≤ n
      · have hb := Lib.hid (show true = dimB n d by unfold dimB; rw [hp]; exact (decide_eq_true ⟨hk0, hkn⟩).symm)
        replace hp := Lib.hid hp
        replace hpc := Lib.hid hpc
        go_enter Try.func19, Try.ntmps19
        go_wp2_with (go_at_call 32; refine (hpc.out _).mono ?_; rintro e w' ⟨rfl, rfl⟩)
        go_ret
        exact ⟨ret_bool (by first | exact hb.out | (rw [← hb.out]; simp; omega)), rfl⟩
      · have hb := Lib.hid (show false = dimB n d by unfold dimB; rw [hp]; exact (decide_eq_false (by omega)).symm)
        replace hp := Lib.hid hp
        replace hpc := Lib.hid hpc
        go_enter Try.func19, Try.ntmps19
        go_wp2_with (go_at_call 32; refine (hpc.out _).mono ?_; rintro e w' ⟨rfl, rfl⟩)
        go_ret
        exact ⟨ret_bool (by first | exact hb.out | (rw [← hb.out]; simp; omega)), rfl⟩
    · have hb := Lib.hid (show false = dimB n d by unfold dimB; rw [hp]; exact (decide_eq_false (by omega)).symm)
      replace hp := Lib.hid hp
      replace hpc := Lib.hid hpc
      go_enter Try.func19, Try.ntmps19
      go_wp2_with (go_at_call 32; refine (hpc.out _).mono ?_; rintro e w' ⟨rfl, rfl⟩)
      go_ret
      exact ⟨ret_bool (by first | exact hb.out | (rw [← hb.out]; simp; omega)), rfl⟩
  · rw [hp] at hpc
    have hb := Lib.hid (show false = dimB n d by unfold dimB; rw [hp]; rfl)
    replace hp := Lib.hid hp
    replace hpc := Lib.hid hpc
    go_enter Try.func19, Try.ntmps19
    go_wp2_with (go_at_call 32; refine (hpc.out _).mono ?_; rintro e w' ⟨rfl, rfl⟩)
    go_ret
    exact ⟨ret_bool hb.out, rfl⟩
theorem ret_ibe {a b : Int} {c d : Bool} (h : a = b) (h2 : c = d) : Ending.returned (.tuple #[.int .i64 a, .bool c]) = .returned (.tuple #[.int .i64 b, .bool d]) := by rw [h, h2]
set_option maxHeartbeats 2000000 in
theorem im_TraceBound (n d : Int) (w : World) : Calls Try.prog 8 #[.int .i64 n, .int .i64 d] w fun e w' => e = .returned (.tuple #[.int .i64 (bndV n d), .bool (dimB n d)]) ∧ w = w' := by
  have hdi := fun W => dim_in n d W
  rcases dimB_cases n d with hb | hb
  · obtain ⟨n1, n2, d1, d2⟩ := dimB_yes hb
    have hv := Lib.hid (show bndN n (d + 1).toNat = bndV n d by unfold bndV; rw [hb]; rfl)
    have hsm := Lib.hid (fun k hk => bnd_small n1 n2 k hk)
    have hch := Lib.hid (fun (k : Nat) (hk : k ≤ 8) W => choose_in n (k : Nat) (by omega) (by omega) (by omega) (by omega) W)
    rw [hb] at hdi
    replace hdi := Lib.hid hdi
    replace hb := Lib.hid hb.symm
    go_enter Try.func8, Try.ntmps8
    go_wp2_with (go_at_call 19; refine (hdi.out _).mono ?_; rintro e w' ⟨rfl, rfl⟩)
    go_loop [6, 14] (fun v i => ∃ k : Nat, (k : Int) ≤ d + 1 ∧ i = .int .i64 (k : Nat) ∧ v = .int .i64 (bndN n k)) (fun _ i => (d + 1 - intOf i).toNat)
    case atStart => exact ⟨0, by omega, rfl, rfl⟩
    case round =>
      obtain ⟨k, hk, rfl, rfl⟩ := hrel
      by_cases hlt : (k : Int) < d + 1
      · obtain ⟨a1, a2, a3, a4⟩ := hsm.out k (by omega)
        have hc := Lib.hid (hch.out k (by omega))
        have hS := Lib.hid (show bndN n k + chI n (k : Nat) = bndN n (k + 1) from rfl)
        obtain ⟨c, hcc⟩ : ∃ c, chI n (k : Nat) = c := ⟨_, rfl⟩
        obtain ⟨v, hvv⟩ : ∃ v, bndN n k = v := ⟨_, rfl⟩
        rw [hcc] at hc hS a3 a4
        rw [hvv] at hS a1 a2 ⊢
        replace hcc := Lib.hid hcc
        replace hvv := Lib.hid hvv
        go_wp2_with (go_at_call 20; refine (hc.out _).mono ?_; rintro e w' ⟨rfl, rfl⟩)
        go_round
        case rel => exact ⟨k + 1, by omega, by go_num, by rw [hS.out]⟩
        case measure => simp [intOf]; omega
      · have e : k = (d + 1).toNat := by omega
        subst e
        go_wp2
        go_ret2
        exact ⟨ret_ibe hv.out hb.out, rfl⟩
  · have hv := Lib.hid (show (0 : Int) = bndV n d by unfold bndV; rw [hb]; rfl)
    rw [hb] at hdi
    replace hdi := Lib.hid hdi
    replace hb := Lib.hid hb.symm
    go_enter Try.func8, Try.ntmps8
    go_wp2_with (go_at_call 19; refine (hdi.out _).mono ?_; rintro e w' ⟨rfl, rfl⟩)
    go_ret2
    exact ⟨ret_ibe hv.out hb.out, rfl⟩
end Go.Proofs.Ytpepcjffolbdcaa
