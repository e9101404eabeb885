/- The sum of the numbers of bits: the program, the model, the law. -/
import Derived.Test.YtpepcjffolbdcaaDoorDgm
namespace Go.Proofs.YtpepcjffolbdcaaDoor
open Go.ChangeShapes Go.WideShapes Go.ChangeAt Go.RowKit

set_option maxRecDepth 100000 in
theorem ones64b (s : Int) (h1 : 0 ≤ s) (h2 : s < 1024) (w : World) : Calls Tryd.prog 118 #[.int .u64 s] w fun e w' => e = .returned (.int .i64 (pcI s)) ∧ w = w' := by
  go_enter Tryd.func118, Tryd.ntmps118
  go_wp2
  go_ret
  refine ⟨ret_int ?_, rfl⟩
  revert h1 h2
  revert s
  refine all1024 ?_
  decide +kernel
theorem onesb (s : Int) (h1 : 0 ≤ s) (h2 : s < 1024) (w : World) : Calls Tryd.prog 93 #[.int .u64 s] w fun e w' => e = .returned (.int .i64 (pcI s)) ∧ w = w' := by
  go_enter Tryd.func93, Tryd.ntmps93
  go_wp2_with (go_at_call 118; refine (ones64b _ h1 h2 _).mono ?_; rintro e w' ⟨rfl, rfl⟩)
  go_ret
  exact ⟨rfl, rfl⟩
theorem set_sizeb (s : Int) (h1 : 0 ≤ s) (h2 : s < 1024) (w : World) : Calls Tryd.prog 51 #[.int .u64 s] w fun e w' => e = .returned (.int .i64 (pcI s)) ∧ w = w' := by
  go_enter Tryd.func51, Tryd.ntmps51
  go_wp2_with (go_at_call 93; refine (onesb _ h1 h2 _).mono ?_; rintro e w' ⟨rfl, rfl⟩)
  go_ret
  exact ⟨rfl, rfl⟩
theorem ret_ibg {a b : Int} {c d : Bool} (h : a = b) (h2 : c = d) : Ending.returned (.tuple #[.int .i64 a, .bool c]) = .returned (.tuple #[.int .i64 b, .bool d]) := by rw [h, h2]
set_option maxHeartbeats 2000000 in
theorem im_BoundaryDigits (m : Int) (w : World) : Calls Tryd.prog 21 #[.int .i64 m] w fun e w' => e = .returned (.tuple #[.int .i64 (dgV m), .bool (dgB m)]) ∧ w = w' := by
  by_cases hm : 0 ≤ m ∧ m ≤ 1000
  · obtain ⟨m1, m2⟩ := hm
    have hb : true = dgB m := (decide_eq_true ⟨m1, m2⟩).symm
    have hv := Lib.hid (show dgS m.toNat = dgV m by unfold dgV; rw [← hb]; rfl)
    replace hb := Lib.hid hb
    have hsz := Lib.hid (fun s h1 h2 W => set_sizeb s h1 h2 W)
    have hbd := Lib.hid (fun k => dg_bd k)
    go_enter Tryd.func21, Tryd.ntmps21
    go_wp2_with fail
    go_loop [4, 14] (fun v i => ∃ k : Nat, (k : Int) ≤ m ∧ i = .int .u64 (k : Nat) ∧ v = .int .i64 (dgS k)) (fun _ i => (m - intOf i).toNat)
    case atStart => exact ⟨0, by omega, rfl, rfl⟩
    case round =>
      obtain ⟨k, hk, rfl, rfl⟩ := hrel
      by_cases hlt : (k : Int) < m
      · have hc := Lib.hid (hsz.out (k : Int) (by omega) (by omega))
        obtain ⟨a1, a2⟩ := hbd.out k
        obtain ⟨b1, b2⟩ := pc_bd (k : Int)
        have hS := Lib.hid (show dgS k + pcI (k : Nat) = dgS (k + 1) from rfl)
        obtain ⟨c, hcc⟩ : ∃ c, pcI (k : Nat) = c := ⟨_, rfl⟩
        obtain ⟨v, hvv⟩ : ∃ v, dgS k = v := ⟨_, rfl⟩
        rw [hcc] at hc hS b1 b2
        rw [hvv] at hS a1 a2 ⊢
        replace hcc := Lib.hid hcc
        replace hvv := Lib.hid hvv
        go_wp2_with (go_at_call 51; refine (hc.out _).mono ?_; rintro e w' ⟨rfl, rfl⟩)
        go_round
        case rel => exact ⟨k + 1, by omega, by go_num, by rw [hS.out]⟩
        case measure => simp [intOf]; omega
      · have e : k = m.toNat := by omega
        subst e
        go_wp2
        go_ret2
        exact ⟨ret_ibg hv.out hb.out, rfl⟩
  · have hb : false = dgB m := (decide_eq_false hm).symm
    have hv := Lib.hid (show 0 = dgV m by unfold dgV; rw [← hb]; rfl)
    replace hb := Lib.hid hb
    by_cases h0 : m < 0
    · clear hm
      go_enter Tryd.func21, Tryd.ntmps21
      go_wp2
      go_ret2
      exact ⟨ret_ibg hv.out hb.out, rfl⟩
    · have h1 : 1000 < m := by omega
      clear hm
      go_enter Tryd.func21, Tryd.ntmps21
      go_wp2
      go_ret2
      exact ⟨ret_ibg hv.out hb.out, rfl⟩
end Go.Proofs.YtpepcjffolbdcaaDoor
