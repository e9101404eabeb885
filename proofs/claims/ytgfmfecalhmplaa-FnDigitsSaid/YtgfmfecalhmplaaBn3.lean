/- The sum of the numbers of bits: the program, the model, the law. -/
import Derived.Test.YtgfmfecalhmplaaSets2
namespace Go.Proofs.Ytgfmfecalhmplaa
open Go.ChangeShapes Go.WideShapes Go.ChangeAt Go.RowKit

/-- the bits of a number below 1024. -/
def pcI (k : Int) : Int := (cntTo k 10 : Nat)
/-- the bits of all numbers below k. -/
def dgS : Nat → Int
  | 0 => 0
  | k + 1 => dgS k + pcI (k : Nat)
theorem pc_bd (k : Int) : 0 ≤ pcI k ∧ pcI k ≤ 10 := by
  have := cnt_le k 10
  unfold pcI; omega
theorem dg_bd : ∀ k : Nat, 0 ≤ dgS k ∧ dgS k ≤ 10 * (k : Nat)
  | 0 => by simp [dgS]
  | k + 1 => by
    have h := dg_bd k
    have h2 := pc_bd (k : Nat)
    unfold dgS; omega
theorem all1024 {P : Int → Prop} (h : ∀ s : Fin 1024, P ((s.val : Nat) : Int)) : ∀ s, 0 ≤ s → s < 1024 → P s := fun s h1 h2 => by
  have := h ⟨s.toNat, by omega⟩
  have e : ((s.toNat : Nat) : Int) = s := Int.toNat_of_nonneg h1
  simpa [e] using this
theorem pc_half : ∀ k : Fin 1024, pcI (k.val : Nat) = ((k.val % 2 : Nat) : Int) + pcI ((k.val / 2 : Nat) : Int) := by decide +kernel
theorem pc_step {k : Nat} (h : k < 1024) : pcI (k : Nat) = ((k % 2 : Nat) : Int) + pcI ((k / 2 : Nat) : Int) := pc_half ⟨k, h⟩
/-- m is taken. -/
def dgB (m : Int) : Bool := decide (0 ≤ m ∧ m ≤ 1000)
def dgV (m : Int) : Int := if dgB m then dgS m.toNat else 0
set_option maxRecDepth 100000 in
theorem ones64b (s : Int) (h1 : 0 ≤ s) (h2 : s < 1024) (w : World) : Calls Try.prog 43 #[.int .u64 s] w fun e w' => e = .returned (.int .i64 (pcI s)) ∧ w = w' := by
  go_enter Try.func43, Try.ntmps43
  go_wp2
  go_ret
  refine ⟨ret_int ?_, rfl⟩
  revert h1 h2
  revert s
  refine all1024 ?_
  decide +kernel
theorem onesb (s : Int) (h1 : 0 ≤ s) (h2 : s < 1024) (w : World) : Calls Try.prog 33 #[.int .u64 s] w fun e w' => e = .returned (.int .i64 (pcI s)) ∧ w = w' := by
  go_enter Try.func33, Try.ntmps33
  go_wp2_with (go_at_call 43; refine (ones64b _ h1 h2 _).mono ?_; rintro e w' ⟨rfl, rfl⟩)
  go_ret
  exact ⟨rfl, rfl⟩
theorem set_sizeb (s : Int) (h1 : 0 ≤ s) (h2 : s < 1024) (w : World) : Calls Try.prog 20 #[.int .u64 s] w fun e w' => e = .returned (.int .i64 (pcI s)) ∧ w = w' := by
  go_enter Try.func20, Try.ntmps20
  go_wp2_with (go_at_call 33; refine (onesb _ h1 h2 _).mono ?_; rintro e w' ⟨rfl, rfl⟩)
  go_ret
  exact ⟨rfl, rfl⟩
theorem ret_ibg {a b : Int} {c d : Bool} (h : a = b) (h2 : c = d) : Ending.returned (.tuple #[.int .i64 a, .bool c]) = .returned (.tuple #[.int .i64 b, .bool d]) := by rw [h, h2]
set_option maxHeartbeats 2000000 in
theorem im_BoundaryDigits (m : Int) (w : World) : Calls Try.prog 8 #[.int .i64 m] w fun e w' => e = .returned (.tuple #[.int .i64 (dgV m), .bool (dgB m)]) ∧ w = w' := by
  by_cases hm : 0 ≤ m ∧ m ≤ 1000
  · obtain ⟨m1, m2⟩ := hm
    have hb : true = dgB m := (decide_eq_true ⟨m1, m2⟩).symm
    have hv := Lib.hid (show dgS m.toNat = dgV m by unfold dgV; rw [← hb]; rfl)
    replace hb := Lib.hid hb
    have hsz := Lib.hid (fun s h1 h2 W => set_sizeb s h1 h2 W)
    have hbd := Lib.hid (fun k => dg_bd k)
    go_enter Try.func8, Try.ntmps8
    go_wp2_with fail
    go_loop [4, 14] (fun v i => ∃ k : Nat, (k : Int) ≤ m ∧ i = .int .u64 (k : Nat) ∧ v = .int .i64 (dgS k)) (fun _ i => (m - intOf i).toNat)
    case atStart => exact ⟨0, by omega, rfl, rfl⟩
    case round =>
      obtain ⟨k, hk, rfl, rfl⟩ := hrel
      by_cases hlt : (k : Int) < m
      · have hc := Lib.hid (hsz.out (k : Int) (by omega) (by omega))
        obtain ⟨a1, a2⟩ := hbd.out k
        obtain ⟨b1, b2⟩ := pc_bd (k : Int)
        have hS := Lib.hid (show dgS k + pcI (k : Nat) = dgS (k + 1) from rfl)
        obtain ⟨c, hcc⟩ : ∃ c, pcI (k : Nat) = c := ⟨_, rfl⟩
        obtain ⟨v, hvv⟩ : ∃ v, dgS k = v := ⟨_, rfl⟩
        rw [hcc] at hc hS b1 b2
        rw [hvv] at hS a1 a2 ⊢
        replace hcc := Lib.hid hcc
        replace hvv := Lib.hid hvv
        go_wp2_with (go_at_call 20; refine (hc.out _).mono ?_; rintro e w' ⟨rfl, rfl⟩)
        go_round
        case rel => exact ⟨k + 1, by omega, by go_num, by rw [hS.out]⟩
        case measure => simp [intOf]; omega
      · have e : k = m.toNat := by omega
        subst e
        go_wp2
        go_ret2
        exact ⟨ret_ibg hv.out hb.out, rfl⟩
  · have hb : false = dgB m := (decide_eq_false hm).symm
    have hv := Lib.hid (show 0 = dgV m by unfold dgV; rw [← hb]; rfl)
    replace hb := Lib.hid hb
    by_cases h0 : m < 0
    · clear hm
      go_enter Try.func8, Try.ntmps8
      go_wp2
      go_ret2
      exact ⟨ret_ibg hv.out hb.out, rfl⟩
    · have h1 : 1000 < m := by omega
      clear hm
      go_enter Try.func8, Try.ntmps8
      go_wp2
      go_ret2
      exact ⟨ret_ibg hv.out hb.out, rfl⟩
set_option maxHeartbeats 2000000 in
theorem sp_BoundaryDigits (m : Int) (w : World) : Calls Try.prog 9 #[.int .i64 m] w fun e w' => e = .returned (.tuple #[.int .i64 (dgV m), .bool (dgB m)]) ∧ w = w' := by
  have hin := l6in m 0 1000
  rcases (by cases inB m 0 1000 <;> simp : inB m 0 1000 = true ∨ inB m 0 1000 = false) with hk | hk
  · rw [hk] at hin
    replace hin := Lib.hid hin
    obtain ⟨m1, m2⟩ := of_decide_eq_true hk
    have hb : true = dgB m := hk.symm
    have hv := Lib.hid (show dgS m.toNat = dgV m by unfold dgV; rw [← hb]; rfl)
    replace hb := Lib.hid hb
    replace hk := Lib.hid hk
    have hbd := Lib.hid (fun k => dg_bd k)
    go_enter Try.func9, Try.ntmps9
    go_wp2_with (go_at_call 21; refine (hin.out _).mono ?_; rintro e w' ⟨rfl, rfl⟩)
    go_loop [4, 5] (fun v i => ∃ k : Nat, (k : Int) ≤ m ∧ i = .int .i64 (k : Nat) ∧ v = .int .i64 (dgS k)) (fun _ i => (m - intOf i).toNat)
    case atStart => exact ⟨0, by omega, rfl, rfl⟩
    case round =>
      obtain ⟨k, hk, rfl, rfl⟩ := hrel
      by_cases hlt : (k : Int) < m
      · obtain ⟨a1, a2⟩ := hbd.out (k + 1)
        have hS := show dgS k = dgS (k + 1) - pcI (k : Nat) by show dgS k = dgS k + pcI (k : Nat) - pcI (k : Nat); omega
        rw [hS]
        obtain ⟨T, hT⟩ : ∃ T, dgS (k + 1) = T := ⟨_, rfl⟩
        rw [hT] at a1 a2 ⊢
        replace hT := Lib.hid hT
        clear hS
        go_wp2_with fail
        go_loop [4, 6] (fun v i => ∃ j : Nat, j ≤ 1000 ∧ i = .int .i64 (j : Nat) ∧ v = .int .i64 (T - pcI (j : Nat))) (fun _ i => (intOf i).toNat)
        case atStart => exact ⟨k, by omega, rfl, rfl⟩
        case round =>
          obtain ⟨j, hj, rfl, rfl⟩ := hrel
          by_cases hj0 : 0 < (j : Int)
          · have hst := pc_step (k := j) (by omega)
            obtain ⟨b1, b2⟩ := pc_bd ((j / 2 : Nat) : Int)
            obtain ⟨c, hcc⟩ : ∃ c, pcI ((j / 2 : Nat) : Int) = c := ⟨_, rfl⟩
            rw [hcc] at hst b1 b2
            rw [hst]
            have hr1 : (j : Int).tmod 2 = ((j % 2 : Nat) : Int) := by rw [Int.tmod_eq_emod_of_nonneg (by omega)]; omega
            have hr2 : (j : Int).tdiv 2 = ((j / 2 : Nat) : Int) := by rw [Int.tdiv_eq_ediv_of_nonneg (by omega)]; omega
            have hr3 : ((j % 2 : Nat) : Int) = 0 ∨ ((j % 2 : Nat) : Int) = 1 := by omega
            have hr4 : ((j / 2 : Nat) : Int) < j := by omega
            have hr5 : j / 2 ≤ 1000 := by omega
            obtain ⟨r, hr⟩ : ∃ r, ((j % 2 : Nat) : Int) = r := ⟨_, rfl⟩
            obtain ⟨q, hq⟩ : ∃ q, j / 2 = q := ⟨_, rfl⟩
            rw [hr] at hr1 hr3 ⊢
            rw [hq] at hr2 hr4 hr5 hcc
            replace hr := Lib.hid hr
            replace hq := Lib.hid hq
            replace hcc := Lib.hid hcc
            replace hst := Lib.hid hst
            go_wp2
            go_round
            case rel => exact ⟨q, hr5, by first | rfl | go_num, by rw [hcc.out]; exact congrArg (Value.int .i64) (by omega)⟩
            case measure => simp [intOf]; omega
          · obtain rfl : j = 0 := by omega
            have h0 : pcI ((0 : Nat) : Int) = 0 := by decide +kernel
            rw [h0]
            go_wp2
            go_round
            case rel => exact ⟨k + 1, by omega, by go_num, by rw [hT.out]; congr 2; omega⟩
            case measure => simp [intOf]; omega
      · have e : k = m.toNat := by omega
        subst e
        go_wp2
        go_ret2
        exact ⟨ret_ibg hv.out hb.out, rfl⟩
  · rw [hk] at hin
    replace hin := Lib.hid hin
    have hb : false = dgB m := hk.symm
    have hv := Lib.hid (show 0 = dgV m by unfold dgV; rw [← hb]; rfl)
    replace hb := Lib.hid hb
    replace hk := Lib.hid hk
    go_enter Try.func9, Try.ntmps9
    go_wp2_with (go_at_call 21; refine (hin.out _).mono ?_; rintro e w' ⟨rfl, rfl⟩)
    go_ret2
    exact ⟨ret_ibg hv.out hb.out, rfl⟩
theorem law_BoundaryDigits (m : Int) (w : World) : Calls Try.prog 5 #[.int .i64 m] w fun e w' => e = .returned (.bool true) ∧ Grown w w' := by
  have hi := im_BoundaryDigits m
  have hs := sp_BoundaryDigits m
  obtain ⟨c, hc⟩ : ∃ c, dgV m = c := ⟨_, rfl⟩
  obtain ⟨b, hb⟩ : ∃ b, dgB m = b := ⟨_, rfl⟩
  rw [hc, hb] at hi hs
  replace hi := Lib.hid hi
  replace hs := Lib.hid hs
  have hcc : (c != c) = false := by simp
  have hbb : (b != b) = false := by simp
  clear hc hb
  go_enter Try.func5, Try.ntmps5
  go_wp2_with (first | (go_at_call 8; refine (hi.out _).mono ?_; rintro e w' ⟨rfl, rfl⟩) | (go_at_call 9; refine (hs.out _).mono ?_; rintro e w' ⟨rfl, rfl⟩))
  go_ret
  exact ⟨rfl, Grown.refl _⟩
end Go.Proofs.Ytgfmfecalhmplaa
