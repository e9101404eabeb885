/- The exact law of sets of a rank. -/
import Derived.Test.YtpjapoaagbdlfaaGreatDoorLawsB
import Derived.Test.YtpjapoaagbdlfaaGreatDoorBase2
namespace Go.Proofs.YtpjapoaagbdlfaaGreatDoor
open Go.ChangeShapes Go.WideShapes Go.ChangeAt Go.RowKit

theorem ret_ibb {k : IntKind} {a b : Int} {c d : Bool} (h : a = b) (h2 : c = d) : Ending.returned (.tuple #[.int k a, .bool c]) = .returned (.tuple #[.int k b, .bool d]) := by rw [h, h2]
/-- the greatest top from k - 1 on. -/
def topOf (m k : Int) : Int := topI m k (k - 1) 42
theorem topOf_bd {m k : Int} (hk : 1 ≤ k) (hk2 : k ≤ 8) : 0 ≤ topOf m k ∧ topOf m k ≤ 41 := by
  have := top_bd m k 42 (k - 1)
  unfold topOf
  omega
theorem top_of (m k : Int) (hk : 1 ≤ k) (hk2 : k ≤ 8) (w : World) : Calls Tryz.prog 82 #[.int .i64 m, .int .i64 k] w fun e w' => e = .returned (.int .i64 (topOf m k)) ∧ w = w' := by
  have hT : Hid (topI m k (k - 1) 42 = topOf m k) := Lib.hid rfl
  go_enter Tryz.func82, Tryz.ntmps82
  go_wp2
  go_loop [5] (fun t => ∃ (x : Int) (f : Nat), t = .int .i64 x ∧ k - 1 ≤ x ∧ x ≤ 41 ∧ x + f = k + 41 ∧ Hid (topI m k x f = topOf m k)) (fun t => (41 - intOf t).toNat)
  case atStart => exact ⟨k - 1, 42, rfl, by omega, by omega, by omega, hT⟩
  case round =>
    obtain ⟨x, f, rfl, x1, x2, x3, hx⟩ := hrel
    obtain ⟨g, rfl⟩ : ∃ g, f = g + 1 := ⟨f - 1, by omega⟩
    by_cases ha : x ≤ 40
    · by_cases hb : chI (x + 1) k ≤ m
      · have hy := Lib.hid (show topI m k (x + 1) g = topOf m k by have := hx.out; unfold topI at this; rwa [if_pos ⟨ha, hb⟩] at this)
        clear hx
        go_wp2_with (first | (go_at_call 54; refine (choose_in _ _ (by omega) (by omega) (by omega) (by omega) _).mono ?_; rintro e w' ⟨rfl, rfl⟩) | go_in)
        go_round
        case rel => exact ⟨x + 1, g, rfl, by omega, by omega, by omega, hy⟩
        case measure => simp [intOf]; omega
      · have hy := Lib.hid (show x = topOf m k by have := hx.out; unfold topI at this; rwa [if_neg (fun c => hb c.2)] at this)
        clear hx
        go_wp2_with (first | (go_at_call 54; refine (choose_in _ _ (by omega) (by omega) (by omega) (by omega) _).mono ?_; rintro e w' ⟨rfl, rfl⟩) | go_in)
        go_ret
        exact ⟨ret_int hy.out, rfl⟩
    · have hy := Lib.hid (show x = topOf m k by have := hx.out; unfold topI at this; rwa [if_neg (fun c => ha c.1)] at this)
      clear hx
      go_wp2_with fail
      go_ret
      exact ⟨ret_int hy.out, rfl⟩

/-- there is a set of the size and the rank. -/
def unrankOk (n k r : Int) : Prop := 1 ≤ n ∧ n ≤ 8 ∧ 0 ≤ k ∧ k ≤ n ∧ 0 ≤ r ∧ r < chI n k
theorem unrankOk_facts {n k r : Int} (h : unrankOk n k r) : unrOk 0 r k.toNat = true ∧ 0 ≤ unrI 0 r k.toNat ∧ unrI 0 r k.toNat < 2 ^ n.toNat ∧ cntI (unrI 0 r k.toNat) = k ∧ rankI (unrI 0 r k.toNat) = r := by
  obtain ⟨n1, n2, k1, k2, r1, r2⟩ := h
  have e1 : ((n.toNat : Nat) : Int) = n := Int.toNat_of_nonneg (by omega)
  have e2 : ((k.toNat : Nat) : Int) = k := Int.toNat_of_nonneg (by omega)
  have e3 : ((r.toNat : Nat) : Int) = r := Int.toNat_of_nonneg (by omega)
  have c := ch_small ⟨n.toNat, by omega⟩ ⟨k.toNat, by omega⟩
  simp only [e1, e2] at c
  have a := unr_ok ⟨n.toNat, by omega⟩ ⟨k.toNat, by omega⟩ ⟨r.toNat, by omega⟩ (by simp; omega)
  have b := unr_at ⟨n.toNat, by omega⟩ ⟨k.toNat, by omega⟩ ⟨r.toNat, by omega⟩ (by simp; omega)
  simp only [e1, e2, e3] at a b
  obtain ⟨b1, b2, b3, b4⟩ := b r2
  refine ⟨a r2, b1, b2, ?_, b4⟩
  unfold cntI
  rw [b3]; exact e2
theorem rank_only {s : Int} (h1 : 0 ≤ s) (h2 : s < 256) : s = unrI 0 (rankI s) (cntI s).toNat := by
  have := all256 (P := fun s => unrI 0 (rankI s) (cntTo s 8) = s) (fun s => unr_back s) h1 h2
  simpa [cntI] using this.symm
theorem rank_fits {n s : Int} (n1 : 1 ≤ n) (n2 : n ≤ 8) (h1 : 0 ≤ s) (h2 : s < 2 ^ n.toNat) : 0 ≤ rankI s ∧ rankI s < chI n (cntI s) := by
  have p := pow_le256 n1 n2
  have e1 : ((n.toNat : Nat) : Int) = n := Int.toNat_of_nonneg (by omega)
  have e2 : ((s.toNat : Nat) : Int) = s := Int.toNat_of_nonneg h1
  have h := rank_lt ⟨n.toNat, by omega⟩ ⟨s.toNat, by omega⟩ (by
    have : ((s.toNat : Nat) : Int) < ((2 ^ n.toNat : Nat) : Int) := by rw [e2]; simpa using h2
    simpa using Int.ofNat_lt.1 this)
  simpa only [e1, e2] using h

end Go.Proofs.YtpjapoaagbdlfaaGreatDoor
