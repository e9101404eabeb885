/- The laws' own count of the points of a set. -/
import Derived.Test.YtpjapoaagbdlfaaDoorSets2
namespace Go.Proofs.YtpjapoaagbdlfaaDoor
open Go.ChangeShapes Go.WideShapes Go.ChangeAt Go.RowKit

theorem bit20_dec : ∀ s : Fin 256, ∀ p : Fin 20, bits .and .i64 (((s.val : Nat) : Int) / 2 ^ p.val) 1 = if p.val < 8 ∧ hasB s.val p.val = true then 1 else 0 := by decide +kernel
theorem bit20 {s : Int} {p : Nat} (h1 : 0 ≤ s) (h2 : s < 256) (hp : p < 20) : bits .and .i64 (s / 2 ^ p) 1 = if p < 8 ∧ hasB s p = true then 1 else 0 := by
  have h := bit20_dec ⟨s.toNat, by omega⟩ ⟨p, hp⟩
  have e : ((s.toNat : Nat) : Int) = s := Int.toNat_of_nonneg h1
  simpa only [e] using h
theorem law_size (s : Int) (h1 : 0 ≤ s) (h2 : s < 256) (w : World) : Calls Tryd.prog 9 #[.int .i64 s] w fun e w' => e = .returned (.int .i64 (cntI s)) ∧ w = w' := by
  have h8 : Hid (((cntTo s (min 20 8) : Nat) : Int) = cntI s) := Lib.hid rfl
  go_enter Tryd.func9, Tryd.ntmps9
  go_wp2
  go_loop [3, 4] (fun n i => ∃ k : Nat, k ≤ 20 ∧ i = .int .i64 k ∧ n = .int .i64 (cntTo s (min k 8) : Nat)) (fun _ i => 20 - (intOf i).toNat)
  case atStart => exact ⟨0, by omega, rfl, rfl⟩
  case round =>
    obtain ⟨k, hk, rfl, rfl⟩ := hrel
    have hc := cnt_le s (min k 8)
    by_cases hlt : k < 20
    · have hb := bit20 (p := k) h1 h2 hlt
      have hn := Lib.hid (show ((cntTo s (min k 8) : Nat) : Int) + (if k < 8 ∧ hasB s k = true then 1 else 0) = ((cntTo s (min (k + 1) 8) : Nat) : Int) by
        by_cases h8 : k < 8
        · rw [show min k 8 = k by omega, show min (k + 1) 8 = k + 1 by omega]
          simp only [cntTo]
          by_cases hh : hasB s k = true <;> simp [h8, hh]
        · rw [show min k 8 = 8 by omega, show min (k + 1) 8 = 8 by omega, if_neg (fun x => h8 x.1)]
          omega)
      have hx : 0 ≤ bits .and .i64 (s / 2 ^ k) 1 ∧ bits .and .i64 (s / 2 ^ k) 1 ≤ 1 := by rw [hb]; split <;> omega
      obtain ⟨hx1, hx2⟩ := hx
      replace hb := Lib.hid hb
      go_wp2
      go_round
      case rel => exact ⟨k + 1, by omega, by go_num, by rw [← hn.out, hb.out]⟩
      case measure => simp [intOf]; omega
    · obtain rfl : k = 20 := by omega
      go_wp2
      go_ret
      exact ⟨ret_int h8.out, rfl⟩

end Go.Proofs.YtpjapoaagbdlfaaDoor
