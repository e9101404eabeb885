/- The laws' own comparison of lists. -/
import Derived.Test.YtojfamjgghikoaaGreatDoorSlices
import Derived.BigQuiet
namespace Go.Proofs.YtojfamjgghikoaaGreatDoor
open Go.ChangeShapes Go.WideShapes Go.ChangeAt Go.RowKit

theorem same_l (v u : Value) (xs ys : List Int) (S : Nat) (w : World) (hx : Row w S v xs) (hy : Row w S u ys) (hl : xs.length ≤ 1073741824) (hm : ys.length ≤ 1073741824) :
    Calls Tryz.prog 17 #[v, u] w fun e w' => e = .returned (.bool (sameB xs ys)) ∧ ∃ n, w' = w.drewN n := by
  obtain ⟨a, cap, rfl, ha⟩ := hx
  obtain ⟨c, cap2, rfl, hc⟩ := hy
  by_cases hne : xs.length = ys.length
  · have hb : (((xs.length : Nat) : Int) != ((ys.length : Nat) : Int)) = false := by simp [hne]
    have hne' := Lib.hid hne
    have ha := Lib.hid ha
    have hc := Lib.hid hc
    clear hne
    go_enter Tryz.func17, Tryz.ntmps17
    go_wp2
    go_loopw [5] (fun i wr => ∃ k : Nat, k ≤ xs.length ∧ i = .int .i64 k ∧ Hid (∃ n, wr = w.drewN n) ∧ Hid (∀ j, j < k → xs.getD j 0 = ys.getD j 0)) (fun i _ => xs.length - (intOf i).toNat)
    case atStart => exact ⟨0, Nat.zero_le _, rfl, Lib.hid ⟨0, rfl⟩, Lib.hid (fun j hj => by omega)⟩
    case round =>
      obtain ⟨k, hk, rfl, hw, hsame⟩ := hrel
      obtain ⟨n, rfl⟩ := hw.out
      clear hw
      by_cases hlt : k < xs.length
      · obtain ⟨b1, o1, rfl, s1, c1⟩ := ha.out (by omega)
        have hlt2 : k < ys.length := by have := hne'.out; omega
        obtain ⟨b2, o2, rfl, s2, c2⟩ := hc.out (by omega)
        have k1 : (0 : Int) ≤ (k : Int) := by omega
        have k2 : (k : Int) < (xs.length : Nat) := by omega
        have k3 : (k : Int) < (ys.length : Nat) := by omega
        have e1 := c1 k hlt
        have e2 := c2 k hlt2
        obtain ⟨x, hx⟩ : ∃ x, xs.getD k 0 = x := ⟨_, rfl⟩
        obtain ⟨y, hy⟩ : ∃ y, ys.getD k 0 = y := ⟨_, rfl⟩
        rw [hx] at e1
        rw [hy] at e2
        by_cases hxy : x = y
        · have hsame' := Lib.hid (show ∀ j, j < k + 1 → xs.getD j 0 = ys.getD j 0 from fun j hj => by
            by_cases e : j = k
            · subst e; rw [hx, hy]; exact hxy
            · exact hsame.out j (by omega))
          have hd : (x != y) = false := by simp [hxy]
          clear hsame hxy hx hy c1 c2
          go_wp2
          go_quiet (fail)
          go_wp2
          go_roundw
          case rel => exact ⟨k + 1, by omega, by go_num, Lib.hid ⟨_, by first | rfl | exact drewN_add _ _ _⟩, hsame'⟩
          case measure => simp [intOf]; omega
        · have hf := Lib.hid (show false = sameB xs ys from (decide_eq_false (fun e => hxy (by rw [← hx, ← hy, e]))).symm)
          have hd : (x != y) = true := by simp [hxy]
          clear hsame hxy hx hy c1 c2
          go_wp2
          go_quiet (fail)
          go_wp2
          go_ret
          exact ⟨ret_bool hf.out, _, by first | rfl | exact drewN_add _ _ _⟩
      · have hf := Lib.hid (show true = sameB xs ys from (same_step hne'.out (fun j hj => hsame.out j (by omega))).symm)
        go_wp2
        go_ret
        exact ⟨ret_bool hf.out, _, rfl⟩
  · have hb : (((xs.length : Nat) : Int) != ((ys.length : Nat) : Int)) = true := by simp; omega
    have hf := Lib.hid (show false = sameB xs ys from (decide_eq_false (fun e => hne (by rw [e]))).symm)
    clear ha hc hne
    go_enter Tryz.func17, Tryz.ntmps17
    go_wp2
    go_ret
    exact ⟨ret_bool hf.out, 0, rfl⟩
end Go.Proofs.YtojfamjgghikoaaGreatDoor
