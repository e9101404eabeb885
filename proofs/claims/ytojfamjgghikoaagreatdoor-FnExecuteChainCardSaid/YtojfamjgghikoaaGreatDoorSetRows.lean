/- Lists of sets in memory; looking a set up in an ascending list. -/
import Derived.Test.YtojfamjgghikoaaGreatDoorSlices
import Derived.Test.YtojfamjgghikoaaGreatDoorFam
import Derived.Test.YtojfamjgghikoaaGreatDoorAppend
import Derived.Deep.LoopGhost
namespace Go.Proofs.YtojfamjgghikoaaGreatDoor
open Go.ChangeShapes Go.WideShapes Go.ChangeAt Go.RowKit

/-- v reads as a list of sets; its cells lie below block S. -/
def SRow (w : World) (S : Nat) (v : Value) (xs : List Int) : Prop :=
  ∃ a cap, v = .slice a xs.length cap ∧ (0 < xs.length → ∃ b off, a = some ⟨b, off, none⟩ ∧ b < S ∧ ∀ i, i < xs.length → w.cell? ⟨b, off + i, none⟩ = some (.int .u64 (xs.getD i 0)))
theorem SRow.below {w w' : World} {S B : Nat} {v : Value} {xs : List Int} (h : SRow w S v xs) (hb : Below B w w') (hS : S ≤ B) : SRow w' S v xs := by
  obtain ⟨a, cap, rfl, h⟩ := h
  refine ⟨a, cap, rfl, fun hl => ?_⟩
  obtain ⟨b, off, rfl, hs, hc⟩ := h hl
  exact ⟨b, off, rfl, hs, fun i hi => (hb.cell (p := ⟨b, off + i, none⟩) (show b < B by omega)).trans (hc i hi)⟩
theorem SRow.mono {w : World} {S S' : Nat} {v : Value} {xs : List Int} (h : SRow w S v xs) (hS : S ≤ S') : SRow w S' v xs := by
  obtain ⟨a, cap, rfl, h⟩ := h
  refine ⟨a, cap, rfl, fun hl => ?_⟩
  obtain ⟨b, off, rfl, hs, hc⟩ := h hl
  exact ⟨b, off, rfl, by omega, hc⟩
theorem SRow.nil (w : World) (S : Nat) : SRow w S (.slice none 0 0) [] := ⟨none, 0, rfl, fun h => by simp at h⟩

/-- what cmp.Compare says. -/
def cmpI (x y : Int) : Int := if x < y then -1 else if y < x then 1 else 0
theorem cmp_set (x y : Int) (w : World) : Calls Tryz.prog 188 #[.int .u64 x, .int .u64 y] w fun e w' => e = .returned (.int .i64 (cmpI x y)) ∧ w = w' := by
  by_cases h1 : x < y
  · have hf := Lib.hid (show (-1 : Int) = cmpI x y by unfold cmpI; rw [if_pos h1])
    go_enter Tryz.func188, Tryz.ntmps188
    go_wp2
    go_ret
    exact ⟨ret_int hf.out, rfl⟩
  · by_cases h2 : y < x
    · have hf := Lib.hid (show (1 : Int) = cmpI x y by unfold cmpI; rw [if_neg h1, if_pos h2])
      go_enter Tryz.func188, Tryz.ntmps188
      go_wp2
      go_ret
      exact ⟨ret_int hf.out, rfl⟩
    · have hf := Lib.hid (show (0 : Int) = cmpI x y by unfold cmpI; rw [if_neg h1, if_neg h2])
      go_enter Tryz.func188, Tryz.ntmps188
      go_wp2
      go_ret
      exact ⟨ret_int hf.out, rfl⟩

theorem ret_ib2 {a b : Int} {c d : Bool} (h : a = b) (h2 : c = d) : Ending.returned (.tuple #[.int .i64 a, .bool c]) = .returned (.tuple #[.int .i64 b, .bool d]) := by rw [h, h2]
set_option maxHeartbeats 1000000 in
theorem bs_set (v : Value) (xs : List Int) (x : Int) (S : Nat) (w : World) (hx : SRow w S v xs) (hA : Asc xs) (hl : xs.length ≤ 100000) :
    Calls Tryz.prog 244 #[v, .int .u64 x, (Value.func (.func 188) #[] #[])] w fun e w' => e = .returned (.tuple #[.int .i64 (plN x xs : Nat), .bool (memB x xs)]) ∧ w = w' := by
  obtain ⟨a, cap, rfl, ha⟩ := hx
  replace ha := Lib.hid ha
  have hmem := Lib.hid (mem_at (x := x) hA)
  replace hA := Lib.hid hA
  go_enter Tryz.func244, Tryz.ntmps244
  go_wp2_with fail
  go_loop [9, 10] (fun p q => ∃ i j : Nat, i ≤ j ∧ j ≤ xs.length ∧ p = .int .i64 i ∧ q = .int .i64 j ∧ Hid (∀ k, k < i → xs.getD k 0 < x) ∧ Hid (∀ k, j ≤ k → k < xs.length → x ≤ xs.getD k 0)) (fun p q => (intOf q - intOf p).toNat)
  case atStart => exact ⟨0, xs.length, by omega, by omega, rfl, rfl, Lib.hid (fun k hk => by omega), Lib.hid (fun k h1 h2 => by omega)⟩
  case round =>
    obtain ⟨i, j, hij, hj, rfl, rfl, hlo, hhi⟩ := hrel
    by_cases hlt : i < j
    · obtain ⟨b1, o1, rfl, s1, c1⟩ := ha.out (by omega)
      have e1 := c1 ((i + j) / 2) (by omega)
      obtain ⟨y, hy⟩ : ∃ y, xs.getD ((i + j) / 2) 0 = y := ⟨_, rfl⟩
      rw [hy] at e1
      clear c1
      by_cases hyx : y < x
      · have hlo' := Lib.hid (show ∀ k, k < (i + j) / 2 + 1 → xs.getD k 0 < x from fun k hk => by
          by_cases e : k = (i + j) / 2
          · subst e; rw [hy]; exact hyx
          · have := asc_get hA.out (i := k) (j := (i + j) / 2) (by omega) (by omega); omega)
        have hc := cmp_set y x
        rw [show cmpI y x = -1 from by unfold cmpI; rw [if_pos hyx]] at hc
        replace hc := Lib.hid hc
        replace hy := Lib.hid hy
        clear hlo
        go_wp2_with (go_at_call 188; refine (hc.out _).mono ?_; rintro e w' ⟨rfl, rfl⟩)
        go_round
        case rel => exact ⟨(i + j) / 2 + 1, j, by omega, by omega, by go_num, rfl, hlo', hhi⟩
        case measure => simp [intOf]; omega
      · have hhi' := Lib.hid (show ∀ k, (i + j) / 2 ≤ k → k < xs.length → x ≤ xs.getD k 0 from fun k hk h2 => by
          by_cases e : k = (i + j) / 2
          · subst e; rw [hy]; omega
          · have := asc_get hA.out (i := (i + j) / 2) (j := k) (by omega) (by omega); omega)
        obtain ⟨c, hc0, hc1⟩ : ∃ c, c = cmpI y x ∧ 0 ≤ c := ⟨_, rfl, by unfold cmpI; rw [if_neg hyx]; split <;> omega⟩
        have hc := cmp_set y x
        rw [← hc0] at hc
        replace hc := Lib.hid hc
        replace hy := Lib.hid hy
        clear hhi hc0
        go_wp2_with (go_at_call 188; refine (hc.out _).mono ?_; rintro e w' ⟨rfl, rfl⟩)
        go_round
        case rel => exact ⟨i, (i + j) / 2, by omega, by omega, rfl, by go_num, hlo, hhi'⟩
        case measure => simp [intOf]; omega
    · obtain rfl : i = j := by omega
      have hp := Lib.hid (plN_eq hj hlo.out hhi.out)
      clear hlo hhi
      by_cases hn : i < xs.length
      · obtain ⟨b1, o1, rfl, s1, c1⟩ := ha.out (by omega)
        have e1 := c1 i hn
        obtain ⟨y, hy⟩ : ∃ y, xs.getD i 0 = y := ⟨_, rfl⟩
        rw [hy] at e1
        clear c1
        have hm := hmem.out
        rw [← hp.out, hy, decide_eq_true hn, Bool.true_and] at hm
        have hc := cmp_set y x
        by_cases e : y = x
        · have hm2 := Lib.hid (show true = memB x xs by rw [hm]; exact (decide_eq_true e).symm)
          rw [show cmpI y x = 0 from by unfold cmpI; rw [if_neg (by omega), if_neg (by omega)]] at hc
          replace hc := Lib.hid hc
          clear hm hmem e hy
          go_wp2_with (go_at_call 188; refine (hc.out _).mono ?_; rintro e w' ⟨rfl, rfl⟩)
          go_ret2
          exact ⟨ret_ib2 (by rw [hp.out]) hm2.out, rfl⟩
        · have hm2 := Lib.hid (show false = memB x xs by rw [hm]; exact (decide_eq_false e).symm)
          obtain ⟨c, hc0, hc1⟩ : ∃ c, c = cmpI y x ∧ (c == 0) = false := ⟨_, rfl, by
            unfold cmpI
            by_cases h1 : y < x
            · rw [if_pos h1]; rfl
            · rw [if_neg h1, if_pos (by omega)]; rfl⟩
          rw [← hc0] at hc
          replace hc := Lib.hid hc
          clear hm hmem e hy hc0
          go_wp2_with (go_at_call 188; refine (hc.out _).mono ?_; rintro e w' ⟨rfl, rfl⟩)
          go_ret2
          exact ⟨ret_ib2 (by rw [hp.out]) hm2.out, rfl⟩
      · have hm := hmem.out
        rw [← hp.out, decide_eq_false hn, Bool.false_and] at hm
        replace hm := Lib.hid hm.symm
        clear hmem
        go_wp2_with fail
        go_ret2
        exact ⟨ret_ib2 (by rw [hp.out]) hm.out, rfl⟩
end Go.Proofs.YtojfamjgghikoaaGreatDoor
