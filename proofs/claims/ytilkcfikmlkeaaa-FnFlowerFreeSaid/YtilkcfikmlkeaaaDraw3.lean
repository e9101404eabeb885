/- The laws' reader: sets below or above those of a list. -/
import Derived.Test.YtilkcfikmlkeaaaDraw2
namespace Go.Proofs.Ytilkcfikmlkeaaa
open Go.ChangeShapes Go.WideShapes Go.ChangeAt Go.RowKit Go.Proofs

/-- some list of at most m numbers. -/
def SomeInts (m : Nat) (w : World) (e : Ending) (w' : World) : Prop := ∃ v L, e = .returned v ∧ L.length ≤ m ∧ OwnL w' w.heap.size v L ∧ Below w.heap.size w w'
set_option maxHeartbeats 4000000 in
theorem closed_at (n : Int) (lv : Value) (xs : List Int) (S : Nat) (dn : Bool) (w : World) (hx : Row w S lv xs) (hS : S ≤ w.heap.size) (hl : xs.length ≤ 1000) (n1 : 1 ≤ n) (n2 : n ≤ 8) :
    Calls Try.prog 42 #[.int .i64 n, lv, .bool dn] w (SomeInts 256 w) := by
  obtain ⟨a, cap, rfl, ha⟩ := hx
  obtain ⟨p1, p2, p3⟩ := pow_nat n1 n2
  obtain ⟨N, hN⟩ : ∃ N : Nat, 2 ^ n.toNat = N := ⟨_, rfl⟩
  rw [hN] at p1 p2 p3
  have hNi : (2 : Int) ^ n.toNat = (N : Nat) := by rw [← hN]; simp
  replace ha := Lib.hid ha
  replace hN := Lib.hid hN
  replace hNi := Lib.hid hNi
  have hn0 : (0 : Int) ≤ n := by omega
  have hn64 : n < 64 := by omega
  go_enter Try.func42, Try.ntmps42
  go_wp2_with fail
  go_loopw [7, 8] (fun v q wr => ∃ (k : Nat) (L : List Int), k ≤ N ∧ q = .int .i64 k ∧ L.length ≤ k ∧ Hid (OwnL wr w.heap.size v L) ∧ Hid (Below w.heap.size w wr)) (fun _ q _ => N - (intOf q).toNat)
  case atStart => exact ⟨0, [], by omega, rfl, by simp, Lib.hid (OwnL.lit w (Nat.le_refl _)), Lib.hid ((Below.refl _ _).alloc (Nat.le_refl _) _)⟩
  case round =>
    obtain ⟨k, L, hk, rfl, hLk, hown, hbel⟩ := hrel
    obtain ⟨a', c', rfl⟩ := hown.out.form
    have hsz := hbel.out.size
    by_cases hlt : k < N
    · have k1 : (0 : Int) ≤ (k : Int) := by omega
      have k2 : (k : Int) < (N : Nat) := by omega
      have hr := Lib.hid (show ∀ j, j < xs.length → ∃ b off, a = some ⟨b, off, none⟩ ∧ wr.cell? ⟨b, off + j, none⟩ = some (.int .i64 (xs.getD j 0)) from fun j hj => by
        obtain ⟨b1, o1, e, s1, c1⟩ := ha.out (by omega)
        exact ⟨b1, o1, e, (hbel.out.cell (p := ⟨b1, o1 + j, none⟩) (show b1 < w.heap.size by omega)).trans (c1 j hj)⟩)
      go_wp2_with fail
      replace p3 := Lib.hid p3
      go_loop [9, 10] (fun b i => ∃ (j : Nat) (bb : Bool), j ≤ xs.length ∧ i = .int .i64 j ∧ b = .bool bb) (fun _ i => xs.length - (intOf i).toNat)
      case atStart => exact ⟨0, false, by omega, rfl, rfl⟩
      case round =>
        obtain ⟨j, bb, hj, rfl, rfl⟩ := hrel
        by_cases hlj : j < xs.length
        · obtain ⟨b1, o1, rfl, e1⟩ := hr.out j hlj
          have j1 : (0 : Int) ≤ (j : Int) := by omega
          have j2 : (j : Int) < (xs.length : Nat) := by omega
          obtain ⟨x, hx0⟩ : ∃ x, xs.getD j 0 = x := ⟨_, rfl⟩
          rw [hx0] at e1
          replace hx0 := Lib.hid hx0
          cases bb
          · cases dn
            · go_wp2_with fail
              refine (part_at _ _ _).mono ?_
              rintro e w' ⟨c9, rfl, rfl⟩
              cases c9
              all_goals
                go_wp2_with fail
                first | (exact ⟨⟨j + 1, _, by omega, by go_num, rfl⟩, by simp [intOf]; omega⟩) | (refine ⟨⟨trivial, ?_⟩, by simp [intOf]; omega⟩; (repeat apply Exists.intro); refine ⟨?_, rfl⟩; exact ⟨j + 1, _, by omega, by go_num, rfl⟩)
            · go_wp2_with fail
              refine (part_at _ _ _).mono ?_
              rintro e w' ⟨c9, rfl, rfl⟩
              cases c9
              all_goals
                go_wp2_with fail
                first | (exact ⟨⟨j + 1, _, by omega, by go_num, rfl⟩, by simp [intOf]; omega⟩) | (refine ⟨⟨trivial, ?_⟩, by simp [intOf]; omega⟩; (repeat apply Exists.intro); refine ⟨?_, rfl⟩; exact ⟨j + 1, _, by omega, by go_num, rfl⟩)
          · cases dn
            all_goals
              go_wp2_with fail
              first | (exact ⟨⟨j + 1, _, by omega, by go_num, rfl⟩, by simp [intOf]; omega⟩) | (refine ⟨⟨trivial, ?_⟩, by simp [intOf]; omega⟩; (repeat apply Exists.intro); refine ⟨?_, rfl⟩; exact ⟨j + 1, _, by omega, by go_num, rfl⟩)
        · obtain rfl : j = xs.length := by omega
          cases bb
          · go_wp2_with fail
            first | (exact ⟨⟨k + 1, L, by omega, by go_num, by omega, hown, hbel⟩, by simp [intOf]; omega⟩) | (go_roundw; (case rel => exact ⟨k + 1, L, by omega, by go_num, by omega, hown, hbel⟩); (case measure => simp [intOf]; omega))
          · have hB1 : w.heap.size ≤ (wr.alloc (.cells #[.int .i64 (k : Int)] 3)).heap.size := by rw [World.size_alloc]; omega
            go_wp2_with (at_builtin; refine app_int rfl _ _ rfl w.heap.size _ L rfl (hown.out.alloc _) (k : Int) wr.heap.size rfl (cell_new _ _ _) (by omega) hB1 ?_; intro v' w1 hown1 hb1)
            replace hown1 := Lib.hid hown1
            have hb2 := Lib.hid ((hbel.out.alloc hsz _).trans hb1)
            have hlen1 : (L ++ [(k : Int)]).length ≤ k + 1 := by simp; omega
            first | (exact ⟨⟨k + 1, _, by omega, by go_num, hlen1, hown1, hb2⟩, by simp [intOf]; omega⟩) | (go_roundw; (case rel => exact ⟨k + 1, _, by omega, by go_num, hlen1, hown1, hb2⟩); (case measure => simp [intOf]; omega))
    · obtain rfl : k = N := by omega
      go_wp2_with fail
      go_ret
      exact ⟨_, L, rfl, by omega, hown.out, hbel.out⟩
end Go.Proofs.Ytilkcfikmlkeaaa
