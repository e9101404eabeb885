/- The laws of levels and first sets. -/
import Derived.Test.YtcejbebepjkpnaaSh2
import Derived.Test.YtcejbebepjkpnaaFLaws
namespace Go.Proofs.Ytcejbebepjkpnaa
open Go.ChangeShapes Go.WideShapes Go.ChangeAt Go.RowKit Go.Proofs
theorem Law_LevelNew (n k : Int) (w : World) : Calls Try.prog 5 #[.int .i64 n, .int .i64 k] w fun e w' => e = .returned (.bool true) ∧ Below w.heap.size w w' :=
  law_FamilyLevel_at n k _ _ (ifL_len fun hb => by
    obtain ⟨n1, n2, _⟩ := szB_yes hb
    have := levL_len256 (k := k) n1 n2
    omega) (fun _ => True) (fun _ _ _ _ => trivial) (fun W _ => im_LevelNew n k W) (fun W _ => sp_FamilyLevel n k W) w trivial
theorem law_ShadowFirst_at (n k m : Int) (L : List Int) (b : Bool) (hL : L.length ≤ 1000000) (P0 : World → Prop) (hP : ∀ W W', P0 W → Below W.heap.size W W' → P0 W')
    (hi : ∀ W, P0 W → Calls Try.prog 22 #[.int .i64 n, .int .i64 k, .int .i64 m] W fun e w' => ∃ v, e = .returned (.tuple #[v, .bool b]) ∧ Own w' W.heap.size w'.heap.size v L ∧ Below W.heap.size W w')
    (hs : ∀ W, P0 W → Calls Try.prog 21 #[.int .i64 n, .int .i64 k, .int .i64 m] W fun e w' => ∃ v, e = .returned (.tuple #[v, .bool b]) ∧ Own w' W.heap.size w'.heap.size v L ∧ Below W.heap.size W w')
    (w : World) (h0 : P0 w) : Calls Try.prog 6 #[.int .i64 n, .int .i64 k, .int .i64 m] w fun e w' => e = .returned (.bool true) ∧ Below w.heap.size w w' := by
  have hi := Lib.hid hi
  have hs := Lib.hid hs
  have h0 := Lib.hid h0
  have hP := Lib.hid hP
  have hsame : sameB L L = true := decide_eq_true rfl
  have hbb : (b != b) = false := by simp
  go_enter Try.func6, Try.ntmps6
  go_wp2_with fail
  refine (hs.out _ h0.out).mono ?_
  rintro e w1 ⟨v0, rfl, hO0, hb1⟩
  obtain ⟨a0, c0, rfl, _⟩ := id hO0
  have hO0 := Lib.hid hO0
  have h1 := Lib.hid (hP.out _ _ h0.out hb1)
  go_wp2_with fail
  refine (hi.out _ h1.out).mono ?_
  rintro e w2 ⟨v1, rfl, hO1, hb2⟩
  obtain ⟨a1, c1, rfl, _⟩ := id hO1
  have hO1 := Lib.hid hO1
  have hR0 := Lib.hid ((hO0.out.row.below hb2 (Nat.le_refl _)).mono hb2.size)
  go_wp2_with fail
  refine (eq_ints _ _ L L _ _ hO1.out.row hR0.out (by omega) (by omega)).mono ?_
  rintro e w' ⟨rfl, n1, rfl⟩
  go_wp2_with fail
  refine (mark_ints _ L 1 _ _ _ (hO1.out.drewN n1) (by omega) (by omega) (by omega)).mono ?_
  rintro e w3 ⟨rfl, hO3, hb3⟩
  have hO3 := Lib.hid hO3
  go_wp2_with fail
  have hlen : (marks 1 L.length).length ≤ 1000000 := by rw [marks_len]; exact hL
  refine (held_ints _ (marks 1 L.length) 1 _ _ (by have := hO3.out.row; exact this) (by omega) (by omega) (by omega)).mono ?_
  rintro e w' ⟨rfl, rfl⟩
  rw [heldV_marks]
  have hq : (0 : Int) ≤ 1 + (L.length : Nat) := by omega
  have hqq : ((1 : Int) + (L.length : Nat) != 1 + (L.length : Nat)) = false := by simp
  have s1 := hb1.size
  have s2 := hb2.size
  have s3 : w2.heap.size ≤ w3.heap.size := hb3.size
  have hb123 := Lib.hid ((hb1.trans (hb2.mono s1)).trans ((below_drewN (Below.refl _ w2) n1).trans (hb3.mono s1)))
  have h3 := Lib.hid (hP.out _ _ h0.out hb123.out)
  go_wp2_with fail
  refine (hi.out _ h3.out).mono ?_
  rintro e w4 ⟨v4, rfl, hO4, hb4⟩
  obtain ⟨a4, c4, rfl, _⟩ := id hO4
  have hO4 := Lib.hid hO4
  have s4 := hb4.size
  have hR4 := Lib.hid ((((hO0.out.row.below hb2 (Nat.le_refl _)).drewN n1).below hb3 (Nat.le_refl _)).below hb4 (by omega))
  have hO5 := Lib.hid (hO3.out.below hb4 s3)
  go_wp2_with fail
  refine (eq_ints _ _ L L w4.heap.size _ hO4.out.row (hR4.out.mono (by omega)) (by omega) (by omega)).mono ?_
  rintro e w' ⟨rfl, n5, rfl⟩
  go_wp2_with fail
  refine (held_ints _ (marks 1 L.length) 1 _ _ ((hO5.out.drewN n5).row) (by omega) (by omega) (by omega)).mono ?_
  rintro e w' ⟨rfl, rfl⟩
  rw [heldV_marks]
  go_wp2_with fail
  go_ret
  exact ⟨rfl, below_drewN (hb123.out.trans (hb4.mono (by omega))) n5⟩
theorem Law_ShadowFirst (n k m : Int) (w : World) : Calls Try.prog 6 #[.int .i64 n, .int .i64 k, .int .i64 m] w fun e w' => e = .returned (.bool true) ∧ Below w.heap.size w w' :=
  law_ShadowFirst_at n k m _ _ (fst_small n k m) (fun _ => True) (fun _ _ _ _ => trivial) (fun W _ => im_ShadowFirst n k m W) (fun W _ => sp_ShadowFirst_own n k m W) w trivial
end Go.Proofs.Ytcejbebepjkpnaa
