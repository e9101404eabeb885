/- UnionOften: the program, the model, the exact law. -/
import Derived.Test.YtjhjmbiecihjhaaDoorUo1
import Derived.Test.YtjhjmbiecihjhaaDoorLawBool
namespace Go.Proofs.YtjhjmbiecihjhaaDoor
open Go.ChangeShapes Go.WideShapes Go.ChangeAt Go.RowKit Go.Proofs

/-- UnionOften holds. -/
def oftB (n : Int) (xs : List Int) : Bool := famB n xs && !decide (xs.length = 0)
noncomputable def oftP (n : Int) (xs : List Int) : Int := if oftB n xs then ((bstI (degL n.toNat xs) : Nat) : Int) else 0
noncomputable def oftM (n : Int) (xs : List Int) : Int := if oftB n xs then maxI (degL n.toNat xs) else 0
set_option maxHeartbeats 2000000 in
theorem im_UnionOften (n : Int) (lv : Value) (xs : List Int) (S : Nat) (w : World) (hx : Row w S lv xs) (hS : S ≤ w.heap.size) (hl : xs.length ≤ 100000000) (hT : Tab w) :
    Calls Tryd.prog 11 #[.int .i64 n, lv] w fun e w' => e = .returned (.tuple #[.int .i64 (oftP n xs), .int .i64 (oftM n xs), .bool (oftB n xs)]) ∧ Below w.heap.size w w' := by
  have h1 := im_FamilyDegrees n lv xs S w hx hS hl hT
  obtain ⟨a, cap, rfl, _⟩ := id hx
  clear hx hT
  unfold oftP oftM
  rcases (by cases famB n xs <;> simp : famB n xs = true ∨ famB n xs = false) with hf | hf
  · rw [hf] at h1
    by_cases h0 : xs.length = 0
    · have hb : oftB n xs = false := by unfold oftB; rw [hf, decide_eq_true h0]; rfl
      have hxz : (((xs.length : Nat) : Int) == 0) = true := by simp [h0]
      rw [hb, if_neg (by simp), if_neg (by simp)]
      replace h1 := Lib.hid h1
      replace hb := Lib.hid hb
      replace h0 := Lib.hid h0
      replace hf := Lib.hid hf
      go_enter Tryd.func11, Tryd.ntmps11
      go_wp2_with fail
      refine h1.out.mono ?_
      rintro e w1 ⟨v, rfl, hO, hb1⟩
      obtain ⟨ua, uc, rfl, _⟩ := id hO
      replace hb1 := Lib.hid hb1
      clear h1 hO
      go_wp2_with fail
      go_ret3
      exact ⟨rfl, hb1.out⟩
    · have hb : oftB n xs = true := by unfold oftB; rw [hf, decide_eq_false h0]; rfl
      have hxz : (((xs.length : Nat) : Int) == 0) = false := by rw [beq_eq_false_iff_ne]; omega
      rw [hb, if_pos rfl, if_pos rfl]
      obtain ⟨n1, n2, _⟩ := famB_all hf
      have hdl : (degL n.toNat xs).length = n.toNat := degL_len _ _
      obtain ⟨ds, hds⟩ : ∃ ds, degL n.toNat xs = ds := ⟨_, rfl⟩
      rw [hds] at hdl h1 ⊢
      have h1' : Calls Tryd.prog 18 #[.int .i64 n, .slice a xs.length cap] w (ListPost ds true w) := h1
      have hd0 : 0 < ds.length := by omega
      have hd9 : ds.length ≤ 1000 := by omega
      replace h1 := Lib.hid h1'
      replace hdl := Lib.hid hdl
      replace hds := Lib.hid hds
      replace hb := Lib.hid hb
      replace h0 := Lib.hid h0
      replace hf := Lib.hid hf
      clear h1'
      go_enter Tryd.func11, Tryd.ntmps11
      go_wp2_with fail
      refine h1.out.mono ?_
      rintro e w1 ⟨v, rfl, hO, hb1⟩
      obtain ⟨ua, uc, rfl, _⟩ := id hO
      have hm := Lib.hid (max_ints _ ds w1.heap.size w1 hO.row hd0 hd9)
      have hix := Lib.hid (fun q : Nat => index_ints _ ds w1.heap.size (w1.drewN q) (hO.row.drewN q) hd0 hd9)
      replace hb1 := Lib.hid hb1
      clear h1 hO
      go_wp2_with fail
      refine hm.out.mono ?_
      rintro e w2 ⟨rfl, q, rfl⟩
      obtain ⟨M, hM⟩ : ∃ M, maxI ds = M := ⟨_, rfl⟩
      rw [hM] at hix ⊢
      replace hM := Lib.hid hM
      go_wp2_with fail
      refine (hix.out _).mono ?_
      rintro e w3 ⟨rfl, q3, rfl⟩
      go_wp2_with fail
      go_ret3
      exact ⟨by rw [hM.out]; rfl, below_drewN hb1.out _⟩
  · have hb : oftB n xs = false := by unfold oftB; rw [hf]; rfl
    rw [hf] at h1
    rw [hb, if_neg (by simp), if_neg (by simp)]
    replace h1 := Lib.hid h1
    replace hb := Lib.hid hb
    replace hf := Lib.hid hf
    go_enter Tryd.func11, Tryd.ntmps11
    go_wp2_with fail
    refine h1.out.mono ?_
    rintro e w1 ⟨v, rfl, hO, hb1⟩
    obtain ⟨ua, uc, rfl, _⟩ := id hO
    replace hb1 := Lib.hid hb1
    clear h1 hO
    go_wp2_with fail
    go_ret3
    exact ⟨rfl, hb1.out⟩
set_option maxHeartbeats 4000000 in
theorem sp_UnionOften (n : Int) (lv : Value) (xs : List Int) (S : Nat) (w : World) (hx : Row w S lv xs) (hS : S ≤ w.heap.size) (hl : xs.length ≤ 100000000) :
    Calls Tryd.prog 9 #[.int .i64 n, lv] w fun e w' => e = .returned (.tuple #[.int .i64 (oftP n xs), .int .i64 (oftM n xs), .bool (oftB n xs)]) ∧ Below w.heap.size w w' := by
  have h1 := sp_FamilyIn n lv xs S w hx (by omega)
  have hx0 := hx
  obtain ⟨a, cap, rfl, _⟩ := id hx
  clear hx
  unfold oftP oftM
  rcases (by cases famB n xs <;> simp : famB n xs = true ∨ famB n xs = false) with hf | hf
  · rw [hf] at h1
    by_cases h0 : xs.length = 0
    · have hb : oftB n xs = false := by unfold oftB; rw [hf, decide_eq_true h0]; rfl
      have hxz : (((xs.length : Nat) : Int) == 0) = true := by simp [h0]
      rw [hb, if_neg (by simp), if_neg (by simp)]
      replace h1 := Lib.hid h1
      replace hb := Lib.hid hb
      replace h0 := Lib.hid h0
      replace hf := Lib.hid hf
      go_enter Tryd.func9, Tryd.ntmps9
      go_wp2_with fail
      refine h1.out.mono ?_
      rintro e w1 ⟨rfl, q, rfl⟩
      go_wp2_with fail
      go_ret3
      exact ⟨rfl, below_drewN (Below.refl _ _) _⟩
    · have hb : oftB n xs = true := by unfold oftB; rw [hf, decide_eq_false h0]; rfl
      have hxz : (((xs.length : Nat) : Int) == 0) = false := by rw [beq_eq_false_iff_ne]; omega
      rw [hb, if_pos rfl, if_pos rfl]
      obtain ⟨n1, n2, _⟩ := famB_all hf
      have hdl : (degL n.toNat xs).length = n.toNat := degL_len _ _
      have hdg := Lib.hid (fun q : Nat => degrees_at n _ xs S (w.drewN q) (hx0.drewN q) hS hf)
      obtain ⟨N, hN⟩ : ∃ N : Nat, n.toNat = N := ⟨_, rfl⟩
      obtain rfl : n = (N : Nat) := by omega
      rw [hN] at hdl hdg ⊢
      obtain ⟨ds, hds⟩ : ∃ ds, degL N xs = ds := ⟨_, rfl⟩
      rw [hds] at hdl hdg ⊢
      have hfin : ∀ b, IsBest ds ds.length b → b = bstI ds ∧ ds.getD b 0 = maxI ds := fun b h => by
        have e := bstL_eq h
        exact ⟨e.symm, by unfold maxI; rw [e]⟩
      replace hfin := Lib.hid hfin
      replace h1 := Lib.hid h1
      replace hds := Lib.hid hds
      replace hb := Lib.hid hb
      replace h0 := Lib.hid h0
      replace hf := Lib.hid hf
      replace hN := Lib.hid hN
      have hdl2 := Lib.hid hdl
      clear hdl
      go_enter Tryd.func9, Tryd.ntmps9
      go_wp2_with fail
      refine h1.out.mono ?_
      rintro e w1 ⟨rfl, q, rfl⟩
      clear h1
      go_wp2_with fail
      refine (hdg.out q).mono ?_
      rintro e w2 ⟨v, rfl, hO, hb2⟩
      obtain ⟨ua, uc, rfl, hcc⟩ := hO.row
      replace hb2 := Lib.hid ((below_drewN (Below.refl w.heap.size w) q).trans hb2)
      obtain ⟨b1, o1, rfl, s1, c1⟩ := hcc (by have := hdl2.out; omega)
      rw [hdl2.out]
      replace c1 := Lib.hid c1
      clear hdg hO hcc
      go_wp2_with fail
      go_loopw [8, 9] (fun b p wr => ∃ k r : Nat, 1 ≤ k ∧ k ≤ N ∧ p = .int .i64 k ∧ b = .int .i64 r ∧ Hid (∃ n, wr = w2.drewN n) ∧ Hid (IsBest ds k r)) (fun _ p _ => N - (intOf p).toNat)
      case atStart => exact ⟨1, 0, by omega, by omega, rfl, rfl, Lib.hid ⟨0, rfl⟩, Lib.hid (best_one ds)⟩
      case round =>
        obtain ⟨k, r, hk1, hk, rfl, rfl, hw, hm⟩ := hrel
        obtain ⟨q3, rfl⟩ := hw.out
        clear hw
        have hr1 := hm.out.1
        have e2 : w2.cell? ⟨b1, o1 + r, none⟩ = some (.int .i64 (ds.getD r 0)) := c1.out r (by have := hdl2.out; omega)
        have r1 : (0 : Int) ≤ (r : Int) := by omega
        have r2 : (r : Int) < (N : Nat) := by omega
        by_cases hlt : k < N
        · have k1 : (0 : Int) ≤ (k : Int) := by omega
          have k2 : (k : Int) < (N : Nat) := by omega
          have e1 : w2.cell? ⟨b1, o1 + k, none⟩ = some (.int .i64 (ds.getD k 0)) := c1.out k (by have := hdl2.out; omega)
          have hst := best_step hm.out
          obtain ⟨x, hx⟩ : ∃ x, ds.getD k 0 = x := ⟨_, rfl⟩
          obtain ⟨y, hy⟩ : ∃ y, ds.getD r 0 = y := ⟨_, rfl⟩
          rw [hx, hy] at hst
          rw [hx] at e1
          rw [hy] at e2
          replace hx := Lib.hid hx
          replace hy := Lib.hid hy
          by_cases hxy : y < x
          · rw [if_pos hxy] at hst
            replace hst := Lib.hid hst
            go_wp2_with fail
            go_quiet (fail)
            go_wp2_with fail
            go_roundw
            case rel => exact ⟨k + 1, k, by omega, by omega, by go_num, rfl, Lib.hid ⟨_, by first | rfl | exact drewN_add _ _ _⟩, hst⟩
            case measure => simp [intOf]; omega
          · rw [if_neg hxy] at hst
            replace hst := Lib.hid hst
            go_wp2_with fail
            go_quiet (fail)
            go_wp2_with fail
            go_roundw
            case rel => exact ⟨k + 1, r, by omega, by omega, by go_num, rfl, Lib.hid ⟨_, by first | rfl | exact drewN_add _ _ _⟩, hst⟩
            case measure => simp [intOf]; omega
        · obtain rfl : k = N := by omega
          obtain ⟨f1, f2⟩ := hfin.out r (by rw [hdl2.out]; exact hm.out)
          obtain ⟨y, hy⟩ : ∃ y, ds.getD r 0 = y := ⟨_, rfl⟩
          rw [hy] at e2 f2
          replace hy := Lib.hid hy
          replace f1 := Lib.hid f1
          replace f2 := Lib.hid f2
          go_wp2_with fail
          go_quiet (fail)
          go_wp2_with fail
          go_ret3
          exact ⟨by rw [← f1.out, ← f2.out]; rfl, below_drewN (below_drewN hb2.out _) _⟩
  · have hb : oftB n xs = false := by unfold oftB; rw [hf]; rfl
    rw [hf] at h1
    rw [hb, if_neg (by simp), if_neg (by simp)]
    replace h1 := Lib.hid h1
    replace hb := Lib.hid hb
    replace hf := Lib.hid hf
    clear hx0
    go_enter Tryd.func9, Tryd.ntmps9
    go_wp2_with fail
    refine h1.out.mono ?_
    rintro e w1 ⟨rfl, q, rfl⟩
    go_wp2_with fail
    go_ret3
    exact ⟨rfl, below_drewN (Below.refl _ _) _⟩
set_option maxHeartbeats 4000000 in
theorem law_UnionOften (n : Int) (v : Value) (xs : List Int) (w : World) (hx : Row w w.heap.size v xs) (hl : xs.length ≤ 9223372036854775807) (c d : Int) (b : Bool)
    (hi : ∀ (W : World) (u : Value) (S : Nat), Row W S u xs → S ≤ W.heap.size → xs.length ≤ 100000000 → Tab W → Calls Tryd.prog 11 #[.int .i64 n, u] W fun e w' => e = .returned (.tuple #[.int .i64 c, .int .i64 d, .bool b]) ∧ Below W.heap.size W w')
    (hs : ∀ (W : World) (u : Value) (S : Nat), Row W S u xs → S ≤ W.heap.size → xs.length ≤ 100000000 → Calls Tryd.prog 9 #[.int .i64 n, u] W fun e w' => e = .returned (.tuple #[.int .i64 c, .int .i64 d, .bool b]) ∧ Below W.heap.size W w') :
    Tab w → Calls Tryd.prog 3 #[.int .i64 n, v] w fun e w' => e = .returned (.bool true) ∧ Below w.heap.size w w' := by
  intro hT
  have hx' := hx
  obtain ⟨a, cap, rfl, _⟩ := hx'
  by_cases hbig : 1048576 < xs.length
  · go_enter Tryd.func3, Tryd.ntmps3
    go_wp2_with fail
    go_ret
    exact ⟨rfl, Below.refl _ _⟩
  · have hl2 : xs.length ≤ 1048576 := by omega
    have hl3 : xs.length ≤ 100000000 := by omega
    have hR := Lib.hid hx
    replace hi := Lib.hid (fun W u S h1 h2 h3 => hi W u S h1 h2 hl3 h3)
    replace hs := Lib.hid (fun W u S h1 h2 => hs W u S h1 h2 hl3)
    have hcc : (c != c) = false := by simp
    have hdd : (d != d) = false := by simp
    have hbb : (b != b) = false := by simp
    have hsamx := Lib.hid (same_self xs)
    clear hx hbig
    go_enter Tryd.func3, Tryd.ntmps3
    go_wp2_with fail
    refine (to_ints _ xs _ _ hR.out (by omega) (Nat.le_refl _)).mono ?_
    rintro e w1 ⟨u, rfl, hu, hb1⟩
    obtain ⟨ua, uc, rfl, _⟩ := id hu
    have z1 := hb1.size
    have c2 := Lib.hid (hs.out _ _ _ hu.row (Nat.le_refl _))
    have hR1 := Lib.hid (hR.out.below hb1 (Nat.le_refl _))
    replace hb1 := Lib.hid hb1
    clear hu hs
    go_wp2_with fail
    refine c2.out.mono ?_
    rintro e w2 ⟨rfl, hb2⟩
    have z2 := hb2.size
    have hR2 := Lib.hid (hR1.out.below hb2 z1)
    replace hb2 := Lib.hid (hb1.out.trans (hb2.mono z1))
    clear c2
    go_wp2_with fail
    refine (to_ints _ xs _ _ hR2.out (by omega) (by omega)).mono ?_
    rintro e w3 ⟨x1, rfl, hX3, hb3⟩
    obtain ⟨xa, xc, rfl, _⟩ := id hX3
    have z3 : w2.heap.size ≤ w3.heap.size := hb3.size
    have c4 := Lib.hid (hi.out _ _ _ hX3.row (Nat.le_refl _) (hT.below (hb2.out.trans (hb3.mono (by omega))) hT.lt))
    have hR3 := Lib.hid (hR2.out.below hb3 (by omega))
    have hX3' := Lib.hid hX3.row
    replace hb3 := Lib.hid (hb2.out.trans (hb3.mono (by omega)))
    clear hX3
    go_wp2_with fail
    refine c4.out.mono ?_
    rintro e w4 ⟨rfl, hb4⟩
    have z4 := hb4.size
    have hR4 := Lib.hid (hR3.out.below hb4 (by omega))
    have hX4 := Lib.hid (hX3'.out.below hb4 (Nat.le_refl _))
    replace hb4 := Lib.hid (hb3.out.trans (hb4.mono (by omega)))
    clear c4
    go_wp2_with fail
    refine (to_ints _ xs _ _ hR4.out (by omega) (by omega)).mono ?_
    rintro e w6 ⟨t, rfl, hT6, hb6⟩
    obtain ⟨ta, tc, rfl, _⟩ := id hT6
    have z6 := hb6.size
    have hX6 := Lib.hid (hX4.out.below hb6 (by omega))
    have hT6' := Lib.hid hT6.row
    replace hb6 := Lib.hid (hb4.out.trans (hb6.mono (by omega)))
    clear hT6
    go_wp2_with fail
    refine (eq_ints _ _ xs xs w6.heap.size _ (hX6.out.mono (by omega)) hT6'.out (by omega) (by omega)).mono ?_
    rintro e w' ⟨rfl, n7, rfl⟩
    rw [hsamx.out]
    go_wp2_with fail
    go_ret
    exact ⟨rfl, below_drewN hb6.out n7⟩
theorem Law_UnionOften (n : Int) (v : Value) (xs : List Int) (w : World) (hx : Row w w.heap.size v xs) (hl : xs.length ≤ 9223372036854775807) (hT : Tab w) : Calls Tryd.prog 3 #[.int .i64 n, v] w fun e w' => e = .returned (.bool true) ∧ Below w.heap.size w w' :=
  law_UnionOften n v xs w hx hl _ _ _ (fun W u S h1 h2 h3 h4 => im_UnionOften n u xs S W h1 h2 h3 h4) (fun W u S h1 h2 h3 => sp_UnionOften n u xs S W h1 h2 h3) hT
end Go.Proofs.YtjhjmbiecihjhaaDoor
