/- FnOften. -/
import Derived.Test.YtjhjmbiecihjhaaDoorUo2
import Derived.Test.YtjhjmbiecihjhaaDoorOf1
import Derived.Test.YtjhjmbiecihjhaaDoorAllKn
import Derived.Test.YtjhjmbiecihjhaaDoorCs1
import Derived.Test.YtjhjmbiecihjhaaDoorDrawC
namespace Go.Proofs.YtjhjmbiecihjhaaDoor
open Go.ChangeShapes Go.WideShapes Go.ChangeAt Go.RowKit Go.Proofs

/-- what the draw gives. -/
def OftDraw (w : World) (e : Ending) (w' : World) : Prop := ∃ n u xs, e = .returned (.tuple #[.int .i64 n, u]) ∧ xs.length ≤ 300 ∧ Own w' w.heap.size w'.heap.size u xs ∧ Below w.heap.size w w' ∧ drawnPts n
set_option maxRecDepth 100000 in
set_option maxHeartbeats 4000000 in
theorem draw_oftP (v : Value) (a : Option Addr) (len cap : Nat) (w : World) (hv : v = .slice a len cap) (hc : len ≤ cap) (hcap : cap ≤ 9223372036854775807) (hB : Bytes w w.heap.size a len) :
    Calls Tryd.prog 35 #[v] w (OftDraw w) := by
  have h0 := Lib.hid (draw_few v a len cap w hv hc hcap hB)
  subst hv
  clear hB
  go_enter Tryd.func35, Tryd.ntmps35
  go_wp2_with fail
  refine (h0.out).mono ?_
  rintro e w1 ⟨n, u, xs, rfl, hl, hO, hb, _, hp⟩
  obtain ⟨ua, uc, rfl, _⟩ := id hO
  have z1 := hb.size
  have h1 := sp_UnionOf n _ xs _ w1 hO.row (Nat.le_refl _) (by omega)
  replace hO := Lib.hid hO
  replace hb := Lib.hid hb
  replace hp := Lib.hid hp
  have hm0 : (0 : Int) ≤ (len : Nat) := by omega
  rcases (by cases famB n xs <;> simp : famB n xs = true ∨ famB n xs = false) with hbv | hbv
  · have f1 := ucL_len semi_or (famB_all hbv).2.2
    rw [hbv] at h1
    obtain ⟨T1, hT1⟩ : ∃ T, ucL orI xs = T := ⟨_, rfl⟩
    rw [hT1] at h1 f1
    replace h1 := Lib.hid (show Calls _ _ _ _ (ListPost T1 true w1) from h1)
    replace hbv := Lib.hid hbv
    go_wp2_with fail
    refine h1.out.mono ?_
    rintro e w2 ⟨v2, rfl, hO2, hb2⟩
    obtain ⟨va, vc, rfl, _⟩ := id hO2
    have z2 := hb2.size
    have hO12 := Lib.hid (hO.out.below hb2 (Nat.le_refl _))
    replace hO2 := Lib.hid hO2
    replace hb2 := Lib.hid (hb.out.trans (hb2.mono z1))
    rcases (by omega : (len : Int) % 5 = 0 ∨ (len : Int) % 5 = 1 ∨ (len : Int) % 5 = 2 ∨ (len : Int) % 5 = 3 ∨ (len : Int) % 5 = 4) with hm | hm | hm | hm | hm
    · go_wp2_with fail
      go_ret2
      exact ⟨_, _, xs, rfl, by omega, hO12.out.mono (by omega) (by omega), hb2.out, hp.out⟩
    · go_wp2_with fail
      go_ret2
      exact ⟨_, _, T1, rfl, by omega, hO2.out.mono (by omega) (Nat.le_refl _), hb2.out, hp.out⟩
    · go_wp2_with fail
      go_ret2
      exact ⟨_, _, T1, rfl, by omega, hO2.out.mono (by omega) (Nat.le_refl _), hb2.out, hp.out⟩
    · go_wp2_with fail
      go_ret2
      exact ⟨_, _, T1, rfl, by omega, hO2.out.mono (by omega) (Nat.le_refl _), hb2.out, hp.out⟩
    · go_wp2_with fail
      go_ret2
      exact ⟨_, _, T1, rfl, by omega, hO2.out.mono (by omega) (Nat.le_refl _), hb2.out, hp.out⟩
  · rw [hbv] at h1
    replace h1 := Lib.hid (show Calls _ _ _ _ (ListPost [] false w1) from h1)
    replace hbv := Lib.hid hbv
    go_wp2_with fail
    refine h1.out.mono ?_
    rintro e w2 ⟨v2, rfl, hO2, hb2⟩
    obtain ⟨va, vc, rfl, _⟩ := id hO2
    have z2 := hb2.size
    have hO12 := Lib.hid (hO.out.below hb2 (Nat.le_refl _))
    replace hb2 := Lib.hid (hb.out.trans (hb2.mono z1))
    clear hO2
    go_wp2_with fail
    go_ret2
    exact ⟨_, _, xs, rfl, by omega, hO12.out.mono (by omega) (by omega), hb2.out, hp.out⟩
set_option maxRecDepth 100000 in
set_option maxHeartbeats 4000000 in
theorem draw_UnionOften (v : Value) (a : Option Addr) (len cap : Nat) (w : World) (hv : v = .slice a len cap) (hc : len ≤ cap) (hcap : cap ≤ 9223372036854775807) (hB : Bytes w w.heap.size a len) :
    Calls Tryd.prog 17 #[v] w (OftDraw w) := by
  have h0 := Lib.hid (draw_oftP v a len cap w hv hc hcap hB)
  subst hv
  go_enter Tryd.func17, Tryd.ntmps17
  go_wp2_with fail
  refine (h0.out).mono ?_
  rintro e w1 ⟨n, u, xs, rfl, hl, hO, hb, hp⟩
  obtain ⟨ua, uc, rfl, _⟩ := id hO
  replace hO := Lib.hid hO
  replace hb := Lib.hid hb
  replace hp := Lib.hid hp
  go_wp2_with fail
  go_ret2
  exact ⟨_, _, xs, rfl, hl, hO.out, hb.out, hp.out⟩
theorem often_max {n : Int} {xs : List Int} (n6 : n ≤ 6) (hf : famB n xs = true) (hu : sameB (ucL orI xs) xs = true) (hl : xs.getD (xs.length - 1) 0 ≠ 0) (h0 : 0 < xs.length) : (xs.length : Int) ≤ 2 * maxI (degL n.toNat xs) := by
  have h1 : ClosedU orI xs := by
    have h2 := ucL_closed semi_or (fun z hz => (setB_lt ((famB_all hf).2.2 z hz)).1)
    rw [same_yes hu] at h2
    exact h2
  obtain ⟨j, j1, j2⟩ := often_half n6 hf h1 ⟨_, getD_mem (by omega), hl⟩
  have h3 := bstL_is (xs := degL n.toNat xs) (by rw [degL_len]; omega)
  have h4 := h3.2.1 j (by rw [degL_len]; exact j1)
  have h5 : (degL n.toNat xs).getD j 0 = dgP xs j := by
    unfold degL
    rw [List.getD_eq_getElem?_getD, List.getElem?_map, List.getElem?_range j1]
    rfl
  unfold maxI
  omega
set_option maxRecDepth 100000 in
set_option maxHeartbeats 4000000 in
theorem law_FnOften (v : Value) (a : Option Addr) (len cap : Nat) (w : World) (hv : v = .slice a len cap) (hc : len ≤ cap) (hcap : cap ≤ 9223372036854775807) (hB : Bytes w w.heap.size a len) (hT : Tab w) :
    Calls Tryd.prog 6 #[v] w fun e w' => e = .returned (.bool true) ∧ Below w.heap.size w w' := by
  have h0 := Lib.hid (draw_UnionOften v a len cap w hv hc hcap hB)
  subst hv
  clear hB
  by_cases hbig : 1048576 < len
  · go_enter Tryd.func6, Tryd.ntmps6
    go_wp2_with fail
    go_ret
    exact ⟨rfl, Below.refl _ _⟩
  · go_enter Tryd.func6, Tryd.ntmps6
    go_wp2_with fail
    refine (h0.out).mono ?_
    rintro e w1 ⟨n, u, xs, rfl, hl, hO, hb, hp⟩
    obtain ⟨ua, uc, rfl, hcx⟩ := id hO.row
    have z1 := hb.size
    have hb1 := Lib.hid hb
    have hi := fun (W : World) (h1 : Row W W.heap.size (.slice ua xs.length uc) xs) (h2 : Tab W) => im_UnionOften n _ xs W.heap.size W h1 (Nat.le_refl _) (by omega) h2
    have hs := fun (W : World) (h1 : Row W W.heap.size (.slice ua xs.length uc) xs) => sp_UnionOften n _ xs W.heap.size W h1 (Nat.le_refl _) (by omega)
    have hd := fun (W : World) (h1 : Row W W.heap.size (.slice ua xs.length uc) xs) (h2 : Tab W) => im_FamilyDegrees n _ xs W.heap.size W h1 (Nat.le_refl _) (by omega) h2
    have hui := fun (W : World) (h1 : Row W W.heap.size (.slice ua xs.length uc) xs) => im_UnionIn n _ xs W.heap.size W h1 (Nat.le_refl _) (by omega)
    have RX1 := Lib.hid hO.row
    have hTT := Lib.hid (fun W (h : Below w.heap.size w W) => hT.below h hT.lt)
    clear hb hO
    rcases (by cases oftB n xs <;> simp : oftB n xs = true ∨ oftB n xs = false) with hF | hF
    · obtain ⟨hf, hx0⟩ : famB n xs = true ∧ ¬ xs.length = 0 := by
        have h9 := hF
        unfold oftB at h9
        rw [Bool.and_eq_true, Bool.not_eq_true', decide_eq_false_iff_not] at h9
        exact h9
      obtain ⟨n1, n2, _⟩ := famB_all hf
      have n6 : n ≤ 6 := by unfold drawnPts at hp; omega
      have hmx := fun (h1 : sameB (ucL orI xs) xs = true) (h2 : xs.getD (xs.length - 1) 0 ≠ 0) => often_max n6 hf h1 h2 (by omega)
      have k1 : oftP n xs = ((bstI (degL n.toNat xs) : Nat) : Int) := by unfold oftP; rw [hF]; rfl
      have k2 : oftM n xs = maxI (degL n.toNat xs) := by unfold oftM; rw [hF]; rfl
      obtain ⟨N, hN⟩ : ∃ N : Nat, n.toNat = N := ⟨_, rfl⟩
      have hdl : (degL n.toNat xs).length = N := by rw [degL_len, hN]
      have hN1 : 1 ≤ N ∧ N ≤ 6 := by omega
      obtain ⟨g1, g2, g3⟩ := bstL_is (xs := degL n.toNat xs) (by omega)
      rw [hdl] at g1 g2
      have hmd : maxI (degL n.toNat xs) = (degL n.toNat xs).getD (bstI (degL n.toNat xs)) 0 := rfl
      have hbd : ∀ j, j < N → 0 ≤ (degL n.toNat xs).getD j 0 ∧ (degL n.toNat xs).getD j 0 ≤ 300 := fun j hj => by
        have h5 : (degL n.toNat xs).getD j 0 = dgP xs j := by
          unfold degL
          rw [List.getD_eq_getElem?_getD, List.getElem?_map, List.getElem?_range (by omega)]
          rfl
        have := dgP_bd xs j
        omega
      simp only [hF, k1, k2] at hi hs
      simp only [hf, ifL, Bool.true_and, if_true] at hd hui
      obtain ⟨ds, hds⟩ : ∃ ds, degL n.toNat xs = ds := ⟨_, rfl⟩
      simp only [hds] at hi hs hd hmx hdl g1 g2 g3 hmd hbd
      obtain ⟨P, hP⟩ : ∃ P, bstI ds = P := ⟨_, rfl⟩
      obtain ⟨M, hM⟩ : ∃ M, maxI ds = M := ⟨_, rfl⟩
      simp only [hP, hM] at hi hs hmx g1 g2 g3 hmd
      obtain ⟨m1, m2⟩ := hbd P g1
      rw [← hmd] at m1 m2 g2 g3
      have hPn : (0 : Int) ≤ (P : Int) ∧ (P : Int) < N := by omega
      obtain ⟨hP0, hPN⟩ := hPn
      have hcc : (M != M) = false := by simp
      have hce : (M == M) = true := by simp
      have hpp : (((P : Nat) : Int) != ((P : Nat) : Int)) = false := by simp
      obtain ⟨b1, o1, rfl, q1, c1⟩ := hcx (by omega)
      obtain ⟨B, hBB⟩ : ∃ B, sameB (ucL orI xs) xs = B := ⟨_, rfl⟩
      rw [hBB] at hmx
      simp only [hBB] at hui
      replace hi := Lib.hid hi
      replace hs := Lib.hid hs
      replace hd := Lib.hid (show ∀ (W : World), Row W W.heap.size (.slice (some ⟨b1, o1, none⟩) xs.length uc) xs → Tab W → Calls Tryd.prog 18 #[.int .i64 n, .slice (some ⟨b1, o1, none⟩) xs.length uc] W (ListPost ds true W) from hd)
      replace hui := Lib.hid hui
      replace hmx := Lib.hid hmx
      replace hf := Lib.hid hf
      replace hN := Lib.hid hN
      replace hds := Lib.hid hds
      replace hdl := Lib.hid hdl
      replace hP := Lib.hid hP
      replace hM := Lib.hid hM
      replace hp := Lib.hid hp
      replace hBB := Lib.hid hBB
      replace hmd := Lib.hid hmd
      replace hbd := Lib.hid hbd
      replace g2 := Lib.hid g2
      replace g3 := Lib.hid g3
      replace c1 := Lib.hid c1
      clear hF hT k1 k2 hcx
      go_wp2_with fail
      refine (hi.out w1 RX1.out (hTT.out _ hb1.out)).mono ?_
      rintro e w2 ⟨rfl, hbn⟩
      have zn := hbn.size
      have RX2 := Lib.hid ((RX1.out.below hbn (Nat.le_refl _)).mono zn)
      have hb2 := Lib.hid (hb1.out.trans (hbn.mono hb1.out.size))
      have hl2 := Lib.hid hbn
      clear hbn zn
      go_wp2_with fail
      refine (hs.out w2 RX2.out).mono ?_
      rintro e w3 ⟨rfl, hbn⟩
      have zn := hbn.size
      have RX3 := Lib.hid ((RX2.out.below hbn (Nat.le_refl _)).mono zn)
      have hb3 := Lib.hid (hb2.out.trans (hbn.mono hb2.out.size))
      have hl3 := Lib.hid (hl2.out.trans (hbn.mono hl2.out.size))
      clear hbn zn
      go_wp2_with fail
      refine (hd.out w3 RX3.out (hTT.out _ hb3.out)).mono ?_
      rintro e w4 ⟨v4, rfl, hO4, hbn⟩
      obtain ⟨a4, c4, rfl, hcc4⟩ := id hO4
      have zn := hbn.size
      have RX4 := Lib.hid ((RX3.out.below hbn (Nat.le_refl _)).mono zn)
      have hb4 := Lib.hid (hb3.out.trans (hbn.mono hb3.out.size))
      have hl4 := Lib.hid (hl3.out.trans (hbn.mono hl3.out.size))
      clear hbn zn
      obtain ⟨b2, o2, rfl, s2, s3, s4, s5⟩ := hcc4 (by have := hdl.out; omega)
      rw [hdl.out]
      go_wp2_with fail
      have e2 : w4.cell? ⟨b2, o2 + P, none⟩ = some (.int .i64 M) := by
        have h9 := s4 P (by rw [hdl.out]; exact g1)
        rw [← hmd.out] at h9
        exact h9
      have s4' := Lib.hid (fun k (hk : k < N) => s4 k (by rw [hdl.out]; exact hk))
      have hy := Lib.hid (hui.out w4 RX4.out)
      clear s4 s5 hi hs hd hui hO4
      go_loopw [13] (fun p wr => ∃ k : Nat, k ≤ N ∧ p = .int .i64 k ∧ wr = w4) (fun p _ => N - (intOf p).toNat)
      case atStart => exact ⟨0, by omega, rfl, rfl⟩
      case round =>
        obtain ⟨k, hk, rfl, rfl⟩ := hrel
        by_cases hlk : k < N
        · have k1 : (0 : Int) ≤ (k : Int) := by omega
          have k2 : (k : Int) < (N : Nat) := by omega
          have e1 := s4'.out k hlk
          have y1 := g2.out k hlk
          have y2 := g3.out k
          obtain ⟨y, hyy⟩ : ∃ y, ds.getD k 0 = y := ⟨_, rfl⟩
          rw [hyy] at e1 y1 y2
          replace hyy := Lib.hid hyy
          by_cases hkp : k < P
          · have hkp2 : (k : Int) < (P : Int) := by omega
            have y3 := y2 hkp
            have y4 : (y == M) = false := by rw [beq_eq_false_iff_ne]; omega
            clear y2
            go_wp2_with fail
            go_roundw
            case rel => exact ⟨k + 1, by omega, by go_num, by first | rfl | trivial⟩
            case measure => simp [intOf]; omega
          · have hkp2 : ¬ (k : Int) < (P : Int) := by omega
            clear y2
            go_wp2_with fail
            go_roundw
            case rel => exact ⟨k + 1, by omega, by go_num, by first | rfl | trivial⟩
            case measure => simp [intOf]; omega
        · obtain rfl : k = N := by omega
          have hxn : (0 : Int) ≤ (xs.length : Nat) - 1 := by omega
          go_wp2_with fail
          refine hy.out.mono ?_
          rintro e w5 ⟨rfl, hbn⟩
          have hb5 := Lib.hid (hb4.out.trans (hbn.mono hb4.out.size))
          have hl5 := hl4.out.trans (hbn.mono hl4.out.size)
          have hix : ((xs.length : Int) - 1).toNat = xs.length - 1 := by omega
          have c9 := (hl5.cell (p := ⟨b1, o1 + (xs.length - 1), none⟩) q1).trans (c1.out (xs.length - 1) (by omega))
          have hx3 : (xs.length : Int) - 1 < (xs.length : Nat) := by omega
          clear hbn hl5
          obtain ⟨z, hz⟩ : ∃ z, xs.getD (xs.length - 1) 0 = z := ⟨_, rfl⟩
          rw [hz] at c9 hmx
          replace hz := Lib.hid hz
          cases B
          · go_wp2_with fail
            go_ret
            exact ⟨rfl, hb5.out⟩
          · by_cases hz0 : z = 0
            · have hzb : (z == 0) = true := by rw [hz0]; rfl
              clear hmx
              go_wp2_with fail
              go_ret
              exact ⟨rfl, hb5.out⟩
            · have hzb : (z == 0) = false := by rw [beq_eq_false_iff_ne]; exact hz0
              have hge := hmx.out rfl hz0
              clear hmx
              go_wp2_with fail
              go_ret
              exact ⟨rfl, hb5.out⟩
    · have k1 : oftP n xs = 0 := by unfold oftP; rw [hF]; rfl
      have k2 : oftM n xs = 0 := by unfold oftM; rw [hF]; rfl
      simp only [hF, k1, k2] at hi hs
      replace hi := Lib.hid hi
      replace hs := Lib.hid hs
      replace hF := Lib.hid hF
      replace hp := Lib.hid hp
      clear hd hui hT
      go_wp2_with fail
      refine (hi.out w1 RX1.out (hTT.out _ hb1.out)).mono ?_
      rintro e w2 ⟨rfl, hbn⟩
      have zn := hbn.size
      have RX2 := Lib.hid ((RX1.out.below hbn (Nat.le_refl _)).mono zn)
      have hb2 := Lib.hid (hb1.out.trans (hbn.mono hb1.out.size))
      clear hbn zn
      go_wp2_with fail
      refine (hs.out w2 RX2.out).mono ?_
      rintro e w3 ⟨rfl, hbn⟩
      have hb3 := Lib.hid (hb2.out.trans (hbn.mono hb2.out.size))
      clear hbn
      go_wp2_with fail
      go_ret
      exact ⟨rfl, hb3.out⟩
end Go.Proofs.YtjhjmbiecihjhaaDoor
