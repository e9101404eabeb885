/- The law FnDegrees over the program: degrees add up to the sizes. -/
import Derived.Test.YtapijjfhdhkakaaDoorDegC
namespace Go.Proofs.YtapijjfhdhkakaaDoor
open Go.ChangeShapes Go.WideShapes Go.ChangeAt Go.RowKit Go.Proofs

set_option maxRecDepth 100000 in
set_option maxHeartbeats 4000000 in
theorem law_FnDegrees (v : Value) (a : Option Addr) (len cap : Nat) (w : World) (hv : v = .slice a len cap) (hc : len ≤ cap) (hcap : cap ≤ 9223372036854775807) (hB : Bytes w w.heap.size a len) (hT0 : Tab w) :
    Calls Tryd.prog 3 #[v] w fun e w' => e = .returned (.bool true) ∧ Below w.heap.size w w' := by
  have h0 := Lib.hid (draw_FamilyDegrees v a len cap w hv hc hcap hB)
  have htl := hT0.lt
  replace hT0 := Lib.hid hT0
  subst hv
  clear hB
  by_cases hbig : 1048576 < len
  · go_enter Tryd.func3, Tryd.ntmps3
    go_wp2_with fail
    go_ret
    exact ⟨rfl, Below.refl _ _⟩
  · go_enter Tryd.func3, Tryd.ntmps3
    go_wp2_with fail
    refine (h0.out).mono ?_
    rintro e w1 ⟨n, u, xs, rfl, hl, hO, hb⟩
    obtain ⟨ua, uc, rfl, _⟩ := id hO
    have z1 := hb.size
    have hb1 := Lib.hid hb
    have hi := im_FamilyDegrees n _ xs _ w1 hO.row (Nat.le_refl _) (by omega) (hT0.out.below hb htl)
    have hs := fun (W : World) (hW : Below w1.heap.size w1 W) => sp_FamilyDegrees n _ xs w1.heap.size W (hO.row.below hW (Nat.le_refl _)) hW.size (by omega)
    have RX1 := Lib.hid hO.row
    clear hb hO
    rcases (by cases famB n xs <;> simp : famB n xs = true ∨ famB n xs = false) with hbv | hbv
    · rw [hbv] at hi hs
      replace hi := Lib.hid (show Calls _ _ _ _ (ListPost (degL n.toNat xs) true w1) from hi)
      replace hs := fun (W : World) (hW : Below w1.heap.size w1 W) => (show Calls _ _ _ _ (ListPost (degL n.toNat xs) true W) from hs W hW)
      obtain ⟨T, hT⟩ : ∃ T, degL n.toNat xs = T := ⟨_, rfl⟩
      rw [hT] at hi hs
      have hsame : sameB T T = true := decide_eq_true rfl
      have fx := hbv
      have lx := famB_len fx
      obtain ⟨n1, n2, _⟩ := famB_all fx
      have hTl : T.length = n.toNat := by rw [← hT]; exact degL_len _ _
      have hTn := Lib.hid (show ((T.length : Nat) : Int) = n by omega)
      have lT : T.length ≤ 8 := by omega
      have hxz := Lib.hid (famB_lt fx)
      have hst := Lib.hid (fun j (hj : j < T.length) => show T.getD j 0 = dgP xs j ∧ (0 ≤ dgS xs j ∧ dgS xs j ≤ 10000) ∧ (0 ≤ dgP xs j ∧ dgP xs j ≤ 256) from
        ⟨by rw [← hT]; exact degL_get xs (by omega), by have := dgS_bd lx j (by omega); omega, by have := dgP_bd xs j; omega⟩)
      have hdbd := Lib.hid (show 0 ≤ dgS xs T.length ∧ dgS xs T.length ≤ 10000 by have := dgS_bd lx T.length lT; omega)
      have hdz : dgS xs T.length - szS xs xs.length = 0 := by
        have h1 := dgS_szS fx xs.length (Nat.le_refl _)
        rw [List.take_length] at h1
        rw [hTl, h1]; omega
      have hle := Lib.hid (fun j : Nat => lk_lenD fx j)
      have hln := Lib.hid (fun (j : Nat) (hj : j < T.length) (W : World) (v : Value) (h1 : Row W W.heap.size v xs) => (show Calls Tryd.prog 8 #[.int .i64 n, v, .int .i64 (j : Nat)] W (ListPost (sortL ((sortL (xs.filter (fun x => hasB x (j : Nat)))).map (fun x => lessI x (j : Nat)))) true W) from by
        have h2 := im_FamilyLink n (j : Nat) v xs W.heap.size W h1 (Nat.le_refl _) (by omega)
        have h3 : ptB n (j : Nat) = true := ptB_mk (by omega) (by omega)
        simp only [h3, fx, Bool.and_true] at h2
        exact h2))
      replace hTl := Lib.hid hTl
      replace hbv := Lib.hid hbv
      replace fx := Lib.hid fx
      replace hs := Lib.hid hs
      replace hT := Lib.hid hT
      go_wp2_with fail
      refine (hi.out).mono ?_
      rintro e w2 ⟨v2, rfl, hN, hbn⟩
      obtain ⟨c2, d2, rfl, _⟩ := id hN
      have zn := hbn.size
      have RX2 := Lib.hid ((RX1.out.below hbn (Nat.le_refl _)).mono zn)
      have RT2 := Lib.hid hN.row
      have hb2 := Lib.hid (hb1.out.trans (hbn.mono hb1.out.size))
      have hbr := Lib.hid hbn
      clear hN hbn zn
      have hcs := Lib.hid (hs.out w2 hbr.out)
      go_wp2_with fail
      refine (hcs.out).mono ?_
      rintro e w3 ⟨v3, rfl, hN, hbn⟩
      obtain ⟨c3, d3, rfl, _⟩ := id hN
      have zn := hbn.size
      have RX3 := Lib.hid ((RX2.out.below hbn (Nat.le_refl _)).mono zn)
      have RT3 := Lib.hid ((RT2.out.below hbn (Nat.le_refl _)).mono zn)
      have RM3 := Lib.hid hN.row
      have hb3 := Lib.hid (hb2.out.trans (hbn.mono hb2.out.size))
      clear hN hbn zn
      have hq3 := same_l _ _ T T w3.heap.size w3 RT3.out RM3.out (by omega) (by omega)
      rw [hsame] at hq3
      replace hq3 := Lib.hid hq3
      go_wp2_with fail
      refine (hq3.out).mono ?_
      rintro e w' ⟨rfl, q3, rfl⟩
      have hb4 := Lib.hid (below_drewN hb3.out q3)
      have RX4 := Lib.hid (show Row (w3.drewN q3) (w3.drewN q3).heap.size _ _ from RX3.out.drewN q3)
      have RT4 := Lib.hid (show Row (w3.drewN q3) (w3.drewN q3).heap.size _ _ from RT3.out.drewN q3)
      have RM4 := Lib.hid (show Row (w3.drewN q3) (w3.drewN q3).heap.size _ _ from RM3.out.drewN q3)
      obtain ⟨w4, hw4⟩ : ∃ w4, w3.drewN q3 = w4 := ⟨_, rfl⟩
      rw [hw4] at hb4 RX4 RT4 RM4 ⊢
      replace hw4 := Lib.hid hw4
      obtain ⟨_, _, e', hcell⟩ := RT4.out
      injection e' with e1 e2 e3
      subst e1 e3
      obtain ⟨_, _, e', hcX⟩ := RX4.out
      injection e' with e1 e2 e3
      subst e1 e3
      replace hcell := Lib.hid hcell
      replace hcX := Lib.hid hcX
      go_wp2_with fail
      go_loopw [9, 10] (fun s i wr => ∃ k : Nat, k ≤ T.length ∧ i = .int .i64 k ∧ s = .int .i64 (dgS xs k) ∧ Hid (Below w4.heap.size w4 wr)) (fun _ i _ => T.length - (intOf i).toNat)
      case atStart => exact ⟨0, by omega, rfl, rfl, Lib.hid (Below.refl _ _)⟩
      case round =>
      obtain ⟨j, hk, rfl, rfl, hbl⟩ := hrel
      have hzl := hbl.out.size
      by_cases hlt : j < T.length
      · obtain ⟨b1, o1, rfl, t2, c1⟩ := hcell.out (by omega)
        have k1 : (0 : Int) ≤ (j : Int) := by omega
        have k2 : (j : Int) < (T.length : Nat) := by omega
        have e1 := (hbl.out.cell (p := ⟨b1, o1 + j, none⟩) t2).trans (c1 j hlt)
        obtain ⟨y1, y3, y4⟩ := hst.out j hlt
        have y2 : dgS xs (j + 1) = dgS xs j + dgP xs j := rfl
        rw [y1] at e1
        have hlk := hln.out j hlt wr _ ((RX4.out.below hbl.out (Nat.le_refl _)).mono hzl)
        have hll := hle.out j
        obtain ⟨L, hL⟩ : ∃ L, sortL ((sortL (xs.filter (fun x => hasB x (j : Nat)))).map (fun x => lessI x (j : Nat))) = L := ⟨_, rfl⟩
        rw [hL] at hlk hll
        replace hL := Lib.hid hL
        obtain ⟨x, hx⟩ : ∃ x, dgP xs j = x := ⟨_, rfl⟩
        obtain ⟨S, hS⟩ : ∃ S, dgS xs j = S := ⟨_, rfl⟩
        rw [hx] at e1 y2 y4 hll
        rw [hS] at y2 y3 ⊢
        obtain ⟨y3a, y3b⟩ := y3
        obtain ⟨y4a, y4b⟩ := y4
        subst hll
        replace hx := Lib.hid hx
        replace hS := Lib.hid hS
        replace y2 := Lib.hid y2
        replace y1 := Lib.hid y1
        replace hlk := Lib.hid hlk
        clear c1
        go_wp2_with fail
        refine hlk.out.mono ?_
        rintro e w6 ⟨v6, rfl, hN6, hb6⟩
        obtain ⟨l6, m6, rfl, _⟩ := id hN6
        have e2 := (hb6.cell (p := ⟨b1, o1 + j, none⟩) (show b1 < wr.heap.size by omega)).trans e1
        replace hb6 := Lib.hid (hbl.out.trans (hb6.mono hzl))
        clear hN6
        go_wp2_with fail
        go_roundw
        case rel => exact ⟨j + 1, by omega, by go_num, by rw [y2.out], hb6⟩
        case measure => simp [intOf]; omega
      obtain rfl : j = T.length := by omega
      have hb8 := Lib.hid (hb4.out.trans (hbl.out.mono hb4.out.size))
      have hcX8 := Lib.hid (fun (i : Nat) (hi : i < xs.length) (b o : Nat) (hbo : ua = some ⟨b, o, none⟩) (hb : b < w4.heap.size) (hc : CellsAt w4 b o xs) => (hbl.out.cell (p := ⟨b, o + i, none⟩) hb).trans (hc i hi))
      obtain ⟨D0, hD0⟩ : ∃ D0, dgS xs T.length = D0 := ⟨_, rfl⟩
      rw [hD0] at hdz ⊢
      have hdb := hdbd.out
      rw [hD0] at hdb
      obtain ⟨hdb1, hdb2⟩ := hdb
      replace hD0 := Lib.hid hD0
      go_wp2_with fail
      go_loopw [9, 13] (fun s i wq => ∃ k : Nat, k ≤ xs.length ∧ i = .int .i64 k ∧ s = .int .i64 (D0 - szS xs k) ∧ wr = wq) (fun _ i _ => xs.length - (intOf i).toNat)
      case atStart => exact ⟨0, by omega, rfl, by simp [szS], rfl⟩
      case round =>
      obtain ⟨j, hk, rfl, rfl, rfl⟩ := hrel
      by_cases hlt : j < xs.length
      · obtain ⟨b1, o1, hua, t2, c1⟩ := hcX.out (by omega)
        have e1 := hcX8.out j hlt b1 o1 hua t2 c1
        subst hua
        have k1 : (0 : Int) ≤ (j : Int) := by omega
        have k2 : (j : Int) < (xs.length : Nat) := by omega
        have y2 : szS xs (j + 1) = szS xs j + cntI (xs.getD j 0) := rfl
        have y3 := szS_bd (xs := xs) j
        obtain ⟨x, hx⟩ : ∃ x, xs.getD j 0 = x := ⟨_, rfl⟩
        obtain ⟨x1, x2⟩ := hxz.out x (by rw [← hx]; exact getD_mem hlt)
        have hsz := law_size x x1 x2
        have hcb : 0 ≤ cntI x ∧ cntI x ≤ 8 := ⟨by unfold cntI; omega, by have := cnt_le x 8; unfold cntI; omega⟩
        rw [hx] at e1 y2
        obtain ⟨c, hcc⟩ : ∃ c, cntI x = c := ⟨_, rfl⟩
        obtain ⟨S, hS⟩ : ∃ S, szS xs j = S := ⟨_, rfl⟩
        rw [hcc] at hsz y2 hcb
        rw [hS] at y2 y3 ⊢
        obtain ⟨y3a, y3b⟩ := y3
        obtain ⟨hcb1, hcb2⟩ := hcb
        have y3c : S ≤ 2400 := by omega
        replace hsz := Lib.hid hsz
        replace hx := Lib.hid hx
        replace hcc := Lib.hid hcc
        replace hS := Lib.hid hS
        replace y2 := Lib.hid y2
        clear c1
        go_wp2_with (go_at_call 9; (with_reducible refine (hsz.out _).mono ?_); rintro e w' ⟨rfl, rfl⟩)
        go_roundw
        case rel => exact ⟨j + 1, by omega, by go_num, by rw [y2.out]; congr 1; omega, (by first | rfl | trivial)⟩
        case measure => simp [intOf]; omega
      obtain rfl : j = xs.length := by omega
      rw [hdz]
      have hnT := hTn.out
      go_wp2_with fail
      go_ret
      first | exact ⟨rfl, hb8.out⟩ | exact ⟨ret_bool (by simp), hb8.out⟩ | exact ⟨ret_bool (by simp [hnT]), hb8.out⟩
    · rw [hbv] at hi hs
      replace hi := Lib.hid (show Calls _ _ _ _ (ListPost [] false w1) from hi)
      replace hs := Lib.hid (fun (W : World) (hW : Below w1.heap.size w1 W) => (show Calls _ _ _ _ (ListPost [] false W) from hs W hW))
      have hsame : sameB ([] : List Int) [] = true := decide_eq_true rfl
      replace hbv := Lib.hid hbv
      go_wp2_with fail
      refine hi.out.mono ?_
      rintro e w2 ⟨v2, rfl, hO2, hb2⟩
      obtain ⟨va, vc, rfl, _⟩ := id hO2
      have z2 := hb2.size
      have hcs := Lib.hid (hs.out w2 hb2)
      replace hO2 := Lib.hid hO2
      replace hb2 := Lib.hid (hb1.out.trans (hb2.mono z1))
      go_wp2_with fail
      refine hcs.out.mono ?_
      rintro e w3 ⟨v3, rfl, hO3, hb3⟩
      obtain ⟨ya, yc, rfl, _⟩ := id hO3
      have z3 := hb3.size
      have hO23 := Lib.hid (hO2.out.below hb3 (Nat.le_refl _))
      replace hO3 := Lib.hid hO3
      replace hb3 := Lib.hid (hb2.out.trans (hb3.mono hb2.out.size))
      have hq : ∀ W, (∃ q, W = w3.drewN q) → Calls Tryd.prog 7 #[.slice va ([] : List Int).length vc, .slice ya ([] : List Int).length yc] W fun e w' => e = .returned (.bool true) ∧ ∃ n, w' = W.drewN n := by
        rintro W ⟨q, rfl⟩
        have := same_l (.slice va ([] : List Int).length vc) (.slice ya ([] : List Int).length yc) _ _ w3.heap.size (w3.drewN q) ((hO23.out.row.mono z3).drewN q) (hO3.out.row.drewN q) (by simp) (by simp)
        rw [hsame] at this
        exact this
      replace hq := Lib.hid hq
      go_wp2_with fail
      refine (hq.out w3 ⟨0, rfl⟩).mono ?_
      rintro e w4 ⟨rfl, q, rfl⟩
      go_wp2_with fail
      refine (hq.out _ ⟨q, rfl⟩).mono ?_
      rintro e w5 ⟨rfl, q5, rfl⟩
      go_wp2_with fail
      go_ret
      exact ⟨rfl, below_drewN hb3.out _⟩
end Go.Proofs.YtapijjfhdhkakaaDoor
