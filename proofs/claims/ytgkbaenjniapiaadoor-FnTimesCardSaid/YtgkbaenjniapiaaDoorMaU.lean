/- Laws over the program that ask for shadows: FnUp, FnTimes. -/
import Derived.Test.YtgkbaenjniapiaaDoorMa1
import Derived.Test.YtgkbaenjniapiaaDoorAllD
import Derived.Test.YtgkbaenjniapiaaDoorSameL
import Derived.Test.YtgkbaenjniapiaaDoorAllSp
import Derived.Test.YtgkbaenjniapiaaDoorShSp3
import Derived.Test.YtgkbaenjniapiaaDoorShm6
namespace Go.Proofs.YtgkbaenjniapiaaDoor
open Go.ChangeShapes Go.WideShapes Go.ChangeAt Go.RowKit Go.Proofs

theorem draw_ShadowTimes (v : Value) (a : Option Addr) (len cap : Nat) (w : World) (hv : v = .slice a len cap) (hc : len ≤ cap) (hcap : cap ≤ 9223372036854775807) (hB : Bytes w w.heap.size a len) :
    Calls Tryd.prog 14 #[v] w (WithDraw w) := by
  have h0 := Lib.hid (draw_with v a len cap w hv hc hcap hB)
  clear hv hc hcap hB
  go_enter Tryd.func14, Tryd.ntmps14
  go_wp2_with fail
  refine (h0.out).mono ?_
  rintro e w1 ⟨n, u, xs, p, rfl, hl, hO, hb⟩
  obtain ⟨fa, fc, rfl, _⟩ := id hO
  replace hO := Lib.hid hO
  replace hb := Lib.hid hb
  go_wp2_with fail
  go_ret3
  exact ⟨_, _, xs, _, rfl, hl, hO.out, hb.out⟩
set_option maxRecDepth 100000 in
set_option maxHeartbeats 4000000 in
theorem law_FnUp (v : Value) (a : Option Addr) (len cap : Nat) (w : World) (hv : v = .slice a len cap) (hc : len ≤ cap) (hcap : cap ≤ 9223372036854775807) (hB : Bytes w w.heap.size a len) (hT0 : Tab w) :
    Calls Tryd.prog 3 #[v] w fun e w' => e = .returned (.bool true) ∧ Below w.heap.size w w' := by
  have h0 := Lib.hid (draw_ShadowUp v a len cap w hv hc hcap hB)
  have htl := hT0.lt
  replace hT0 := Lib.hid hT0
  subst hv
  clear hB
  by_cases hbig : 1048576 < len
  · go_enter Tryd.func3, Tryd.ntmps3
    go_wp2_with fail
    go_ret
    exact ⟨rfl, Below.refl _ _⟩
  · go_enter Tryd.func3, Tryd.ntmps3
    go_wp2_with fail
    refine (h0.out).mono ?_
    rintro e w1 ⟨n, u, xs, rfl, hl, hO, hb⟩
    obtain ⟨ua, uc, rfl, _⟩ := id hO
    have z1 := hb.size
    have hb1 := Lib.hid hb
    have hi := im_ShadowUp n _ xs _ w1 hO.row (Nat.le_refl _) (by omega) (hT0.out.below hb htl)
    have hs := fun (W : World) (hW : Below w1.heap.size w1 W) => sp_ShadowUp n _ xs w1.heap.size W (hO.row.below hW (Nat.le_refl _)) hW.size (by omega)
    have RX1 := Lib.hid hO.row
    clear hb hO
    rcases (by cases famB n xs <;> simp : famB n xs = true ∨ famB n xs = false) with hbv | hbv
    · rw [hbv] at hi hs
      replace hi := Lib.hid (show Calls _ _ _ _ (ListPost (sortL (upL n xs)) true w1) from hi)
      replace hs := fun (W : World) (hW : Below w1.heap.size w1 W) => (show Calls _ _ _ _ (ListPost (sortL (upL n xs)) true W) from hs W hW)
      obtain ⟨T, hT⟩ : ∃ T, sortL (upL n xs) = T := ⟨_, rfl⟩
      rw [hT] at hi hs
      have hsame : sameB T T = true := decide_eq_true rfl
      have fx := hbv
      have lx := famB_len fx
      have fA := fam_other fx
      have fD := dn_fam fA
      have hE := up_via fx
      have fT : famB n T = true := hT ▸ hE ▸ fam_other fD
      rw [hT] at hE
      have hc1 := fun (W : World) (v : Value) (h1 : Row W W.heap.size v xs) => im_FamilyOther n v xs W.heap.size W h1 (Nat.le_refl _) (by omega)
      have lA := famB_len fA
      have lD := famB_len fD
      have lT := famB_len fT
      obtain ⟨A, hA⟩ : ∃ A, sortL (xs.map (otherI n)) = A := ⟨_, rfl⟩
      rw [hA] at hc1 hE fA fD lA lD
      have hc2 := fun (W : World) (v : Value) (h1 : Row W W.heap.size v A) (h2 : Tab W) => im_ShadowOf n v A W.heap.size W h1 (Nat.le_refl _) (by omega) h2
      obtain ⟨D, hD⟩ : ∃ D, sortL (dnL A) = D := ⟨_, rfl⟩
      rw [hD] at hc2 hE fD lD
      have hc3 := fun (W : World) (v : Value) (h1 : Row W W.heap.size v D) => im_FamilyOther n v D W.heap.size W h1 (Nat.le_refl _) (by omega)
      rw [hE] at hc3
      simp only [fx, fA, fD] at hc1 hc2 hc3
      replace hc1 := Lib.hid (show ∀ (W : World) (v : Value), Row W W.heap.size v xs → Calls Tryd.prog 12 #[.int .i64 n, v] W (ListPost A true W) from hc1)
      replace hc2 := Lib.hid (show ∀ (W : World) (v : Value), Row W W.heap.size v A → Tab W → Calls Tryd.prog 13 #[.int .i64 n, v] W (ListPost D true W) from hc2)
      replace hc3 := Lib.hid (show ∀ (W : World) (v : Value), Row W W.heap.size v D → Calls Tryd.prog 12 #[.int .i64 n, v] W (ListPost T true W) from hc3)
      replace hA := Lib.hid hA
      replace hD := Lib.hid hD
      replace hE := Lib.hid hE
      replace hbv := Lib.hid hbv
      replace fx := Lib.hid fx
      replace fA := Lib.hid fA
      replace fD := Lib.hid fD
      replace fT := Lib.hid fT
      replace hs := Lib.hid hs
      replace hT := Lib.hid hT
      go_wp2_with fail
      refine (hi.out).mono ?_
      rintro e w2 ⟨v2, rfl, hN, hbn⟩
      obtain ⟨c2, d2, rfl, _⟩ := id hN
      have zn := hbn.size
      have RX2 := Lib.hid ((RX1.out.below hbn (Nat.le_refl _)).mono zn)
      have RT2 := Lib.hid hN.row
      have hb2 := Lib.hid (hb1.out.trans (hbn.mono hb1.out.size))
      have hbr := Lib.hid hbn
      clear hN hbn zn
      have hcs := Lib.hid (hs.out w2 hbr.out)
      go_wp2_with fail
      refine (hcs.out).mono ?_
      rintro e w3 ⟨v3, rfl, hN, hbn⟩
      obtain ⟨c3, d3, rfl, _⟩ := id hN
      have zn := hbn.size
      have RX3 := Lib.hid ((RX2.out.below hbn (Nat.le_refl _)).mono zn)
      have RT3 := Lib.hid ((RT2.out.below hbn (Nat.le_refl _)).mono zn)
      have RM3 := Lib.hid hN.row
      have hb3 := Lib.hid (hb2.out.trans (hbn.mono hb2.out.size))
      clear hN hbn zn
      have hq3 := same_l _ _ T T w3.heap.size w3 RT3.out RM3.out (by omega) (by omega)
      rw [hsame] at hq3
      replace hq3 := Lib.hid hq3
      go_wp2_with fail
      refine (hq3.out).mono ?_
      rintro e w' ⟨rfl, q3, rfl⟩
      have hb4 := Lib.hid (below_drewN hb3.out q3)
      have RX4 := Lib.hid (show Row (w3.drewN q3) (w3.drewN q3).heap.size _ _ from RX3.out.drewN q3)
      have RT4 := Lib.hid (show Row (w3.drewN q3) (w3.drewN q3).heap.size _ _ from RT3.out.drewN q3)
      have RM4 := Lib.hid (show Row (w3.drewN q3) (w3.drewN q3).heap.size _ _ from RM3.out.drewN q3)
      obtain ⟨w4, hw4⟩ : ∃ w4, w3.drewN q3 = w4 := ⟨_, rfl⟩
      rw [hw4] at hb4 RX4 RT4 RM4 ⊢
      replace hw4 := Lib.hid hw4
      go_wp2_with fail
      refine (hc1.out w4 _ RX4.out).mono ?_
      rintro e w5 ⟨v5, rfl, hN, hbn⟩
      obtain ⟨c5, d5, rfl, _⟩ := id hN
      have zn := hbn.size
      have RX5 := Lib.hid ((RX4.out.below hbn (Nat.le_refl _)).mono zn)
      have RT5 := Lib.hid ((RT4.out.below hbn (Nat.le_refl _)).mono zn)
      have RM5 := Lib.hid ((RM4.out.below hbn (Nat.le_refl _)).mono zn)
      have RA5 := Lib.hid hN.row
      have hb5 := Lib.hid (hb4.out.trans (hbn.mono hb4.out.size))
      clear hN hbn zn
      go_wp2_with fail
      refine (hc2.out w5 _ RA5.out (hT0.out.below hb5.out htl)).mono ?_
      rintro e w6 ⟨v6, rfl, hN, hbn⟩
      obtain ⟨c6, d6, rfl, _⟩ := id hN
      have zn := hbn.size
      have RX6 := Lib.hid ((RX5.out.below hbn (Nat.le_refl _)).mono zn)
      have RT6 := Lib.hid ((RT5.out.below hbn (Nat.le_refl _)).mono zn)
      have RM6 := Lib.hid ((RM5.out.below hbn (Nat.le_refl _)).mono zn)
      have RA6 := Lib.hid ((RA5.out.below hbn (Nat.le_refl _)).mono zn)
      have RD6 := Lib.hid hN.row
      have hb6 := Lib.hid (hb5.out.trans (hbn.mono hb5.out.size))
      clear hN hbn zn
      go_wp2_with fail
      refine (hc3.out w6 _ RD6.out).mono ?_
      rintro e w7 ⟨v7, rfl, hN, hbn⟩
      obtain ⟨c7, d7, rfl, _⟩ := id hN
      have zn := hbn.size
      have RX7 := Lib.hid ((RX6.out.below hbn (Nat.le_refl _)).mono zn)
      have RT7 := Lib.hid ((RT6.out.below hbn (Nat.le_refl _)).mono zn)
      have RM7 := Lib.hid ((RM6.out.below hbn (Nat.le_refl _)).mono zn)
      have RA7 := Lib.hid ((RA6.out.below hbn (Nat.le_refl _)).mono zn)
      have RD7 := Lib.hid ((RD6.out.below hbn (Nat.le_refl _)).mono zn)
      have RE7 := Lib.hid hN.row
      have hb7 := Lib.hid (hb6.out.trans (hbn.mono hb6.out.size))
      clear hN hbn zn
      have hq7 := same_l _ _ T T w7.heap.size w7 RE7.out RT7.out (by omega) (by omega)
      rw [hsame] at hq7
      replace hq7 := Lib.hid hq7
      go_wp2_with fail
      refine (hq7.out).mono ?_
      rintro e w' ⟨rfl, q7, rfl⟩
      have hb8 := Lib.hid (below_drewN hb7.out q7)
      have RX8 := Lib.hid (show Row (w7.drewN q7) (w7.drewN q7).heap.size _ _ from RX7.out.drewN q7)
      have RT8 := Lib.hid (show Row (w7.drewN q7) (w7.drewN q7).heap.size _ _ from RT7.out.drewN q7)
      have RM8 := Lib.hid (show Row (w7.drewN q7) (w7.drewN q7).heap.size _ _ from RM7.out.drewN q7)
      have RA8 := Lib.hid (show Row (w7.drewN q7) (w7.drewN q7).heap.size _ _ from RA7.out.drewN q7)
      have RD8 := Lib.hid (show Row (w7.drewN q7) (w7.drewN q7).heap.size _ _ from RD7.out.drewN q7)
      have RE8 := Lib.hid (show Row (w7.drewN q7) (w7.drewN q7).heap.size _ _ from RE7.out.drewN q7)
      obtain ⟨w8, hw8⟩ : ∃ w8, w7.drewN q7 = w8 := ⟨_, rfl⟩
      rw [hw8] at hb8 RX8 RT8 RM8 RA8 RD8 RE8 ⊢
      replace hw8 := Lib.hid hw8
      go_wp2_with fail
      go_ret
      exact ⟨rfl, hb8.out⟩
    · rw [hbv] at hi hs
      replace hi := Lib.hid (show Calls _ _ _ _ (ListPost [] false w1) from hi)
      replace hs := Lib.hid (fun (W : World) (hW : Below w1.heap.size w1 W) => (show Calls _ _ _ _ (ListPost [] false W) from hs W hW))
      have hsame : sameB ([] : List Int) [] = true := decide_eq_true rfl
      replace hbv := Lib.hid hbv
      go_wp2_with fail
      refine hi.out.mono ?_
      rintro e w2 ⟨v2, rfl, hO2, hb2⟩
      obtain ⟨va, vc, rfl, _⟩ := id hO2
      have z2 := hb2.size
      have hcs := Lib.hid (hs.out w2 hb2)
      replace hO2 := Lib.hid hO2
      replace hb2 := Lib.hid (hb1.out.trans (hb2.mono z1))
      go_wp2_with fail
      refine hcs.out.mono ?_
      rintro e w3 ⟨v3, rfl, hO3, hb3⟩
      obtain ⟨ya, yc, rfl, _⟩ := id hO3
      have z3 := hb3.size
      have hO23 := Lib.hid (hO2.out.below hb3 (Nat.le_refl _))
      replace hO3 := Lib.hid hO3
      replace hb3 := Lib.hid (hb2.out.trans (hb3.mono hb2.out.size))
      have hq : ∀ W, (∃ q, W = w3.drewN q) → Calls Tryd.prog 11 #[.slice va ([] : List Int).length vc, .slice ya ([] : List Int).length yc] W fun e w' => e = .returned (.bool true) ∧ ∃ n, w' = W.drewN n := by
        rintro W ⟨q, rfl⟩
        have := same_l (.slice va ([] : List Int).length vc) (.slice ya ([] : List Int).length yc) _ _ w3.heap.size (w3.drewN q) ((hO23.out.row.mono z3).drewN q) (hO3.out.row.drewN q) (by simp) (by simp)
        rw [hsame] at this
        exact this
      replace hq := Lib.hid hq
      go_wp2_with fail
      refine (hq.out w3 ⟨0, rfl⟩).mono ?_
      rintro e w4 ⟨rfl, q, rfl⟩
      go_wp2_with fail
      refine (hq.out _ ⟨q, rfl⟩).mono ?_
      rintro e w5 ⟨rfl, q5, rfl⟩
      go_wp2_with fail
      go_ret
      exact ⟨rfl, below_drewN hb3.out _⟩
theorem it_fam' {n : Int} {xs : List Int} (h : famB n xs = true) : ∀ k, famB n (itL xs k) = true
  | 0 => h
  | k + 1 => dn_fam (it_fam' h k)
theorem tm_yes {n t : Int} (h : tmB n t = true) : 0 ≤ t ∧ t ≤ n := by
  unfold tmB at h
  rw [Bool.and_eq_true] at h
  exact ⟨of_decide_eq_true h.1, of_decide_eq_true h.2⟩
theorem it_pred {xs : List Int} {p : Int} (hp : 1 ≤ p) : sortL (dnL (itL xs (p - 1).toNat)) = itL xs p.toNat := by
  obtain ⟨k, rfl⟩ : ∃ k : Nat, p = (k : Int) + 1 := ⟨(p - 1).toNat, by omega⟩
  rw [show ((k : Int) + 1 - 1).toNat = k by omega, show ((k : Int) + 1).toNat = k + 1 by omega]
  rfl
set_option maxRecDepth 100000 in
set_option maxHeartbeats 4000000 in
theorem law_FnTimes (v : Value) (a : Option Addr) (len cap : Nat) (w : World) (hv : v = .slice a len cap) (hc : len ≤ cap) (hcap : cap ≤ 9223372036854775807) (hB : Bytes w w.heap.size a len) (hT0 : Tab w) :
    Calls Tryd.prog 4 #[v] w fun e w' => e = .returned (.bool true) ∧ Below w.heap.size w w' := by
  have h0 := Lib.hid (draw_ShadowTimes v a len cap w hv hc hcap hB)
  have htl := hT0.lt
  replace hT0 := Lib.hid hT0
  subst hv
  clear hB
  by_cases hbig : 1048576 < len
  · go_enter Tryd.func4, Tryd.ntmps4
    go_wp2_with fail
    go_ret
    exact ⟨rfl, Below.refl _ _⟩
  · go_enter Tryd.func4, Tryd.ntmps4
    go_wp2_with fail
    refine (h0.out).mono ?_
    rintro e w1 ⟨n, u, xs, p, rfl, hl, hO, hb⟩
    obtain ⟨ua, uc, rfl, _⟩ := id hO
    have z1 := hb.size
    have hb1 := Lib.hid hb
    have hi := im_ShadowTimes n _ xs p _ w1 hO.row (Nat.le_refl _) (by omega) (hT0.out.below hb htl)
    have hs := fun (W : World) (hW : Below w1.heap.size w1 W) => sp_ShadowTimes n _ xs p w1.heap.size W (hO.row.below hW (Nat.le_refl _)) hW.size (by omega)
    have RX1 := Lib.hid hO.row
    clear hb hO
    rcases (by cases (tmB n p && famB n xs) <;> simp : (tmB n p && famB n xs) = true ∨ (tmB n p && famB n xs) = false) with hbv | hbv
    · rw [hbv] at hi hs
      replace hi := Lib.hid (show Calls _ _ _ _ (ListPost (itL xs p.toNat) true w1) from hi)
      replace hs := fun (W : World) (hW : Below w1.heap.size w1 W) => (show Calls _ _ _ _ (ListPost (itL xs p.toNat) true W) from hs W hW)
      obtain ⟨T, hT⟩ : ∃ T, itL xs p.toNat = T := ⟨_, rfl⟩
      rw [hT] at hi hs
      have hsame : sameB T T = true := decide_eq_true rfl
      rw [Bool.and_eq_true] at hbv
      have fx := hbv.2
      have lx := famB_len fx
      obtain ⟨p0, pn⟩ := tm_yes hbv.1
      obtain ⟨n1, n2, _⟩ := famB_all fx
      have p9 : p ≤ 8 := by omega
      have fT : famB n T = true := hT ▸ it_fam' fx _
      have lT := famB_len fT
      have fA := it_fam' fx (p - 1).toNat
      have lA := famB_len fA
      have hc1 := fun (hp : 1 ≤ p) (W : World) (v : Value) (h1 : Row W W.heap.size v xs) (h2 : Tab W) => im_ShadowTimes n v xs (p - 1) W.heap.size W h1 (Nat.le_refl _) (by omega) h2
      have hE := fun hp : 1 ≤ p => it_pred (xs := xs) hp
      rw [hT] at hE
      obtain ⟨A, hA⟩ : ∃ A, itL xs (p - 1).toNat = A := ⟨_, rfl⟩
      rw [hA] at hc1 fA lA hE
      have hc2 := fun (hp : 1 ≤ p) (W : World) (v : Value) (h1 : Row W W.heap.size v A) (h2 : Tab W) => im_ShadowOf n v A W.heap.size W h1 (Nat.le_refl _) (by omega) h2
      have tp : 1 ≤ p → tmB n (p - 1) = true := fun hp => by unfold tmB; rw [decide_eq_true (show 0 ≤ p - 1 by omega), decide_eq_true (show p - 1 ≤ n by omega)]; rfl
      replace hc1 := Lib.hid (show ∀ (_ : 1 ≤ p) (W : World) (v : Value), Row W W.heap.size v xs → Tab W → Calls Tryd.prog 15 #[.int .i64 n, v, .int .i64 (p - 1)] W (ListPost A true W) from fun hp W v h1 h2 => by
        have := hc1 hp W v h1 h2
        simp only [tp hp, fx, Bool.and_true] at this
        exact this)
      replace hc2 := Lib.hid (show ∀ (_ : 1 ≤ p) (W : World) (v : Value), Row W W.heap.size v A → Tab W → Calls Tryd.prog 13 #[.int .i64 n, v] W (ListPost T true W) from fun hp W v h1 h2 => by
        have := hc2 hp W v h1 h2
        rw [hE hp, fA] at this
        exact this)
      replace hA := Lib.hid hA
      replace hE := Lib.hid hE
      replace hbv := Lib.hid hbv
      replace fx := Lib.hid fx
      replace fA := Lib.hid fA
      replace fT := Lib.hid fT
      replace tp := Lib.hid tp
      replace hs := Lib.hid hs
      replace hT := Lib.hid hT
      go_wp2_with fail
      refine (hi.out).mono ?_
      rintro e w2 ⟨v2, rfl, hN, hbn⟩
      obtain ⟨c2, d2, rfl, _⟩ := id hN
      have zn := hbn.size
      have RX2 := Lib.hid ((RX1.out.below hbn (Nat.le_refl _)).mono zn)
      have RT2 := Lib.hid hN.row
      have hb2 := Lib.hid (hb1.out.trans (hbn.mono hb1.out.size))
      have hbr := Lib.hid hbn
      clear hN hbn zn
      have hcs := Lib.hid (hs.out w2 hbr.out)
      go_wp2_with fail
      refine (hcs.out).mono ?_
      rintro e w3 ⟨v3, rfl, hN, hbn⟩
      obtain ⟨c3, d3, rfl, _⟩ := id hN
      have zn := hbn.size
      have RX3 := Lib.hid ((RX2.out.below hbn (Nat.le_refl _)).mono zn)
      have RT3 := Lib.hid ((RT2.out.below hbn (Nat.le_refl _)).mono zn)
      have RM3 := Lib.hid hN.row
      have hb3 := Lib.hid (hb2.out.trans (hbn.mono hb2.out.size))
      clear hN hbn zn
      have hq3 := same_l _ _ T T w3.heap.size w3 RT3.out RM3.out (by omega) (by omega)
      rw [hsame] at hq3
      replace hq3 := Lib.hid hq3
      go_wp2_with fail
      refine (hq3.out).mono ?_
      rintro e w' ⟨rfl, q3, rfl⟩
      have hb4 := Lib.hid (below_drewN hb3.out q3)
      have RX4 := Lib.hid (show Row (w3.drewN q3) (w3.drewN q3).heap.size _ _ from RX3.out.drewN q3)
      have RT4 := Lib.hid (show Row (w3.drewN q3) (w3.drewN q3).heap.size _ _ from RT3.out.drewN q3)
      have RM4 := Lib.hid (show Row (w3.drewN q3) (w3.drewN q3).heap.size _ _ from RM3.out.drewN q3)
      obtain ⟨w4, hw4⟩ : ∃ w4, w3.drewN q3 = w4 := ⟨_, rfl⟩
      rw [hw4] at hb4 RX4 RT4 RM4 ⊢
      replace hw4 := Lib.hid hw4
      by_cases hp0 : p = 0
      · have e0 : T = xs := by rw [← hT.out, hp0]; rfl
        subst e0
        have hq4 := same_l _ _ T T w4.heap.size w4 RT4.out RX4.out (by omega) (by omega)
        rw [hsame] at hq4
        replace hq4 := Lib.hid hq4
        go_wp2_with fail
        refine (hq4.out).mono ?_
        rintro e w' ⟨rfl, q4, rfl⟩
        have hb5 := Lib.hid (below_drewN hb4.out q4)
        have RX5 := Lib.hid (show Row (w4.drewN q4) (w4.drewN q4).heap.size _ _ from RX4.out.drewN q4)
        have RT5 := Lib.hid (show Row (w4.drewN q4) (w4.drewN q4).heap.size _ _ from RT4.out.drewN q4)
        have RM5 := Lib.hid (show Row (w4.drewN q4) (w4.drewN q4).heap.size _ _ from RM4.out.drewN q4)
        obtain ⟨w5, hw5⟩ : ∃ w5, w4.drewN q4 = w5 := ⟨_, rfl⟩
        rw [hw5] at hb5 RX5 RT5 RM5 ⊢
        replace hw5 := Lib.hid hw5
        go_wp2_with fail
        go_ret
        exact ⟨rfl, hb5.out⟩
      have hp1 : 1 ≤ p := by omega
      go_wp2_with fail
      refine (hc1.out hp1 w4 _ RX4.out (hT0.out.below hb4.out htl)).mono ?_
      rintro e w5 ⟨v5, rfl, hN, hbn⟩
      obtain ⟨c5, d5, rfl, _⟩ := id hN
      have zn := hbn.size
      have RX5 := Lib.hid ((RX4.out.below hbn (Nat.le_refl _)).mono zn)
      have RT5 := Lib.hid ((RT4.out.below hbn (Nat.le_refl _)).mono zn)
      have RM5 := Lib.hid ((RM4.out.below hbn (Nat.le_refl _)).mono zn)
      have RA5 := Lib.hid hN.row
      have hb5 := Lib.hid (hb4.out.trans (hbn.mono hb4.out.size))
      clear hN hbn zn
      go_wp2_with fail
      refine (hc2.out hp1 w5 _ RA5.out (hT0.out.below hb5.out htl)).mono ?_
      rintro e w6 ⟨v6, rfl, hN, hbn⟩
      obtain ⟨c6, d6, rfl, _⟩ := id hN
      have zn := hbn.size
      have RX6 := Lib.hid ((RX5.out.below hbn (Nat.le_refl _)).mono zn)
      have RT6 := Lib.hid ((RT5.out.below hbn (Nat.le_refl _)).mono zn)
      have RM6 := Lib.hid ((RM5.out.below hbn (Nat.le_refl _)).mono zn)
      have RA6 := Lib.hid ((RA5.out.below hbn (Nat.le_refl _)).mono zn)
      have RE6 := Lib.hid hN.row
      have hb6 := Lib.hid (hb5.out.trans (hbn.mono hb5.out.size))
      clear hN hbn zn
      have hq6 := same_l _ _ T T w6.heap.size w6 RE6.out RT6.out (by omega) (by omega)
      rw [hsame] at hq6
      replace hq6 := Lib.hid hq6
      go_wp2_with fail
      refine (hq6.out).mono ?_
      rintro e w' ⟨rfl, q6, rfl⟩
      have hb7 := Lib.hid (below_drewN hb6.out q6)
      have RX7 := Lib.hid (show Row (w6.drewN q6) (w6.drewN q6).heap.size _ _ from RX6.out.drewN q6)
      have RT7 := Lib.hid (show Row (w6.drewN q6) (w6.drewN q6).heap.size _ _ from RT6.out.drewN q6)
      have RM7 := Lib.hid (show Row (w6.drewN q6) (w6.drewN q6).heap.size _ _ from RM6.out.drewN q6)
      have RA7 := Lib.hid (show Row (w6.drewN q6) (w6.drewN q6).heap.size _ _ from RA6.out.drewN q6)
      have RE7 := Lib.hid (show Row (w6.drewN q6) (w6.drewN q6).heap.size _ _ from RE6.out.drewN q6)
      obtain ⟨w7, hw7⟩ : ∃ w7, w6.drewN q6 = w7 := ⟨_, rfl⟩
      rw [hw7] at hb7 RX7 RT7 RM7 RA7 RE7 ⊢
      replace hw7 := Lib.hid hw7
      go_wp2_with fail
      go_ret
      exact ⟨rfl, hb7.out⟩
    · rw [hbv] at hi hs
      replace hi := Lib.hid (show Calls _ _ _ _ (ListPost [] false w1) from hi)
      replace hs := Lib.hid (fun (W : World) (hW : Below w1.heap.size w1 W) => (show Calls _ _ _ _ (ListPost [] false W) from hs W hW))
      have hsame : sameB ([] : List Int) [] = true := decide_eq_true rfl
      replace hbv := Lib.hid hbv
      go_wp2_with fail
      refine hi.out.mono ?_
      rintro e w2 ⟨v2, rfl, hO2, hb2⟩
      obtain ⟨va, vc, rfl, _⟩ := id hO2
      have z2 := hb2.size
      have hcs := Lib.hid (hs.out w2 hb2)
      replace hO2 := Lib.hid hO2
      replace hb2 := Lib.hid (hb1.out.trans (hb2.mono z1))
      go_wp2_with fail
      refine hcs.out.mono ?_
      rintro e w3 ⟨v3, rfl, hO3, hb3⟩
      obtain ⟨ya, yc, rfl, _⟩ := id hO3
      have z3 := hb3.size
      have hO23 := Lib.hid (hO2.out.below hb3 (Nat.le_refl _))
      replace hO3 := Lib.hid hO3
      replace hb3 := Lib.hid (hb2.out.trans (hb3.mono hb2.out.size))
      have hq : ∀ W, (∃ q, W = w3.drewN q) → Calls Tryd.prog 11 #[.slice va ([] : List Int).length vc, .slice ya ([] : List Int).length yc] W fun e w' => e = .returned (.bool true) ∧ ∃ n, w' = W.drewN n := by
        rintro W ⟨q, rfl⟩
        have := same_l (.slice va ([] : List Int).length vc) (.slice ya ([] : List Int).length yc) _ _ w3.heap.size (w3.drewN q) ((hO23.out.row.mono z3).drewN q) (hO3.out.row.drewN q) (by simp) (by simp)
        rw [hsame] at this
        exact this
      replace hq := Lib.hid hq
      go_wp2_with fail
      refine (hq.out w3 ⟨0, rfl⟩).mono ?_
      rintro e w4 ⟨rfl, q, rfl⟩
      go_wp2_with fail
      refine (hq.out _ ⟨q, rfl⟩).mono ?_
      rintro e w5 ⟨rfl, q5, rfl⟩
      go_wp2_with fail
      go_ret
      exact ⟨rfl, below_drewN hb3.out _⟩
end Go.Proofs.YtgkbaenjniapiaaDoor
