/- The law FnBoundary: boundaries have at least as many sets as those of the first sets in ball order. -/
import Derived.Test.YtpjapoaagbdlfaaGreatDoorHp0
import Derived.Test.YtpjapoaagbdlfaaGreatDoorBp3
import Derived.Test.YtpjapoaagbdlfaaGreatDoorAllBp
import Derived.Test.YtpjapoaagbdlfaaGreatDoorGv6
import Derived.Test.YtpjapoaagbdlfaaGreatDoorSameL
import Derived.Test.YtpjapoaagbdlfaaGreatDoorAllSp
namespace Go.Proofs.YtpjapoaagbdlfaaGreatDoor
open Go.ChangeShapes Go.WideShapes Go.ChangeAt Go.RowKit Go.Proofs

set_option maxRecDepth 100000 in
set_option maxHeartbeats 4000000 in
theorem law_FnBoundary (v : Value) (a : Option Addr) (len cap : Nat) (w : World) (hv : v = .slice a len cap) (hc : len ≤ cap) (hcap : cap ≤ 9223372036854775807) (hB : Bytes w w.heap.size a len) (hT0 : Tab w) :
    Calls Tryz.prog 5 #[v] w fun e w' => e = .returned (.bool true) ∧ Below w.heap.size w w' := by
  have h0 := Lib.hid (draw_BoundaryOf6 v a len cap w hv hc hcap hB)
  have htl := hT0.lt
  replace hT0 := Lib.hid hT0
  subst hv
  clear hB
  by_cases hbig : 1048576 < len
  · go_enter Tryz.func5, Tryz.ntmps5
    go_wp2_with fail
    go_ret
    exact ⟨rfl, Below.refl _ _⟩
  · go_enter Tryz.func5, Tryz.ntmps5
    go_wp2_with fail
    refine (h0.out).mono ?_
    rintro e w1 ⟨n, u, xs, rfl, hn6, hl, hO, hb⟩
    obtain ⟨ua, uc, rfl, _⟩ := id hO
    have z1 := hb.size
    have hb1 := Lib.hid hb
    have hi := im_BoundaryOf n _ xs _ w1 hO.row (Nat.le_refl _) (by omega) (hT0.out.below hb htl)
    have hs := fun (W : World) (hW : Below w1.heap.size w1 W) => sp_BoundaryOf n _ xs w1.heap.size W (hO.row.below hW (Nat.le_refl _)) hW.size (by omega)
    have RX1 := Lib.hid hO.row
    clear hb hO
    rcases (by cases famB n xs <;> simp : famB n xs = true ∨ famB n xs = false) with hbv | hbv
    · rw [hbv] at hi hs
      replace hi := Lib.hid (show Calls _ _ _ _ (ListPost (bdL n xs) true w1) from hi)
      replace hs := fun (W : World) (hW : Below w1.heap.size w1 W) => (show Calls _ _ _ _ (ListPost (bdL n xs) true W) from hs W hW)
      obtain ⟨T, hT⟩ : ∃ T, bdL n xs = T := ⟨_, rfl⟩
      rw [hT] at hi hs
      have hsame : sameB T T = true := decide_eq_true rfl
      have fx := hbv
      have lx := famB_len fx
      obtain ⟨n1, n2, hss⟩ := famB_all fx
      have n6 : n ≤ 6 := by omega
      have fT : famB n T = true := hT ▸ bd_fam fx n6
      have lT := famB_len fT
      have hfb : fiB n (xs.length : Nat) = true := fi_fit fx
      have fF : famB n (fiL n (xs.length : Nat)) = true := fi_fam n1 n6
      have lF := famB_len fF
      have hD := bd_dis (n := n) xs
      have hle := bd_first fx n6 fF hfb
      rw [hT] at hD hle
      have lG := famB_len (bd_fam fF n6)
      have hc1 := fun (W : World) (v u : Value) (h1 : Row W W.heap.size v T) (h2 : Row W W.heap.size u xs) => im_FamilyCommon n v u T xs W.heap.size W h1 h2 (Nat.le_refl _) (by omega) (by omega)
      have hc2 := fun (W : World) (h2 : Tab W) => im_BoundaryFirst n (xs.length : Nat) W h2
      obtain ⟨F, hF⟩ : ∃ F, fiL n (xs.length : Nat) = F := ⟨_, rfl⟩
      rw [hF] at hc2 fF lF hle lG
      have hc3 := fun (W : World) (v : Value) (h1 : Row W W.heap.size v F) (h2 : Tab W) => im_BoundaryOf n v F W.heap.size W h1 (Nat.le_refl _) (by omega) h2
      obtain ⟨G, hG⟩ : ∃ G, bdL n F = G := ⟨_, rfl⟩
      rw [hG] at hc3 hle lG
      have hle2 : ¬ ((T.length : Nat) : Int) < (G.length : Nat) := by omega
      have hle3 : ((G.length : Nat) : Int) ≤ (T.length : Nat) := by omega
      simp only [fx, fT, fF, hfb, Bool.and_true] at hc1 hc2 hc3
      replace hc1 := Lib.hid (show ∀ (W : World) (v u : Value), Row W W.heap.size v T → Row W W.heap.size u xs → Calls Tryz.prog 12 #[.int .i64 n, v, u] W (ListPost [] true W) from fun W v u h1 h2 => by
        have := hc1 W v u h1 h2
        rw [hD] at this
        exact this)
      replace hc2 := Lib.hid (show ∀ (W : World), Tab W → Calls Tryz.prog 19 #[.int .i64 n, .int .i64 (xs.length : Nat)] W (ListPost F true W) from hc2)
      replace hc3 := Lib.hid (show ∀ (W : World) (v : Value), Row W W.heap.size v F → Tab W → Calls Tryz.prog 17 #[.int .i64 n, v] W (ListPost G true W) from hc3)
      replace hF := Lib.hid hF
      replace hG := Lib.hid hG
      replace hD := Lib.hid hD
      replace hle := Lib.hid hle
      replace hbv := Lib.hid hbv
      replace fx := Lib.hid fx
      replace fT := Lib.hid fT
      replace fF := Lib.hid fF
      replace hfb := Lib.hid hfb
      replace hss := Lib.hid hss
      replace hs := Lib.hid hs
      replace hT := Lib.hid hT
      go_wp2_with fail
      refine (hi.out).mono ?_
      rintro e w2 ⟨v2, rfl, hN, hbn⟩
      obtain ⟨c2, d2, rfl, _⟩ := id hN
      have zn := hbn.size
      have RX2 := Lib.hid ((RX1.out.below hbn (Nat.le_refl _)).mono zn)
      have RT2 := Lib.hid hN.row
      have hb2 := Lib.hid (hb1.out.trans (hbn.mono hb1.out.size))
      have hbr := Lib.hid hbn
      clear hN hbn zn
      have hcs := Lib.hid (hs.out w2 hbr.out)
      go_wp2_with fail
      refine (hcs.out).mono ?_
      rintro e w3 ⟨v3, rfl, hN, hbn⟩
      obtain ⟨c3, d3, rfl, _⟩ := id hN
      have zn := hbn.size
      have RX3 := Lib.hid ((RX2.out.below hbn (Nat.le_refl _)).mono zn)
      have RT3 := Lib.hid ((RT2.out.below hbn (Nat.le_refl _)).mono zn)
      have RM3 := Lib.hid hN.row
      have hb3 := Lib.hid (hb2.out.trans (hbn.mono hb2.out.size))
      clear hN hbn zn
      have hq3 := same_l _ _ T T w3.heap.size w3 RT3.out RM3.out (by omega) (by omega)
      rw [hsame] at hq3
      replace hq3 := Lib.hid hq3
      go_wp2_with fail
      refine (hq3.out).mono ?_
      rintro e w' ⟨rfl, q3, rfl⟩
      have hb4 := Lib.hid (below_drewN hb3.out q3)
      have RX4 := Lib.hid (show Row (w3.drewN q3) (w3.drewN q3).heap.size _ _ from RX3.out.drewN q3)
      have RT4 := Lib.hid (show Row (w3.drewN q3) (w3.drewN q3).heap.size _ _ from RT3.out.drewN q3)
      have RM4 := Lib.hid (show Row (w3.drewN q3) (w3.drewN q3).heap.size _ _ from RM3.out.drewN q3)
      obtain ⟨w4, hw4⟩ : ∃ w4, w3.drewN q3 = w4 := ⟨_, rfl⟩
      rw [hw4] at hb4 RX4 RT4 RM4 ⊢
      replace hw4 := Lib.hid hw4
      go_wp2_with fail
      refine (hc1.out w4 _ _ RT4.out RX4.out).mono ?_
      rintro e w5 ⟨v5, rfl, hN, hbn⟩
      obtain ⟨c5, d5, rfl, _⟩ := id hN
      have zn := hbn.size
      have RX5 := Lib.hid ((RX4.out.below hbn (Nat.le_refl _)).mono zn)
      have RT5 := Lib.hid ((RT4.out.below hbn (Nat.le_refl _)).mono zn)
      have RM5 := Lib.hid ((RM4.out.below hbn (Nat.le_refl _)).mono zn)
      have RC5 := Lib.hid hN.row
      have hb5 := Lib.hid (hb4.out.trans (hbn.mono hb4.out.size))
      clear hN hbn zn
      go_wp2_with fail
      refine (hc2.out w5 (hT0.out.below hb5.out htl)).mono ?_
      rintro e w6 ⟨v6, rfl, hN, hbn⟩
      obtain ⟨c6, d6, rfl, _⟩ := id hN
      have zn := hbn.size
      have RX6 := Lib.hid ((RX5.out.below hbn (Nat.le_refl _)).mono zn)
      have RT6 := Lib.hid ((RT5.out.below hbn (Nat.le_refl _)).mono zn)
      have RM6 := Lib.hid ((RM5.out.below hbn (Nat.le_refl _)).mono zn)
      have RC6 := Lib.hid ((RC5.out.below hbn (Nat.le_refl _)).mono zn)
      have RF6 := Lib.hid hN.row
      have hb6 := Lib.hid (hb5.out.trans (hbn.mono hb5.out.size))
      clear hN hbn zn
      go_wp2_with fail
      refine (hc3.out w6 _ RF6.out (hT0.out.below hb6.out htl)).mono ?_
      rintro e w7 ⟨v7, rfl, hN, hbn⟩
      obtain ⟨c7, d7, rfl, _⟩ := id hN
      have zn := hbn.size
      have RX7 := Lib.hid ((RX6.out.below hbn (Nat.le_refl _)).mono zn)
      have RT7 := Lib.hid ((RT6.out.below hbn (Nat.le_refl _)).mono zn)
      have RM7 := Lib.hid ((RM6.out.below hbn (Nat.le_refl _)).mono zn)
      have RC7 := Lib.hid ((RC6.out.below hbn (Nat.le_refl _)).mono zn)
      have RF7 := Lib.hid ((RF6.out.below hbn (Nat.le_refl _)).mono zn)
      have RG7 := Lib.hid hN.row
      have hb7 := Lib.hid (hb6.out.trans (hbn.mono hb6.out.size))
      clear hN hbn zn
      go_wp2_with fail
      go_ret
      exact ⟨ret_bool (by simp), hb7.out⟩
    · rw [hbv] at hi hs
      replace hi := Lib.hid (show Calls _ _ _ _ (ListPost [] false w1) from hi)
      replace hs := Lib.hid (fun (W : World) (hW : Below w1.heap.size w1 W) => (show Calls _ _ _ _ (ListPost [] false W) from hs W hW))
      have hsame : sameB ([] : List Int) [] = true := decide_eq_true rfl
      replace hbv := Lib.hid hbv
      go_wp2_with fail
      refine hi.out.mono ?_
      rintro e w2 ⟨v2, rfl, hO2, hb2⟩
      obtain ⟨va, vc, rfl, _⟩ := id hO2
      have z2 := hb2.size
      have hcs := Lib.hid (hs.out w2 hb2)
      replace hO2 := Lib.hid hO2
      replace hb2 := Lib.hid (hb1.out.trans (hb2.mono z1))
      go_wp2_with fail
      refine hcs.out.mono ?_
      rintro e w3 ⟨v3, rfl, hO3, hb3⟩
      obtain ⟨ya, yc, rfl, _⟩ := id hO3
      have z3 := hb3.size
      have hO23 := Lib.hid (hO2.out.below hb3 (Nat.le_refl _))
      replace hO3 := Lib.hid hO3
      replace hb3 := Lib.hid (hb2.out.trans (hb3.mono hb2.out.size))
      have hq : ∀ W, (∃ q, W = w3.drewN q) → Calls Tryz.prog 13 #[.slice va ([] : List Int).length vc, .slice ya ([] : List Int).length yc] W fun e w' => e = .returned (.bool true) ∧ ∃ n, w' = W.drewN n := by
        rintro W ⟨q, rfl⟩
        have := same_l (.slice va ([] : List Int).length vc) (.slice ya ([] : List Int).length yc) _ _ w3.heap.size (w3.drewN q) ((hO23.out.row.mono z3).drewN q) (hO3.out.row.drewN q) (by simp) (by simp)
        rw [hsame] at this
        exact this
      replace hq := Lib.hid hq
      go_wp2_with fail
      refine (hq.out w3 ⟨0, rfl⟩).mono ?_
      rintro e w4 ⟨rfl, q, rfl⟩
      go_wp2_with fail
      refine (hq.out _ ⟨q, rfl⟩).mono ?_
      rintro e w5 ⟨rfl, q5, rfl⟩
      go_wp2_with fail
      go_ret
      exact ⟨rfl, below_drewN hb3.out _⟩
end Go.Proofs.YtpjapoaagbdlfaaGreatDoor
