/- Laws of chapter 8 over the program: all pressings. -/
import Derived.Test.YtpepcjffolbdcaaDoorPr2
import Derived.Test.YtpepcjffolbdcaaDoorBe4
import Derived.Test.YtpepcjffolbdcaaDoorDrawF
import Derived.Test.YtpepcjffolbdcaaDoorAllSL
import Derived.Test.YtpepcjffolbdcaaDoorAllTs
import Derived.Test.YtpepcjffolbdcaaDoorAllTn
namespace Go.Proofs.YtpepcjffolbdcaaDoor
open Go.ChangeShapes Go.WideShapes Go.ChangeAt Go.RowKit Go.Proofs

set_option maxRecDepth 100000 in
set_option maxHeartbeats 4000000 in
theorem draw_PressAll (v : Value) (a : Option Addr) (len cap : Nat) (w : World) (hv : v = .slice a len cap) (hc : len ≤ cap) (hcap : cap ≤ 9223372036854775807) (hB : Bytes w w.heap.size a len) :
    Calls Tryd.prog 9 #[v] w (GivenDraw w) := by
  have h0 := Lib.hid (draw_given v a len cap w hv hc hcap hB)
  clear hv hc hcap hB
  go_enter Tryd.func9, Tryd.ntmps9
  go_wp2_with fail
  refine (h0.out).mono ?_
  rintro e w1 ⟨n, u, xs, rfl, hl, hO, hb⟩
  obtain ⟨fa, fc, rfl, _⟩ := id hO
  replace hO := Lib.hid hO
  replace hb := Lib.hid hb
  go_wp2_with fail
  go_ret2
  exact ⟨_, _, xs, rfl, hl, hO.out, hb.out⟩
set_option maxRecDepth 100000 in
set_option maxHeartbeats 4000000 in
theorem law_FnPressAll (v : Value) (a : Option Addr) (len cap : Nat) (w : World) (hv : v = .slice a len cap) (hc : len ≤ cap) (hcap : cap ≤ 9223372036854775807) (hB : Bytes w w.heap.size a len) (hT0 : Tab w) :
    Calls Tryd.prog 3 #[v] w fun e w' => e = .returned (.bool true) ∧ Below w.heap.size w w' := by
  have h0 := Lib.hid (draw_PressAll v a len cap w hv hc hcap hB)
  have htl := hT0.lt
  replace hT0 := Lib.hid hT0
  subst hv
  clear hB
  by_cases hbig : 1048576 < len
  · go_enter Tryd.func3, Tryd.ntmps3
    go_wp2_with fail
    go_ret
    exact ⟨rfl, Below.refl _ _⟩
  · go_enter Tryd.func3, Tryd.ntmps3
    go_wp2_with fail
    refine (h0.out).mono ?_
    rintro e w1 ⟨n, u, xs, rfl, hl, hO, hb⟩
    obtain ⟨ua, uc, rfl, _⟩ := id hO
    have z1 := hb.size
    have hb1 := Lib.hid hb
    have hi := im_PressAll n _ xs _ w1 hO.row (Nat.le_refl _) (by omega)
    have hs := fun (W : World) (hW : Below w1.heap.size w1 W) => sp_PressAll n _ xs w1.heap.size W (hO.row.below hW (Nat.le_refl _)) hW.size (by omega)
    have RX1 := Lib.hid hO.row
    clear hb hO
    rcases (by cases famB n xs <;> simp : famB n xs = true ∨ famB n xs = false) with hbv | hbv
    · rw [hbv] at hi hs
      replace hi := Lib.hid (show Calls _ _ _ _ (ListPost (stL (prL n) xs) true w1) from hi)
      replace hs := fun (W : World) (hW : Below w1.heap.size w1 W) => (show Calls _ _ _ _ (ListPost (stL (prL n) xs) true W) from hs W hW)
      obtain ⟨T, hT⟩ : ∃ T, stL (prL n) xs = T := ⟨_, rfl⟩
      rw [hT] at hi hs
      have hsame : sameB T T = true := decide_eq_true rfl
      have fx := hbv
      have lx := famB_len fx
      have fT : famB n T = true := hT ▸ st_in (prL_turns n) fx
      have lT := famB_len fT
      obtain ⟨q1, q2⟩ := press_all fx
      have q3 := stays_stq (prL_turns n) fx
      rw [hT] at q1 q2 q3
      have i1 : inV n xs = (ieN xs : Nat) := by unfold inV; rw [fx]; rfl
      have i2 : inV n T = (ieN T : Nat) := by unfold inV; rw [fT]; rfl
      have hc1 := fun (W : World) (v : Value) (h1 : Row W W.heap.size v xs) (h2 : Tab W) => im_BoundaryInner n v xs W.heap.size W h1 (Nat.le_refl _) (by omega) h2
      have hc2 := fun (W : World) (v : Value) (h1 : Row W W.heap.size v T) (h2 : Tab W) => im_BoundaryInner n v T W.heap.size W h1 (Nat.le_refl _) (by omega) h2
      have hc3 := fun (W : World) (v : Value) (h1 : Row W W.heap.size v T) => im_PressedIn n v T W.heap.size W h1 (Nat.le_refl _) (by omega)
      simp only [fx, fT, i1, i2, q3] at hc1 hc2 hc3
      obtain ⟨A, hA⟩ : ∃ A, ieN xs = A := ⟨_, rfl⟩
      obtain ⟨B, hB2⟩ : ∃ B, ieN T = B := ⟨_, rfl⟩
      rw [hA] at hc1 q2
      rw [hB2] at hc2 q2
      have q4 : ((A : Nat) : Int) ≤ (B : Nat) := by omega
      have q5 : ((T.length : Nat) : Int) = (xs.length : Nat) := by rw [q1]
      replace hc1 := Lib.hid hc1
      replace hc2 := Lib.hid hc2
      replace hc3 := Lib.hid hc3
      replace q1 := Lib.hid q1
      replace q5 := Lib.hid q5
      replace hA := Lib.hid hA
      replace hB2 := Lib.hid hB2
      replace i1 := Lib.hid i1
      replace i2 := Lib.hid i2
      replace q3 := Lib.hid q3
      replace hbv := Lib.hid hbv
      replace fx := Lib.hid fx
      replace fT := Lib.hid fT
      replace hs := Lib.hid hs
      replace hT := Lib.hid hT
      go_wp2_with fail
      refine (hi.out).mono ?_
      rintro e w2 ⟨v2, rfl, hN, hbn⟩
      obtain ⟨c2, d2, rfl, _⟩ := id hN
      have zn := hbn.size
      have RX2 := Lib.hid ((RX1.out.below hbn (Nat.le_refl _)).mono zn)
      have RT2 := Lib.hid hN.row
      have hb2 := Lib.hid (hb1.out.trans (hbn.mono hb1.out.size))
      have hbr := Lib.hid hbn
      clear hN hbn zn
      have hcs := Lib.hid (hs.out w2 hbr.out)
      go_wp2_with fail
      refine (hcs.out).mono ?_
      rintro e w3 ⟨v3, rfl, hN, hbn⟩
      obtain ⟨c3, d3, rfl, _⟩ := id hN
      have zn := hbn.size
      have RX3 := Lib.hid ((RX2.out.below hbn (Nat.le_refl _)).mono zn)
      have RT3 := Lib.hid ((RT2.out.below hbn (Nat.le_refl _)).mono zn)
      have RM3 := Lib.hid hN.row
      have hb3 := Lib.hid (hb2.out.trans (hbn.mono hb2.out.size))
      clear hN hbn zn
      have hq3 := same_l _ _ T T w3.heap.size w3 RT3.out RM3.out (by omega) (by omega)
      rw [hsame] at hq3
      replace hq3 := Lib.hid hq3
      go_wp2_with fail
      refine (hq3.out).mono ?_
      rintro e w' ⟨rfl, q3, rfl⟩
      have hb4 := Lib.hid (below_drewN hb3.out q3)
      have RX4 := Lib.hid (show Row (w3.drewN q3) (w3.drewN q3).heap.size _ _ from RX3.out.drewN q3)
      have RT4 := Lib.hid (show Row (w3.drewN q3) (w3.drewN q3).heap.size _ _ from RT3.out.drewN q3)
      have RM4 := Lib.hid (show Row (w3.drewN q3) (w3.drewN q3).heap.size _ _ from RM3.out.drewN q3)
      obtain ⟨w4, hw4⟩ : ∃ w4, w3.drewN q3 = w4 := ⟨_, rfl⟩
      rw [hw4] at hb4 RX4 RT4 RM4 ⊢
      replace hw4 := Lib.hid hw4
      go_wp2_with fail
      refine (hc1.out w4 _ RX4.out (hT0.out.below hb4.out htl)).mono ?_
      rintro e w5 ⟨rfl, hbn⟩
      have zn := hbn.size
      have RX5 := Lib.hid ((RX4.out.below hbn (Nat.le_refl _)).mono zn)
      have RT5 := Lib.hid ((RT4.out.below hbn (Nat.le_refl _)).mono zn)
      have RM5 := Lib.hid ((RM4.out.below hbn (Nat.le_refl _)).mono zn)
      have hb5 := Lib.hid (hb4.out.trans (hbn.mono hb4.out.size))
      clear hbn zn
      go_wp2_with fail
      refine (hc2.out w5 _ RT5.out (hT0.out.below hb5.out htl)).mono ?_
      rintro e w6 ⟨rfl, hbn⟩
      have zn := hbn.size
      have RX6 := Lib.hid ((RX5.out.below hbn (Nat.le_refl _)).mono zn)
      have RT6 := Lib.hid ((RT5.out.below hbn (Nat.le_refl _)).mono zn)
      have RM6 := Lib.hid ((RM5.out.below hbn (Nat.le_refl _)).mono zn)
      have hb6 := Lib.hid (hb5.out.trans (hbn.mono hb5.out.size))
      clear hbn zn
      have hq5 := q5.out
      have hq6 : (((T.length : Nat) : Int) == (xs.length : Nat)) = true := by rw [hq5]; simp
      clear hq5
      go_wp2_with fail
      refine (hc3.out w6 _ RT6.out).mono ?_
      rintro e w7 ⟨rfl, hbn⟩
      have zn := hbn.size
      have RX7 := Lib.hid ((RX6.out.below hbn (Nat.le_refl _)).mono zn)
      have RT7 := Lib.hid ((RT6.out.below hbn (Nat.le_refl _)).mono zn)
      have RM7 := Lib.hid ((RM6.out.below hbn (Nat.le_refl _)).mono zn)
      have hb7 := Lib.hid (hb6.out.trans (hbn.mono hb6.out.size))
      clear hbn zn
      go_wp2_with fail
      go_ret
      exact ⟨rfl, hb7.out⟩
    · rw [hbv] at hi hs
      replace hi := Lib.hid (show Calls _ _ _ _ (ListPost [] false w1) from hi)
      replace hs := Lib.hid (fun (W : World) (hW : Below w1.heap.size w1 W) => (show Calls _ _ _ _ (ListPost [] false W) from hs W hW))
      have hsame : sameB ([] : List Int) [] = true := decide_eq_true rfl
      replace hbv := Lib.hid hbv
      go_wp2_with fail
      refine hi.out.mono ?_
      rintro e w2 ⟨v2, rfl, hO2, hb2⟩
      obtain ⟨va, vc, rfl, _⟩ := id hO2
      have z2 := hb2.size
      have hcs := Lib.hid (hs.out w2 hb2)
      replace hO2 := Lib.hid hO2
      replace hb2 := Lib.hid (hb1.out.trans (hb2.mono z1))
      go_wp2_with fail
      refine hcs.out.mono ?_
      rintro e w3 ⟨v3, rfl, hO3, hb3⟩
      obtain ⟨ya, yc, rfl, _⟩ := id hO3
      have z3 := hb3.size
      have hO23 := Lib.hid (hO2.out.below hb3 (Nat.le_refl _))
      replace hO3 := Lib.hid hO3
      replace hb3 := Lib.hid (hb2.out.trans (hb3.mono hb2.out.size))
      have hq : ∀ W, (∃ q, W = w3.drewN q) → Calls Tryd.prog 12 #[.slice va ([] : List Int).length vc, .slice ya ([] : List Int).length yc] W fun e w' => e = .returned (.bool true) ∧ ∃ n, w' = W.drewN n := by
        rintro W ⟨q, rfl⟩
        have := same_l (.slice va ([] : List Int).length vc) (.slice ya ([] : List Int).length yc) _ _ w3.heap.size (w3.drewN q) ((hO23.out.row.mono z3).drewN q) (hO3.out.row.drewN q) (by simp) (by simp)
        rw [hsame] at this
        exact this
      replace hq := Lib.hid hq
      go_wp2_with fail
      refine (hq.out w3 ⟨0, rfl⟩).mono ?_
      rintro e w4 ⟨rfl, q, rfl⟩
      go_wp2_with fail
      refine (hq.out _ ⟨q, rfl⟩).mono ?_
      rintro e w5 ⟨rfl, q5, rfl⟩
      go_wp2_with fail
      go_ret
      exact ⟨rfl, below_drewN hb3.out _⟩
end Go.Proofs.YtpepcjffolbdcaaDoor
