/- Laws of chapter 5 over the program: what compares lists. -/
import Derived.Test.YtielgfjecjoloaaPa1
import Derived.Test.YtielgfjecjoloaaDrawF
import Derived.Test.YtielgfjecjoloaaSameL
import Derived.Test.YtielgfjecjoloaaSpec7
namespace Go.Proofs.Ytielgfjecjoloaa
open Go.ChangeShapes Go.WideShapes Go.ChangeAt Go.RowKit Go.Proofs
theorem draw_AntichainTop (v : Value) (a : Option Addr) (len cap : Nat) (w : World) (hv : v = .slice a len cap) (hc : len ≤ cap) (hcap : cap ≤ 9223372036854775807) (hB : Bytes w w.heap.size a len) :
    Calls Try.prog 13 #[v] w (GivenDraw w) := by
  have h0 := Lib.hid (draw_given v a len cap w hv hc hcap hB)
  clear hv hc hcap hB
  go_enter Try.func13, Try.ntmps13
  go_wp2_with fail
  refine (h0.out).mono ?_
  rintro e w1 ⟨n, u, xs, rfl, hl, hO, hb⟩
  obtain ⟨fa, fc, rfl, _⟩ := id hO
  replace hO := Lib.hid hO
  replace hb := Lib.hid hb
  go_wp2_with fail
  go_ret2
  exact ⟨_, _, xs, rfl, hl, hO.out, hb.out⟩
theorem draw_AntichainBottom (v : Value) (a : Option Addr) (len cap : Nat) (w : World) (hv : v = .slice a len cap) (hc : len ≤ cap) (hcap : cap ≤ 9223372036854775807) (hB : Bytes w w.heap.size a len) :
    Calls Try.prog 18 #[v] w (GivenDraw w) := by
  have h0 := Lib.hid (draw_given v a len cap w hv hc hcap hB)
  clear hv hc hcap hB
  go_enter Try.func18, Try.ntmps18
  go_wp2_with fail
  refine (h0.out).mono ?_
  rintro e w1 ⟨n, u, xs, rfl, hl, hO, hb⟩
  obtain ⟨fa, fc, rfl, _⟩ := id hO
  replace hO := Lib.hid hO
  replace hb := Lib.hid hb
  go_wp2_with fail
  go_ret2
  exact ⟨_, _, xs, rfl, hl, hO.out, hb.out⟩
theorem draw_ClosedUp (v : Value) (a : Option Addr) (len cap : Nat) (w : World) (hv : v = .slice a len cap) (hc : len ≤ cap) (hcap : cap ≤ 9223372036854775807) (hB : Bytes w w.heap.size a len) :
    Calls Try.prog 21 #[v] w (GivenDraw w) := by
  have h0 := Lib.hid (draw_given v a len cap w hv hc hcap hB)
  clear hv hc hcap hB
  go_enter Try.func21, Try.ntmps21
  go_wp2_with fail
  refine (h0.out).mono ?_
  rintro e w1 ⟨n, u, xs, rfl, hl, hO, hb⟩
  obtain ⟨fa, fc, rfl, _⟩ := id hO
  replace hO := Lib.hid hO
  replace hb := Lib.hid hb
  go_wp2_with fail
  go_ret2
  exact ⟨_, _, xs, rfl, hl, hO.out, hb.out⟩
set_option maxRecDepth 100000 in
set_option maxHeartbeats 4000000 in
theorem law_FnBottom (v : Value) (a : Option Addr) (len cap : Nat) (w : World) (hv : v = .slice a len cap) (hc : len ≤ cap) (hcap : cap ≤ 9223372036854775807) (hB : Bytes w w.heap.size a len) :
    Calls Try.prog 5 #[v] w fun e w' => e = .returned (.bool true) ∧ Below w.heap.size w w' := by
  have h0 := Lib.hid (draw_AntichainBottom v a len cap w hv hc hcap hB)
  subst hv
  clear hB
  by_cases hbig : 1048576 < len
  · go_enter Try.func5, Try.ntmps5
    go_wp2_with fail
    go_ret
    exact ⟨rfl, Below.refl _ _⟩
  · go_enter Try.func5, Try.ntmps5
    go_wp2_with fail
    refine (h0.out).mono ?_
    rintro e w1 ⟨n, u, xs, rfl, hl, hO, hb⟩
    obtain ⟨ua, uc, rfl, _⟩ := id hO
    have z1 := hb.size
    have hb1 := Lib.hid hb
    have hi := im_Bot n _ xs _ w1 hO.row (Nat.le_refl _) (by omega)
    have hs := fun (W : World) (hW : Below w1.heap.size w1 W) => sp_AntichainBottom n _ xs w1.heap.size W (hO.row.below hW (Nat.le_refl _)) hW.size (by omega)
    have RX1 := Lib.hid hO.row
    clear hb hO
    rcases (by cases famB n xs <;> simp : famB n xs = true ∨ famB n xs = false) with hbv | hbv
    · rw [hbv] at hi hs
      replace hi := Lib.hid (show Calls _ _ _ _ (ListPost (endL false xs xs) true w1) from hi)
      replace hs := fun (W : World) (hW : Below w1.heap.size w1 W) => (show Calls _ _ _ _ (ListPost (endL false xs xs) true W) from hs W hW)
      obtain ⟨T, hT⟩ : ∃ T, endL false xs xs = T := ⟨_, rfl⟩
      rw [hT] at hi hs
      have hsame : sameB T T = true := decide_eq_true rfl
      have fx := hbv
      have lx := famB_len fx
      have fT : famB n T = true := hT ▸ fam_end false fx
      have lT := famB_len fT
      have fA := fam_other fT
      have fD := fam_other fx
      have lA := famB_len fA
      have lD := famB_len fD
      have hG := bot_oth fx
      rw [hT] at hG
      have hc1 := fun (W : World) (v : Value) (h1 : Row W W.heap.size v T) => im_FamilyOther n v T W.heap.size W h1 (Nat.le_refl _) (by omega)
      have hc2 := fun (W : World) (v : Value) (h1 : Row W W.heap.size v xs) => im_FamilyOther n v xs W.heap.size W h1 (Nat.le_refl _) (by omega)
      obtain ⟨A, hA⟩ : ∃ A, sortL (T.map (otherI n)) = A := ⟨_, rfl⟩
      obtain ⟨D, hD⟩ : ∃ D, sortL (xs.map (otherI n)) = D := ⟨_, rfl⟩
      rw [hA] at fA lA hc1 hG
      rw [hD] at fD lD hc2 hG
      have hc3 := fun (W : World) (v : Value) (h1 : Row W W.heap.size v D) => im_Top n v D W.heap.size W h1 (Nat.le_refl _) (by omega)
      simp only [fx, fT, fD] at hc1 hc2 hc3
      rw [hG] at hc3
      have hse : sameB A A = true := decide_eq_true rfl
      replace hc1 := Lib.hid (show ∀ (W : World) (v : Value), Row W W.heap.size v T → Calls Try.prog 11 #[.int .i64 n, v] W (ListPost A true W) from hc1)
      replace hc2 := Lib.hid (show ∀ (W : World) (v : Value), Row W W.heap.size v xs → Calls Try.prog 11 #[.int .i64 n, v] W (ListPost D true W) from hc2)
      replace hc3 := Lib.hid (show ∀ (W : World) (v : Value), Row W W.heap.size v D → Calls Try.prog 14 #[.int .i64 n, v] W (ListPost A true W) from hc3)
      replace hA := Lib.hid hA
      replace hD := Lib.hid hD
      replace hG := Lib.hid hG
      replace hbv := Lib.hid hbv
      replace fx := Lib.hid fx
      replace fT := Lib.hid fT
      replace fA := Lib.hid fA
      replace fD := Lib.hid fD
      replace hs := Lib.hid hs
      replace hT := Lib.hid hT
      go_wp2_with fail
      refine (hi.out).mono ?_
      rintro e w2 ⟨v2, rfl, hN, hbn⟩
      obtain ⟨c2, d2, rfl, _⟩ := id hN
      have zn := hbn.size
      have RX2 := Lib.hid ((RX1.out.below hbn (Nat.le_refl _)).mono zn)
      have RT2 := Lib.hid hN.row
      have hb2 := Lib.hid (hb1.out.trans (hbn.mono hb1.out.size))
      have hbr := Lib.hid hbn
      clear hN hbn zn
      have hcs := Lib.hid (hs.out w2 hbr.out)
      go_wp2_with fail
      refine (hcs.out).mono ?_
      rintro e w3 ⟨v3, rfl, hN, hbn⟩
      obtain ⟨c3, d3, rfl, _⟩ := id hN
      have zn := hbn.size
      have RX3 := Lib.hid ((RX2.out.below hbn (Nat.le_refl _)).mono zn)
      have RT3 := Lib.hid ((RT2.out.below hbn (Nat.le_refl _)).mono zn)
      have RM3 := Lib.hid hN.row
      have hb3 := Lib.hid (hb2.out.trans (hbn.mono hb2.out.size))
      clear hN hbn zn
      have hq3 := same_l _ _ T T w3.heap.size w3 RT3.out RM3.out (by omega) (by omega)
      rw [hsame] at hq3
      replace hq3 := Lib.hid hq3
      go_wp2_with fail
      refine (hq3.out).mono ?_
      rintro e w' ⟨rfl, q3, rfl⟩
      have hb4 := Lib.hid (below_drewN hb3.out q3)
      have RX4 := Lib.hid (show Row (w3.drewN q3) (w3.drewN q3).heap.size _ _ from RX3.out.drewN q3)
      have RT4 := Lib.hid (show Row (w3.drewN q3) (w3.drewN q3).heap.size _ _ from RT3.out.drewN q3)
      have RM4 := Lib.hid (show Row (w3.drewN q3) (w3.drewN q3).heap.size _ _ from RM3.out.drewN q3)
      obtain ⟨w4, hw4⟩ : ∃ w4, w3.drewN q3 = w4 := ⟨_, rfl⟩
      rw [hw4] at hb4 RX4 RT4 RM4 ⊢
      replace hw4 := Lib.hid hw4
      go_wp2_with fail
      refine (hc1.out w4 _ RT4.out).mono ?_
      rintro e w5 ⟨v5, rfl, hN, hbn⟩
      obtain ⟨c5, d5, rfl, _⟩ := id hN
      have zn := hbn.size
      have RX5 := Lib.hid ((RX4.out.below hbn (Nat.le_refl _)).mono zn)
      have RT5 := Lib.hid ((RT4.out.below hbn (Nat.le_refl _)).mono zn)
      have RM5 := Lib.hid ((RM4.out.below hbn (Nat.le_refl _)).mono zn)
      have RA5 := Lib.hid hN.row
      have hb5 := Lib.hid (hb4.out.trans (hbn.mono hb4.out.size))
      clear hN hbn zn
      go_wp2_with fail
      refine (hc2.out w5 _ RX5.out).mono ?_
      rintro e w6 ⟨v6, rfl, hN, hbn⟩
      obtain ⟨c6, d6, rfl, _⟩ := id hN
      have zn := hbn.size
      have RX6 := Lib.hid ((RX5.out.below hbn (Nat.le_refl _)).mono zn)
      have RT6 := Lib.hid ((RT5.out.below hbn (Nat.le_refl _)).mono zn)
      have RM6 := Lib.hid ((RM5.out.below hbn (Nat.le_refl _)).mono zn)
      have RA6 := Lib.hid ((RA5.out.below hbn (Nat.le_refl _)).mono zn)
      have RD6 := Lib.hid hN.row
      have hb6 := Lib.hid (hb5.out.trans (hbn.mono hb5.out.size))
      clear hN hbn zn
      go_wp2_with fail
      refine (hc3.out w6 _ RD6.out).mono ?_
      rintro e w7 ⟨v7, rfl, hN, hbn⟩
      obtain ⟨c7, d7, rfl, _⟩ := id hN
      have zn := hbn.size
      have RX7 := Lib.hid ((RX6.out.below hbn (Nat.le_refl _)).mono zn)
      have RT7 := Lib.hid ((RT6.out.below hbn (Nat.le_refl _)).mono zn)
      have RM7 := Lib.hid ((RM6.out.below hbn (Nat.le_refl _)).mono zn)
      have RA7 := Lib.hid ((RA6.out.below hbn (Nat.le_refl _)).mono zn)
      have RD7 := Lib.hid ((RD6.out.below hbn (Nat.le_refl _)).mono zn)
      have RE7 := Lib.hid hN.row
      have hb7 := Lib.hid (hb6.out.trans (hbn.mono hb6.out.size))
      clear hN hbn zn
      have hq7 := same_l _ _ A A w7.heap.size w7 RA7.out RE7.out (by omega) (by omega)
      rw [hse] at hq7
      replace hq7 := Lib.hid hq7
      go_wp2_with fail
      refine (hq7.out).mono ?_
      rintro e w' ⟨rfl, q7, rfl⟩
      have hb8 := Lib.hid (below_drewN hb7.out q7)
      have RX8 := Lib.hid (show Row (w7.drewN q7) (w7.drewN q7).heap.size _ _ from RX7.out.drewN q7)
      have RT8 := Lib.hid (show Row (w7.drewN q7) (w7.drewN q7).heap.size _ _ from RT7.out.drewN q7)
      have RM8 := Lib.hid (show Row (w7.drewN q7) (w7.drewN q7).heap.size _ _ from RM7.out.drewN q7)
      have RA8 := Lib.hid (show Row (w7.drewN q7) (w7.drewN q7).heap.size _ _ from RA7.out.drewN q7)
      have RD8 := Lib.hid (show Row (w7.drewN q7) (w7.drewN q7).heap.size _ _ from RD7.out.drewN q7)
      have RE8 := Lib.hid (show Row (w7.drewN q7) (w7.drewN q7).heap.size _ _ from RE7.out.drewN q7)
      obtain ⟨w8, hw8⟩ : ∃ w8, w7.drewN q7 = w8 := ⟨_, rfl⟩
      rw [hw8] at hb8 RX8 RT8 RM8 RA8 RD8 RE8 ⊢
      replace hw8 := Lib.hid hw8
      go_wp2_with fail
      go_ret
      exact ⟨rfl, hb8.out⟩
    · rw [hbv] at hi hs
      replace hi := Lib.hid (show Calls _ _ _ _ (ListPost [] false w1) from hi)
      replace hs := Lib.hid (fun (W : World) (hW : Below w1.heap.size w1 W) => (show Calls _ _ _ _ (ListPost [] false W) from hs W hW))
      have hsame : sameB ([] : List Int) [] = true := decide_eq_true rfl
      replace hbv := Lib.hid hbv
      go_wp2_with fail
      refine hi.out.mono ?_
      rintro e w2 ⟨v2, rfl, hO2, hb2⟩
      obtain ⟨va, vc, rfl, _⟩ := id hO2
      have z2 := hb2.size
      have hcs := Lib.hid (hs.out w2 hb2)
      replace hO2 := Lib.hid hO2
      replace hb2 := Lib.hid (hb1.out.trans (hb2.mono z1))
      go_wp2_with fail
      refine hcs.out.mono ?_
      rintro e w3 ⟨v3, rfl, hO3, hb3⟩
      obtain ⟨ya, yc, rfl, _⟩ := id hO3
      have z3 := hb3.size
      have hO23 := Lib.hid (hO2.out.below hb3 (Nat.le_refl _))
      replace hO3 := Lib.hid hO3
      replace hb3 := Lib.hid (hb2.out.trans (hb3.mono hb2.out.size))
      have hq : ∀ W, (∃ q, W = w3.drewN q) → Calls Try.prog 16 #[.slice va ([] : List Int).length vc, .slice ya ([] : List Int).length yc] W fun e w' => e = .returned (.bool true) ∧ ∃ n, w' = W.drewN n := by
        rintro W ⟨q, rfl⟩
        have := same_l (.slice va ([] : List Int).length vc) (.slice ya ([] : List Int).length yc) _ _ w3.heap.size (w3.drewN q) ((hO23.out.row.mono z3).drewN q) (hO3.out.row.drewN q) (by simp) (by simp)
        rw [hsame] at this
        exact this
      replace hq := Lib.hid hq
      go_wp2_with fail
      refine (hq.out w3 ⟨0, rfl⟩).mono ?_
      rintro e w4 ⟨rfl, q, rfl⟩
      go_wp2_with fail
      refine (hq.out _ ⟨q, rfl⟩).mono ?_
      rintro e w5 ⟨rfl, q5, rfl⟩
      go_wp2_with fail
      go_ret
      exact ⟨rfl, below_drewN hb3.out _⟩
set_option maxRecDepth 100000 in
set_option maxHeartbeats 4000000 in
theorem law_FnClosedUp (v : Value) (a : Option Addr) (len cap : Nat) (w : World) (hv : v = .slice a len cap) (hc : len ≤ cap) (hcap : cap ≤ 9223372036854775807) (hB : Bytes w w.heap.size a len) :
    Calls Try.prog 6 #[v] w fun e w' => e = .returned (.bool true) ∧ Below w.heap.size w w' := by
  have h0 := Lib.hid (draw_ClosedUp v a len cap w hv hc hcap hB)
  subst hv
  clear hB
  by_cases hbig : 1048576 < len
  · go_enter Try.func6, Try.ntmps6
    go_wp2_with fail
    go_ret
    exact ⟨rfl, Below.refl _ _⟩
  · go_enter Try.func6, Try.ntmps6
    go_wp2_with fail
    refine (h0.out).mono ?_
    rintro e w1 ⟨n, u, xs, rfl, hl, hO, hb⟩
    obtain ⟨ua, uc, rfl, _⟩ := id hO
    have z1 := hb.size
    have hb1 := Lib.hid hb
    have hi := im_Up n _ xs _ w1 hO.row (Nat.le_refl _) (by omega)
    have hs := fun (W : World) (hW : Below w1.heap.size w1 W) => sp_ClosedUp n _ xs w1.heap.size W (hO.row.below hW (Nat.le_refl _)) hW.size (by omega)
    have RX1 := Lib.hid hO.row
    clear hb hO
    rcases (by cases famB n xs <;> simp : famB n xs = true ∨ famB n xs = false) with hbv | hbv
    · rw [hbv] at hi hs
      replace hi := Lib.hid (show Calls _ _ _ _ (ListPost (clL false xs (2 ^ n.toNat)) true w1) from hi)
      replace hs := fun (W : World) (hW : Below w1.heap.size w1 W) => (show Calls _ _ _ _ (ListPost (clL false xs (2 ^ n.toNat)) true W) from hs W hW)
      obtain ⟨T, hT⟩ : ∃ T, clL false xs (2 ^ n.toNat) = T := ⟨_, rfl⟩
      rw [hT] at hi hs
      have hsame : sameB T T = true := decide_eq_true rfl
      have fx := hbv
      have lx := famB_len fx
      have fT : famB n T = true := hT ▸ fam_cl false fx
      have lT := famB_len fT
      have fA := fam_other fT
      have fD := fam_other fx
      have lA := famB_len fA
      have lD := famB_len fD
      have hG := up_oth fx
      rw [hT] at hG
      have hc1 := fun (W : World) (v : Value) (h1 : Row W W.heap.size v T) => im_FamilyOther n v T W.heap.size W h1 (Nat.le_refl _) (by omega)
      have hc2 := fun (W : World) (v : Value) (h1 : Row W W.heap.size v xs) => im_FamilyOther n v xs W.heap.size W h1 (Nat.le_refl _) (by omega)
      obtain ⟨A, hA⟩ : ∃ A, sortL (T.map (otherI n)) = A := ⟨_, rfl⟩
      obtain ⟨D, hD⟩ : ∃ D, sortL (xs.map (otherI n)) = D := ⟨_, rfl⟩
      rw [hA] at fA lA hc1 hG
      rw [hD] at fD lD hc2 hG
      have hc3 := fun (W : World) (v : Value) (h1 : Row W W.heap.size v D) => im_Dn n v D W.heap.size W h1 (Nat.le_refl _) (by omega)
      simp only [fx, fT, fD] at hc1 hc2 hc3
      rw [hG] at hc3
      have hse : sameB A A = true := decide_eq_true rfl
      replace hc1 := Lib.hid (show ∀ (W : World) (v : Value), Row W W.heap.size v T → Calls Try.prog 11 #[.int .i64 n, v] W (ListPost A true W) from hc1)
      replace hc2 := Lib.hid (show ∀ (W : World) (v : Value), Row W W.heap.size v xs → Calls Try.prog 11 #[.int .i64 n, v] W (ListPost D true W) from hc2)
      replace hc3 := Lib.hid (show ∀ (W : World) (v : Value), Row W W.heap.size v D → Calls Try.prog 17 #[.int .i64 n, v] W (ListPost A true W) from hc3)
      replace hA := Lib.hid hA
      replace hD := Lib.hid hD
      replace hG := Lib.hid hG
      replace hbv := Lib.hid hbv
      replace fx := Lib.hid fx
      replace fT := Lib.hid fT
      replace fA := Lib.hid fA
      replace fD := Lib.hid fD
      replace hs := Lib.hid hs
      replace hT := Lib.hid hT
      go_wp2_with fail
      refine (hi.out).mono ?_
      rintro e w2 ⟨v2, rfl, hN, hbn⟩
      obtain ⟨c2, d2, rfl, _⟩ := id hN
      have zn := hbn.size
      have RX2 := Lib.hid ((RX1.out.below hbn (Nat.le_refl _)).mono zn)
      have RT2 := Lib.hid hN.row
      have hb2 := Lib.hid (hb1.out.trans (hbn.mono hb1.out.size))
      have hbr := Lib.hid hbn
      clear hN hbn zn
      have hcs := Lib.hid (hs.out w2 hbr.out)
      go_wp2_with fail
      refine (hcs.out).mono ?_
      rintro e w3 ⟨v3, rfl, hN, hbn⟩
      obtain ⟨c3, d3, rfl, _⟩ := id hN
      have zn := hbn.size
      have RX3 := Lib.hid ((RX2.out.below hbn (Nat.le_refl _)).mono zn)
      have RT3 := Lib.hid ((RT2.out.below hbn (Nat.le_refl _)).mono zn)
      have RM3 := Lib.hid hN.row
      have hb3 := Lib.hid (hb2.out.trans (hbn.mono hb2.out.size))
      clear hN hbn zn
      have hq3 := same_l _ _ T T w3.heap.size w3 RT3.out RM3.out (by omega) (by omega)
      rw [hsame] at hq3
      replace hq3 := Lib.hid hq3
      go_wp2_with fail
      refine (hq3.out).mono ?_
      rintro e w' ⟨rfl, q3, rfl⟩
      have hb4 := Lib.hid (below_drewN hb3.out q3)
      have RX4 := Lib.hid (show Row (w3.drewN q3) (w3.drewN q3).heap.size _ _ from RX3.out.drewN q3)
      have RT4 := Lib.hid (show Row (w3.drewN q3) (w3.drewN q3).heap.size _ _ from RT3.out.drewN q3)
      have RM4 := Lib.hid (show Row (w3.drewN q3) (w3.drewN q3).heap.size _ _ from RM3.out.drewN q3)
      obtain ⟨w4, hw4⟩ : ∃ w4, w3.drewN q3 = w4 := ⟨_, rfl⟩
      rw [hw4] at hb4 RX4 RT4 RM4 ⊢
      replace hw4 := Lib.hid hw4
      go_wp2_with fail
      refine (hc1.out w4 _ RT4.out).mono ?_
      rintro e w5 ⟨v5, rfl, hN, hbn⟩
      obtain ⟨c5, d5, rfl, _⟩ := id hN
      have zn := hbn.size
      have RX5 := Lib.hid ((RX4.out.below hbn (Nat.le_refl _)).mono zn)
      have RT5 := Lib.hid ((RT4.out.below hbn (Nat.le_refl _)).mono zn)
      have RM5 := Lib.hid ((RM4.out.below hbn (Nat.le_refl _)).mono zn)
      have RA5 := Lib.hid hN.row
      have hb5 := Lib.hid (hb4.out.trans (hbn.mono hb4.out.size))
      clear hN hbn zn
      go_wp2_with fail
      refine (hc2.out w5 _ RX5.out).mono ?_
      rintro e w6 ⟨v6, rfl, hN, hbn⟩
      obtain ⟨c6, d6, rfl, _⟩ := id hN
      have zn := hbn.size
      have RX6 := Lib.hid ((RX5.out.below hbn (Nat.le_refl _)).mono zn)
      have RT6 := Lib.hid ((RT5.out.below hbn (Nat.le_refl _)).mono zn)
      have RM6 := Lib.hid ((RM5.out.below hbn (Nat.le_refl _)).mono zn)
      have RA6 := Lib.hid ((RA5.out.below hbn (Nat.le_refl _)).mono zn)
      have RD6 := Lib.hid hN.row
      have hb6 := Lib.hid (hb5.out.trans (hbn.mono hb5.out.size))
      clear hN hbn zn
      go_wp2_with fail
      refine (hc3.out w6 _ RD6.out).mono ?_
      rintro e w7 ⟨v7, rfl, hN, hbn⟩
      obtain ⟨c7, d7, rfl, _⟩ := id hN
      have zn := hbn.size
      have RX7 := Lib.hid ((RX6.out.below hbn (Nat.le_refl _)).mono zn)
      have RT7 := Lib.hid ((RT6.out.below hbn (Nat.le_refl _)).mono zn)
      have RM7 := Lib.hid ((RM6.out.below hbn (Nat.le_refl _)).mono zn)
      have RA7 := Lib.hid ((RA6.out.below hbn (Nat.le_refl _)).mono zn)
      have RD7 := Lib.hid ((RD6.out.below hbn (Nat.le_refl _)).mono zn)
      have RE7 := Lib.hid hN.row
      have hb7 := Lib.hid (hb6.out.trans (hbn.mono hb6.out.size))
      clear hN hbn zn
      have hq7 := same_l _ _ A A w7.heap.size w7 RA7.out RE7.out (by omega) (by omega)
      rw [hse] at hq7
      replace hq7 := Lib.hid hq7
      go_wp2_with fail
      refine (hq7.out).mono ?_
      rintro e w' ⟨rfl, q7, rfl⟩
      have hb8 := Lib.hid (below_drewN hb7.out q7)
      have RX8 := Lib.hid (show Row (w7.drewN q7) (w7.drewN q7).heap.size _ _ from RX7.out.drewN q7)
      have RT8 := Lib.hid (show Row (w7.drewN q7) (w7.drewN q7).heap.size _ _ from RT7.out.drewN q7)
      have RM8 := Lib.hid (show Row (w7.drewN q7) (w7.drewN q7).heap.size _ _ from RM7.out.drewN q7)
      have RA8 := Lib.hid (show Row (w7.drewN q7) (w7.drewN q7).heap.size _ _ from RA7.out.drewN q7)
      have RD8 := Lib.hid (show Row (w7.drewN q7) (w7.drewN q7).heap.size _ _ from RD7.out.drewN q7)
      have RE8 := Lib.hid (show Row (w7.drewN q7) (w7.drewN q7).heap.size _ _ from RE7.out.drewN q7)
      obtain ⟨w8, hw8⟩ : ∃ w8, w7.drewN q7 = w8 := ⟨_, rfl⟩
      rw [hw8] at hb8 RX8 RT8 RM8 RA8 RD8 RE8 ⊢
      replace hw8 := Lib.hid hw8
      go_wp2_with fail
      go_ret
      exact ⟨rfl, hb8.out⟩
    · rw [hbv] at hi hs
      replace hi := Lib.hid (show Calls _ _ _ _ (ListPost [] false w1) from hi)
      replace hs := Lib.hid (fun (W : World) (hW : Below w1.heap.size w1 W) => (show Calls _ _ _ _ (ListPost [] false W) from hs W hW))
      have hsame : sameB ([] : List Int) [] = true := decide_eq_true rfl
      replace hbv := Lib.hid hbv
      go_wp2_with fail
      refine hi.out.mono ?_
      rintro e w2 ⟨v2, rfl, hO2, hb2⟩
      obtain ⟨va, vc, rfl, _⟩ := id hO2
      have z2 := hb2.size
      have hcs := Lib.hid (hs.out w2 hb2)
      replace hO2 := Lib.hid hO2
      replace hb2 := Lib.hid (hb1.out.trans (hb2.mono z1))
      go_wp2_with fail
      refine hcs.out.mono ?_
      rintro e w3 ⟨v3, rfl, hO3, hb3⟩
      obtain ⟨ya, yc, rfl, _⟩ := id hO3
      have z3 := hb3.size
      have hO23 := Lib.hid (hO2.out.below hb3 (Nat.le_refl _))
      replace hO3 := Lib.hid hO3
      replace hb3 := Lib.hid (hb2.out.trans (hb3.mono hb2.out.size))
      have hq : ∀ W, (∃ q, W = w3.drewN q) → Calls Try.prog 16 #[.slice va ([] : List Int).length vc, .slice ya ([] : List Int).length yc] W fun e w' => e = .returned (.bool true) ∧ ∃ n, w' = W.drewN n := by
        rintro W ⟨q, rfl⟩
        have := same_l (.slice va ([] : List Int).length vc) (.slice ya ([] : List Int).length yc) _ _ w3.heap.size (w3.drewN q) ((hO23.out.row.mono z3).drewN q) (hO3.out.row.drewN q) (by simp) (by simp)
        rw [hsame] at this
        exact this
      replace hq := Lib.hid hq
      go_wp2_with fail
      refine (hq.out w3 ⟨0, rfl⟩).mono ?_
      rintro e w4 ⟨rfl, q, rfl⟩
      go_wp2_with fail
      refine (hq.out _ ⟨q, rfl⟩).mono ?_
      rintro e w5 ⟨rfl, q5, rfl⟩
      go_wp2_with fail
      go_ret
      exact ⟨rfl, below_drewN hb3.out _⟩
set_option maxRecDepth 100000 in
set_option maxHeartbeats 4000000 in
theorem law_FnTop (v : Value) (a : Option Addr) (len cap : Nat) (w : World) (hv : v = .slice a len cap) (hc : len ≤ cap) (hcap : cap ≤ 9223372036854775807) (hB : Bytes w w.heap.size a len) :
    Calls Try.prog 4 #[v] w fun e w' => e = .returned (.bool true) ∧ Below w.heap.size w w' := by
  have h0 := Lib.hid (draw_AntichainTop v a len cap w hv hc hcap hB)
  subst hv
  clear hB
  by_cases hbig : 1048576 < len
  · go_enter Try.func4, Try.ntmps4
    go_wp2_with fail
    go_ret
    exact ⟨rfl, Below.refl _ _⟩
  · go_enter Try.func4, Try.ntmps4
    go_wp2_with fail
    refine (h0.out).mono ?_
    rintro e w1 ⟨n, u, xs, rfl, hl, hO, hb⟩
    obtain ⟨ua, uc, rfl, _⟩ := id hO
    have z1 := hb.size
    have hb1 := Lib.hid hb
    have hi := im_Top n _ xs _ w1 hO.row (Nat.le_refl _) (by omega)
    have hs := fun (W : World) (hW : Below w1.heap.size w1 W) => sp_AntichainTop n _ xs w1.heap.size W (hO.row.below hW (Nat.le_refl _)) hW.size (by omega)
    have RX1 := Lib.hid hO.row
    clear hb hO
    rcases (by cases famB n xs <;> simp : famB n xs = true ∨ famB n xs = false) with hbv | hbv
    · rw [hbv] at hi hs
      replace hi := Lib.hid (show Calls _ _ _ _ (ListPost (endL true xs xs) true w1) from hi)
      replace hs := fun (W : World) (hW : Below w1.heap.size w1 W) => (show Calls _ _ _ _ (ListPost (endL true xs xs) true W) from hs W hW)
      obtain ⟨T, hT⟩ : ∃ T, endL true xs xs = T := ⟨_, rfl⟩
      rw [hT] at hi hs
      have hsame : sameB T T = true := decide_eq_true rfl
      have fx := hbv
      have lx := famB_len fx
      have fT : famB n T = true := hT ▸ fam_end true fx
      have lT := famB_len fT
      have hG := top_down (famB_lt fx) (2 ^ n.toNat)
      have hE := top_top xs
      have hN := top_anti xs
      rw [hT] at hG hE hN
      have hc1 := fun (W : World) (v : Value) (h1 : Row W W.heap.size v T) => im_Dn n v T W.heap.size W h1 (Nat.le_refl _) (by omega)
      have hc2 := fun (W : World) (v : Value) (h1 : Row W W.heap.size v xs) => im_Dn n v xs W.heap.size W h1 (Nat.le_refl _) (by omega)
      have hc3 := fun (W : World) (v : Value) (h1 : Row W W.heap.size v T) => im_Top n v T W.heap.size W h1 (Nat.le_refl _) (by omega)
      have hc4 := fun (W : World) (v : Value) (h1 : Row W W.heap.size v T) => im_AntichainIn n v T W.heap.size W h1 (Nat.le_refl _) (by omega)
      have fA := fam_cl true fx
      have lA := famB_len fA
      rw [hG] at hc1
      rw [hE] at hc3
      rw [hN] at hc4
      obtain ⟨A, hA⟩ : ∃ A, clL true xs (2 ^ n.toNat) = A := ⟨_, rfl⟩
      rw [hA] at hc1 hc2 lA
      simp only [fx, fT, Bool.and_true] at hc1 hc2 hc3 hc4
      have hse : sameB A A = true := decide_eq_true rfl
      replace hc1 := Lib.hid (show ∀ (W : World) (v : Value), Row W W.heap.size v T → Calls Try.prog 17 #[.int .i64 n, v] W (ListPost A true W) from hc1)
      replace hc2 := Lib.hid (show ∀ (W : World) (v : Value), Row W W.heap.size v xs → Calls Try.prog 17 #[.int .i64 n, v] W (ListPost A true W) from hc2)
      replace hc3 := Lib.hid (show ∀ (W : World) (v : Value), Row W W.heap.size v T → Calls Try.prog 14 #[.int .i64 n, v] W (ListPost T true W) from hc3)
      replace hc4 := Lib.hid (show ∀ (W : World) (v : Value), Row W W.heap.size v T → Calls Try.prog 12 #[.int .i64 n, v] W (fun e w' => e = .returned (.bool true) ∧ Below W.heap.size W w') from hc4)
      replace hA := Lib.hid hA
      replace hG := Lib.hid hG
      replace hE := Lib.hid hE
      replace hN := Lib.hid hN
      replace hbv := Lib.hid hbv
      replace fx := Lib.hid fx
      replace fT := Lib.hid fT
      replace fA := Lib.hid fA
      replace hs := Lib.hid hs
      replace hT := Lib.hid hT
      go_wp2_with fail
      refine (hi.out).mono ?_
      rintro e w2 ⟨v2, rfl, hN, hbn⟩
      obtain ⟨c2, d2, rfl, _⟩ := id hN
      have zn := hbn.size
      have RX2 := Lib.hid ((RX1.out.below hbn (Nat.le_refl _)).mono zn)
      have RT2 := Lib.hid hN.row
      have hb2 := Lib.hid (hb1.out.trans (hbn.mono hb1.out.size))
      have hbr := Lib.hid hbn
      clear hN hbn zn
      have hcs := Lib.hid (hs.out w2 hbr.out)
      go_wp2_with fail
      refine (hcs.out).mono ?_
      rintro e w3 ⟨v3, rfl, hN, hbn⟩
      obtain ⟨c3, d3, rfl, _⟩ := id hN
      have zn := hbn.size
      have RX3 := Lib.hid ((RX2.out.below hbn (Nat.le_refl _)).mono zn)
      have RT3 := Lib.hid ((RT2.out.below hbn (Nat.le_refl _)).mono zn)
      have RM3 := Lib.hid hN.row
      have hb3 := Lib.hid (hb2.out.trans (hbn.mono hb2.out.size))
      clear hN hbn zn
      have hq3 := same_l _ _ T T w3.heap.size w3 RT3.out RM3.out (by omega) (by omega)
      rw [hsame] at hq3
      replace hq3 := Lib.hid hq3
      go_wp2_with fail
      refine (hq3.out).mono ?_
      rintro e w' ⟨rfl, q3, rfl⟩
      have hb4 := Lib.hid (below_drewN hb3.out q3)
      have RX4 := Lib.hid (show Row (w3.drewN q3) (w3.drewN q3).heap.size _ _ from RX3.out.drewN q3)
      have RT4 := Lib.hid (show Row (w3.drewN q3) (w3.drewN q3).heap.size _ _ from RT3.out.drewN q3)
      have RM4 := Lib.hid (show Row (w3.drewN q3) (w3.drewN q3).heap.size _ _ from RM3.out.drewN q3)
      obtain ⟨w4, hw4⟩ : ∃ w4, w3.drewN q3 = w4 := ⟨_, rfl⟩
      rw [hw4] at hb4 RX4 RT4 RM4 ⊢
      replace hw4 := Lib.hid hw4
      go_wp2_with fail
      refine (hc1.out w4 _ RT4.out).mono ?_
      rintro e w5 ⟨v5, rfl, hN, hbn⟩
      obtain ⟨c5, d5, rfl, _⟩ := id hN
      have zn := hbn.size
      have RX5 := Lib.hid ((RX4.out.below hbn (Nat.le_refl _)).mono zn)
      have RT5 := Lib.hid ((RT4.out.below hbn (Nat.le_refl _)).mono zn)
      have RM5 := Lib.hid ((RM4.out.below hbn (Nat.le_refl _)).mono zn)
      have RA5 := Lib.hid hN.row
      have hb5 := Lib.hid (hb4.out.trans (hbn.mono hb4.out.size))
      clear hN hbn zn
      go_wp2_with fail
      refine (hc2.out w5 _ RX5.out).mono ?_
      rintro e w6 ⟨v6, rfl, hN, hbn⟩
      obtain ⟨c6, d6, rfl, _⟩ := id hN
      have zn := hbn.size
      have RX6 := Lib.hid ((RX5.out.below hbn (Nat.le_refl _)).mono zn)
      have RT6 := Lib.hid ((RT5.out.below hbn (Nat.le_refl _)).mono zn)
      have RM6 := Lib.hid ((RM5.out.below hbn (Nat.le_refl _)).mono zn)
      have RA6 := Lib.hid ((RA5.out.below hbn (Nat.le_refl _)).mono zn)
      have RD6 := Lib.hid hN.row
      have hb6 := Lib.hid (hb5.out.trans (hbn.mono hb5.out.size))
      clear hN hbn zn
      go_wp2_with fail
      refine (hc3.out w6 _ RT6.out).mono ?_
      rintro e w7 ⟨v7, rfl, hN, hbn⟩
      obtain ⟨c7, d7, rfl, _⟩ := id hN
      have zn := hbn.size
      have RX7 := Lib.hid ((RX6.out.below hbn (Nat.le_refl _)).mono zn)
      have RT7 := Lib.hid ((RT6.out.below hbn (Nat.le_refl _)).mono zn)
      have RM7 := Lib.hid ((RM6.out.below hbn (Nat.le_refl _)).mono zn)
      have RA7 := Lib.hid ((RA6.out.below hbn (Nat.le_refl _)).mono zn)
      have RD7 := Lib.hid ((RD6.out.below hbn (Nat.le_refl _)).mono zn)
      have RE7 := Lib.hid hN.row
      have hb7 := Lib.hid (hb6.out.trans (hbn.mono hb6.out.size))
      clear hN hbn zn
      have hq7 := same_l _ _ A A w7.heap.size w7 RA7.out RD7.out (by omega) (by omega)
      rw [hse] at hq7
      replace hq7 := Lib.hid hq7
      go_wp2_with fail
      refine (hq7.out).mono ?_
      rintro e w' ⟨rfl, q7, rfl⟩
      have hb8 := Lib.hid (below_drewN hb7.out q7)
      have RX8 := Lib.hid (show Row (w7.drewN q7) (w7.drewN q7).heap.size _ _ from RX7.out.drewN q7)
      have RT8 := Lib.hid (show Row (w7.drewN q7) (w7.drewN q7).heap.size _ _ from RT7.out.drewN q7)
      have RM8 := Lib.hid (show Row (w7.drewN q7) (w7.drewN q7).heap.size _ _ from RM7.out.drewN q7)
      have RA8 := Lib.hid (show Row (w7.drewN q7) (w7.drewN q7).heap.size _ _ from RA7.out.drewN q7)
      have RD8 := Lib.hid (show Row (w7.drewN q7) (w7.drewN q7).heap.size _ _ from RD7.out.drewN q7)
      have RE8 := Lib.hid (show Row (w7.drewN q7) (w7.drewN q7).heap.size _ _ from RE7.out.drewN q7)
      obtain ⟨w8, hw8⟩ : ∃ w8, w7.drewN q7 = w8 := ⟨_, rfl⟩
      rw [hw8] at hb8 RX8 RT8 RM8 RA8 RD8 RE8 ⊢
      replace hw8 := Lib.hid hw8
      have hq8 := same_l _ _ T T w8.heap.size w8 RE8.out RT8.out (by omega) (by omega)
      rw [hsame] at hq8
      replace hq8 := Lib.hid hq8
      go_wp2_with fail
      refine (hq8.out).mono ?_
      rintro e w' ⟨rfl, q8, rfl⟩
      have hb9 := Lib.hid (below_drewN hb8.out q8)
      have RX9 := Lib.hid (show Row (w8.drewN q8) (w8.drewN q8).heap.size _ _ from RX8.out.drewN q8)
      have RT9 := Lib.hid (show Row (w8.drewN q8) (w8.drewN q8).heap.size _ _ from RT8.out.drewN q8)
      have RM9 := Lib.hid (show Row (w8.drewN q8) (w8.drewN q8).heap.size _ _ from RM8.out.drewN q8)
      have RA9 := Lib.hid (show Row (w8.drewN q8) (w8.drewN q8).heap.size _ _ from RA8.out.drewN q8)
      have RD9 := Lib.hid (show Row (w8.drewN q8) (w8.drewN q8).heap.size _ _ from RD8.out.drewN q8)
      have RE9 := Lib.hid (show Row (w8.drewN q8) (w8.drewN q8).heap.size _ _ from RE8.out.drewN q8)
      obtain ⟨w9, hw9⟩ : ∃ w9, w8.drewN q8 = w9 := ⟨_, rfl⟩
      rw [hw9] at hb9 RX9 RT9 RM9 RA9 RD9 RE9 ⊢
      replace hw9 := Lib.hid hw9
      go_wp2_with fail
      refine (hc4.out w9 _ RT9.out).mono ?_
      rintro e w10 ⟨rfl, hbn⟩
      have hb10 := Lib.hid (hb9.out.trans (hbn.mono hb9.out.size))
      clear hbn
      go_wp2_with fail
      go_ret
      exact ⟨rfl, hb10.out⟩
    · rw [hbv] at hi hs
      replace hi := Lib.hid (show Calls _ _ _ _ (ListPost [] false w1) from hi)
      replace hs := Lib.hid (fun (W : World) (hW : Below w1.heap.size w1 W) => (show Calls _ _ _ _ (ListPost [] false W) from hs W hW))
      have hsame : sameB ([] : List Int) [] = true := decide_eq_true rfl
      replace hbv := Lib.hid hbv
      go_wp2_with fail
      refine hi.out.mono ?_
      rintro e w2 ⟨v2, rfl, hO2, hb2⟩
      obtain ⟨va, vc, rfl, _⟩ := id hO2
      have z2 := hb2.size
      have hcs := Lib.hid (hs.out w2 hb2)
      replace hO2 := Lib.hid hO2
      replace hb2 := Lib.hid (hb1.out.trans (hb2.mono z1))
      go_wp2_with fail
      refine hcs.out.mono ?_
      rintro e w3 ⟨v3, rfl, hO3, hb3⟩
      obtain ⟨ya, yc, rfl, _⟩ := id hO3
      have z3 := hb3.size
      have hO23 := Lib.hid (hO2.out.below hb3 (Nat.le_refl _))
      replace hO3 := Lib.hid hO3
      replace hb3 := Lib.hid (hb2.out.trans (hb3.mono hb2.out.size))
      have hq : ∀ W, (∃ q, W = w3.drewN q) → Calls Try.prog 16 #[.slice va ([] : List Int).length vc, .slice ya ([] : List Int).length yc] W fun e w' => e = .returned (.bool true) ∧ ∃ n, w' = W.drewN n := by
        rintro W ⟨q, rfl⟩
        have := same_l (.slice va ([] : List Int).length vc) (.slice ya ([] : List Int).length yc) _ _ w3.heap.size (w3.drewN q) ((hO23.out.row.mono z3).drewN q) (hO3.out.row.drewN q) (by simp) (by simp)
        rw [hsame] at this
        exact this
      replace hq := Lib.hid hq
      go_wp2_with fail
      refine (hq.out w3 ⟨0, rfl⟩).mono ?_
      rintro e w4 ⟨rfl, q, rfl⟩
      go_wp2_with fail
      refine (hq.out _ ⟨q, rfl⟩).mono ?_
      rintro e w5 ⟨rfl, q5, rfl⟩
      go_wp2_with fail
      go_ret
      exact ⟨rfl, below_drewN hb3.out _⟩
end Go.Proofs.Ytielgfjecjoloaa
