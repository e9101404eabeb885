/- The laws FnShadowDown, FnShadowProfile: first sets of all sizes. -/
import Derived.Test.YtpjapoaagbdlfaaGreatDoorSd0
import Derived.Test.YtpjapoaagbdlfaaGreatDoorSd2
import Derived.Test.YtpjapoaagbdlfaaGreatDoorSameL
import Derived.Test.YtpjapoaagbdlfaaGreatDoorAllSp
import Derived.Test.YtpjapoaagbdlfaaGreatDoorAllSs
import Derived.Test.YtpjapoaagbdlfaaGreatDoorAllShm
import Derived.Test.YtpjapoaagbdlfaaGreatDoorAllDn
namespace Go.Proofs.YtpjapoaagbdlfaaGreatDoor
open Go.ChangeShapes Go.WideShapes Go.ChangeAt Go.RowKit Go.Proofs

set_option maxRecDepth 100000 in
set_option maxHeartbeats 4000000 in
theorem law_FnShadowDown (v : Value) (a : Option Addr) (len cap : Nat) (w : World) (hv : v = .slice a len cap) (hc : len ≤ cap) (hcap : cap ≤ 9223372036854775807) (hB : Bytes w w.heap.size a len) (hT0 : Tab w) :
    Calls Tryz.prog 4 #[v] w fun e w' => e = .returned (.bool true) ∧ Below w.heap.size w w' := by
  have h0 := Lib.hid (draw_ShadowDown v a len cap w hv hc hcap hB)
  have htl := hT0.lt
  replace hT0 := Lib.hid hT0
  subst hv
  clear hB
  by_cases hbig : 1048576 < len
  · go_enter Tryz.func4, Tryz.ntmps4
    go_wp2_with fail
    go_ret
    exact ⟨rfl, Below.refl _ _⟩
  · go_enter Tryz.func4, Tryz.ntmps4
    go_wp2_with fail
    refine (h0.out).mono ?_
    rintro e w1 ⟨n, u, xs, rfl, hn5, hl, hO, hb⟩
    obtain ⟨ua, uc, rfl, _⟩ := id hO
    have z1 := hb.size
    have hb1 := Lib.hid hb
    have hi := im_ShadowDown n _ xs _ w1 hO.row (Nat.le_refl _) (by omega)
    have hs := fun (W : World) (hW : Below w1.heap.size w1 W) => sp_ShadowDown n _ xs w1.heap.size W (hO.row.below hW (Nat.le_refl _)) hW.size (by omega)
    have RX1 := Lib.hid hO.row
    clear hb hO
    rcases (by cases cntsB n xs <;> simp : cntsB n xs = true ∨ cntsB n xs = false) with hbv | hbv
    · rw [hbv] at hi hs
      replace hi := Lib.hid (show Calls _ _ _ _ (ListPost (dwL n xs xs.length) true w1) from hi)
      replace hs := fun (W : World) (hW : Below w1.heap.size w1 W) => (show Calls _ _ _ _ (ListPost (dwL n xs xs.length) true W) from hs W hW)
      obtain ⟨T, hT⟩ : ∃ T, dwL n xs xs.length = T := ⟨_, rfl⟩
      rw [hT] at hi hs
      have hsame : sameB T T = true := decide_eq_true rfl
      have hcb := hbv
      obtain ⟨n1, n2, hlen, _⟩ := cntsB_yes hcb
      have fT : famB n T = true := hT ▸ dw_fam n1 n2 xs xs.length
      have lT := famB_len fT
      have fS := dn_fam fT
      have lS := famB_len fS
      have hE := prof_dw hcb
      have hD := dw_comm hcb hn5
      rw [hT] at hE hD
      have hc1 := fun (W : World) (v : Value) (h1 : Row W W.heap.size v T) => im_FamilyProfile n v T W.heap.size W h1 (Nat.le_refl _) (by omega)
      rw [hE] at hc1
      have hc2 := fun (W : World) (v : Value) (h1 : Row W W.heap.size v T) (h2 : Tab W) => im_ShadowOf n v T W.heap.size W h1 (Nat.le_refl _) (by omega) h2
      obtain ⟨S, hS⟩ : ∃ S, sortL (dnL T) = S := ⟨_, rfl⟩
      rw [hS] at hc2 hD fS lS
      have hc3 := fun (W : World) (v u : Value) (h1 : Row W W.heap.size v S) (h2 : Row W W.heap.size u T) => im_FamilyCommon n v u S T W.heap.size W h1 h2 (Nat.le_refl _) (by omega) (by omega)
      have lC : (sortL (S.filter (fun x => memB x T))).length ≤ 300 := by
        have := asc_len256 (asc_sortL (S.filter (fun x => memB x T))) fun z hz => famB_lt fS z (List.mem_filter.1 (mem_sortL.1 hz)).1
        omega
      obtain ⟨C, hC⟩ : ∃ C, sortL (S.filter (fun x => memB x T)) = C := ⟨_, rfl⟩
      rw [hC] at hc3 hD lC
      simp only [fT, fS, Bool.and_true] at hc1 hc2 hc3
      have hsx : sameB xs xs = true := decide_eq_true rfl
      replace hc1 := Lib.hid (show ∀ (W : World) (v : Value), Row W W.heap.size v T → Calls Tryz.prog 10 #[.int .i64 n, v] W (ListPost xs true W) from hc1)
      replace hc2 := Lib.hid (show ∀ (W : World) (v : Value), Row W W.heap.size v T → Tab W → Calls Tryz.prog 11 #[.int .i64 n, v] W (ListPost S true W) from hc2)
      replace hc3 := Lib.hid (show ∀ (W : World) (v u : Value), Row W W.heap.size v S → Row W W.heap.size u T → Calls Tryz.prog 12 #[.int .i64 n, v, u] W (ListPost C true W) from hc3)
      have hc4 := fun (W : World) (v : Value) (h1 : Row W W.heap.size v xs) => im_ShadowProfile n v xs W.heap.size W h1 (Nat.le_refl _) (by omega)
      have hpr : profB n xs = roomTo xs xs.length := by unfold profB; rw [hcb]; rfl
      rw [hpr] at hc4
      obtain ⟨Rm, hRm⟩ : ∃ R, roomTo xs xs.length = R := ⟨_, rfl⟩
      rw [hRm] at hc4 hD hpr
      have hRR : (Rm == Rm) = true := by simp
      replace hc4 := Lib.hid (show ∀ (W : World) (v : Value), Row W W.heap.size v xs → Calls Tryz.prog 7 #[.int .i64 n, v] W (fun e w' => e = .returned (.bool Rm) ∧ Below W.heap.size W w') from hc4)
      replace hC := Lib.hid hC
      replace hS := Lib.hid hS
      replace hE := Lib.hid hE
      replace hpr := Lib.hid hpr
      replace hRm := Lib.hid hRm
      replace hbv := Lib.hid hbv
      replace hcb := Lib.hid hcb
      replace fT := Lib.hid fT
      replace fS := Lib.hid fS
      replace hlen := Lib.hid hlen
      replace hs := Lib.hid hs
      replace hT := Lib.hid hT
      go_wp2_with fail
      refine (hi.out).mono ?_
      rintro e w2 ⟨v2, rfl, hN, hbn⟩
      obtain ⟨c2, d2, rfl, _⟩ := id hN
      have zn := hbn.size
      have RX2 := Lib.hid ((RX1.out.below hbn (Nat.le_refl _)).mono zn)
      have RT2 := Lib.hid hN.row
      have hb2 := Lib.hid (hb1.out.trans (hbn.mono hb1.out.size))
      have hbr := Lib.hid hbn
      clear hN hbn zn
      have hcs := Lib.hid (hs.out w2 hbr.out)
      go_wp2_with fail
      refine (hcs.out).mono ?_
      rintro e w3 ⟨v3, rfl, hN, hbn⟩
      obtain ⟨c3, d3, rfl, _⟩ := id hN
      have zn := hbn.size
      have RX3 := Lib.hid ((RX2.out.below hbn (Nat.le_refl _)).mono zn)
      have RT3 := Lib.hid ((RT2.out.below hbn (Nat.le_refl _)).mono zn)
      have RM3 := Lib.hid hN.row
      have hb3 := Lib.hid (hb2.out.trans (hbn.mono hb2.out.size))
      clear hN hbn zn
      have hq3 := same_l _ _ T T w3.heap.size w3 RT3.out RM3.out (by omega) (by omega)
      rw [hsame] at hq3
      replace hq3 := Lib.hid hq3
      go_wp2_with fail
      refine (hq3.out).mono ?_
      rintro e w' ⟨rfl, q3, rfl⟩
      have hb4 := Lib.hid (below_drewN hb3.out q3)
      have RX4 := Lib.hid (show Row (w3.drewN q3) (w3.drewN q3).heap.size _ _ from RX3.out.drewN q3)
      have RT4 := Lib.hid (show Row (w3.drewN q3) (w3.drewN q3).heap.size _ _ from RT3.out.drewN q3)
      have RM4 := Lib.hid (show Row (w3.drewN q3) (w3.drewN q3).heap.size _ _ from RM3.out.drewN q3)
      obtain ⟨w4, hw4⟩ : ∃ w4, w3.drewN q3 = w4 := ⟨_, rfl⟩
      rw [hw4] at hb4 RX4 RT4 RM4 ⊢
      replace hw4 := Lib.hid hw4
      go_wp2_with fail
      refine (hc1.out w4 _ RT4.out).mono ?_
      rintro e w5 ⟨v5, rfl, hN, hbn⟩
      obtain ⟨c5, d5, rfl, _⟩ := id hN
      have zn := hbn.size
      have RX5 := Lib.hid ((RX4.out.below hbn (Nat.le_refl _)).mono zn)
      have RT5 := Lib.hid ((RT4.out.below hbn (Nat.le_refl _)).mono zn)
      have RM5 := Lib.hid ((RM4.out.below hbn (Nat.le_refl _)).mono zn)
      have RA5 := Lib.hid hN.row
      have hb5 := Lib.hid (hb4.out.trans (hbn.mono hb4.out.size))
      clear hN hbn zn
      go_wp2_with fail
      refine (hc2.out w5 _ RT5.out (hT0.out.below hb5.out htl)).mono ?_
      rintro e w6 ⟨v6, rfl, hN, hbn⟩
      obtain ⟨c6, d6, rfl, _⟩ := id hN
      have zn := hbn.size
      have RX6 := Lib.hid ((RX5.out.below hbn (Nat.le_refl _)).mono zn)
      have RT6 := Lib.hid ((RT5.out.below hbn (Nat.le_refl _)).mono zn)
      have RM6 := Lib.hid ((RM5.out.below hbn (Nat.le_refl _)).mono zn)
      have RA6 := Lib.hid ((RA5.out.below hbn (Nat.le_refl _)).mono zn)
      have RS6 := Lib.hid hN.row
      have hb6 := Lib.hid (hb5.out.trans (hbn.mono hb5.out.size))
      clear hN hbn zn
      go_wp2_with fail
      refine (hc3.out w6 _ _ RS6.out RT6.out).mono ?_
      rintro e w7 ⟨v7, rfl, hN, hbn⟩
      obtain ⟨c7, d7, rfl, _⟩ := id hN
      have zn := hbn.size
      have RX7 := Lib.hid ((RX6.out.below hbn (Nat.le_refl _)).mono zn)
      have RT7 := Lib.hid ((RT6.out.below hbn (Nat.le_refl _)).mono zn)
      have RM7 := Lib.hid ((RM6.out.below hbn (Nat.le_refl _)).mono zn)
      have RA7 := Lib.hid ((RA6.out.below hbn (Nat.le_refl _)).mono zn)
      have RS7 := Lib.hid ((RS6.out.below hbn (Nat.le_refl _)).mono zn)
      have RC7 := Lib.hid hN.row
      have hb7 := Lib.hid (hb6.out.trans (hbn.mono hb6.out.size))
      clear hN hbn zn
      have hq7 := same_l _ _ xs xs w7.heap.size w7 RA7.out RX7.out (by omega) (by omega)
      rw [hsx] at hq7
      replace hq7 := Lib.hid hq7
      go_wp2_with fail
      refine (hq7.out).mono ?_
      rintro e w' ⟨rfl, q7, rfl⟩
      have hb8 := Lib.hid (below_drewN hb7.out q7)
      have RX8 := Lib.hid (show Row (w7.drewN q7) (w7.drewN q7).heap.size _ _ from RX7.out.drewN q7)
      have RT8 := Lib.hid (show Row (w7.drewN q7) (w7.drewN q7).heap.size _ _ from RT7.out.drewN q7)
      have RM8 := Lib.hid (show Row (w7.drewN q7) (w7.drewN q7).heap.size _ _ from RM7.out.drewN q7)
      have RA8 := Lib.hid (show Row (w7.drewN q7) (w7.drewN q7).heap.size _ _ from RA7.out.drewN q7)
      have RS8 := Lib.hid (show Row (w7.drewN q7) (w7.drewN q7).heap.size _ _ from RS7.out.drewN q7)
      have RC8 := Lib.hid (show Row (w7.drewN q7) (w7.drewN q7).heap.size _ _ from RC7.out.drewN q7)
      obtain ⟨w8, hw8⟩ : ∃ w8, w7.drewN q7 = w8 := ⟨_, rfl⟩
      rw [hw8] at hb8 RX8 RT8 RM8 RA8 RS8 RC8 ⊢
      replace hw8 := Lib.hid hw8
      go_wp2_with fail
      refine (hc4.out w8 _ RX8.out).mono ?_
      rintro e w9 ⟨rfl, hbn⟩
      have zn := hbn.size
      have RX9 := Lib.hid ((RX8.out.below hbn (Nat.le_refl _)).mono zn)
      have RT9 := Lib.hid ((RT8.out.below hbn (Nat.le_refl _)).mono zn)
      have RM9 := Lib.hid ((RM8.out.below hbn (Nat.le_refl _)).mono zn)
      have RA9 := Lib.hid ((RA8.out.below hbn (Nat.le_refl _)).mono zn)
      have RS9 := Lib.hid ((RS8.out.below hbn (Nat.le_refl _)).mono zn)
      have RC9 := Lib.hid ((RC8.out.below hbn (Nat.le_refl _)).mono zn)
      have hb9 := Lib.hid (hb8.out.trans (hbn.mono hb8.out.size))
      clear hbn zn
      have hq9 := same_l _ _ C S w9.heap.size w9 RC9.out RS9.out (by omega) (by omega)
      rw [hD] at hq9
      replace hq9 := Lib.hid hq9
      go_wp2_with fail
      refine (hq9.out).mono ?_
      rintro e w' ⟨rfl, q9, rfl⟩
      have hb10 := Lib.hid (below_drewN hb9.out q9)
      have RX10 := Lib.hid (show Row (w9.drewN q9) (w9.drewN q9).heap.size _ _ from RX9.out.drewN q9)
      have RT10 := Lib.hid (show Row (w9.drewN q9) (w9.drewN q9).heap.size _ _ from RT9.out.drewN q9)
      have RM10 := Lib.hid (show Row (w9.drewN q9) (w9.drewN q9).heap.size _ _ from RM9.out.drewN q9)
      have RA10 := Lib.hid (show Row (w9.drewN q9) (w9.drewN q9).heap.size _ _ from RA9.out.drewN q9)
      have RS10 := Lib.hid (show Row (w9.drewN q9) (w9.drewN q9).heap.size _ _ from RS9.out.drewN q9)
      have RC10 := Lib.hid (show Row (w9.drewN q9) (w9.drewN q9).heap.size _ _ from RC9.out.drewN q9)
      obtain ⟨w10, hw10⟩ : ∃ w10, w9.drewN q9 = w10 := ⟨_, rfl⟩
      rw [hw10] at hb10 RX10 RT10 RM10 RA10 RS10 RC10 ⊢
      replace hw10 := Lib.hid hw10
      go_wp2_with fail
      go_ret
      exact ⟨ret_bool (by simp), hb10.out⟩
    · rw [hbv] at hi hs
      replace hi := Lib.hid (show Calls _ _ _ _ (ListPost [] false w1) from hi)
      replace hs := Lib.hid (fun (W : World) (hW : Below w1.heap.size w1 W) => (show Calls _ _ _ _ (ListPost [] false W) from hs W hW))
      have hsame : sameB ([] : List Int) [] = true := decide_eq_true rfl
      replace hbv := Lib.hid hbv
      go_wp2_with fail
      refine hi.out.mono ?_
      rintro e w2 ⟨v2, rfl, hO2, hb2⟩
      obtain ⟨va, vc, rfl, _⟩ := id hO2
      have z2 := hb2.size
      have hcs := Lib.hid (hs.out w2 hb2)
      replace hO2 := Lib.hid hO2
      replace hb2 := Lib.hid (hb1.out.trans (hb2.mono z1))
      go_wp2_with fail
      refine hcs.out.mono ?_
      rintro e w3 ⟨v3, rfl, hO3, hb3⟩
      obtain ⟨ya, yc, rfl, _⟩ := id hO3
      have z3 := hb3.size
      have hO23 := Lib.hid (hO2.out.below hb3 (Nat.le_refl _))
      replace hO3 := Lib.hid hO3
      replace hb3 := Lib.hid (hb2.out.trans (hb3.mono hb2.out.size))
      have hq : ∀ W, (∃ q, W = w3.drewN q) → Calls Tryz.prog 13 #[.slice va ([] : List Int).length vc, .slice ya ([] : List Int).length yc] W fun e w' => e = .returned (.bool true) ∧ ∃ n, w' = W.drewN n := by
        rintro W ⟨q, rfl⟩
        have := same_l (.slice va ([] : List Int).length vc) (.slice ya ([] : List Int).length yc) _ _ w3.heap.size (w3.drewN q) ((hO23.out.row.mono z3).drewN q) (hO3.out.row.drewN q) (by simp) (by simp)
        rw [hsame] at this
        exact this
      replace hq := Lib.hid hq
      go_wp2_with fail
      refine (hq.out w3 ⟨0, rfl⟩).mono ?_
      rintro e w4 ⟨rfl, q, rfl⟩
      go_wp2_with fail
      refine (hq.out _ ⟨q, rfl⟩).mono ?_
      rintro e w5 ⟨rfl, q5, rfl⟩
      go_wp2_with fail
      go_ret
      exact ⟨rfl, below_drewN hb3.out _⟩
set_option maxRecDepth 100000 in
set_option maxHeartbeats 4000000 in
theorem law_FnShadowProfile (v : Value) (a : Option Addr) (len cap : Nat) (w : World) (hv : v = .slice a len cap) (hc : len ≤ cap) (hcap : cap ≤ 9223372036854775807) (hB : Bytes w w.heap.size a len) (hT0 : Tab w) :
    Calls Tryz.prog 3 #[v] w fun e w' => e = .returned (.bool true) ∧ Below w.heap.size w w' := by
  have h0 := Lib.hid (draw_ShadowProfile v a len cap w hv hc hcap hB)
  have htl := hT0.lt
  replace hT0 := Lib.hid hT0
  subst hv
  clear hB
  by_cases hbig : 1048576 < len
  · go_enter Tryz.func3, Tryz.ntmps3
    go_wp2_with fail
    go_ret
    exact ⟨rfl, Below.refl _ _⟩
  · go_enter Tryz.func3, Tryz.ntmps3
    go_wp2_with fail
    refine (h0.out).mono ?_
    rintro e w1 ⟨n, u, xs, rfl, hn5, hl, hO, hb⟩
    obtain ⟨ua, uc, rfl, _⟩ := id hO
    have z1 := hb.size
    have hb1 := Lib.hid hb
    have hi := im_ShadowProfile n _ xs _ w1 hO.row (Nat.le_refl _) (by omega)
    have hs := fun (W : World) (hW : Below w1.heap.size w1 W) => sp_ShadowProfile n _ xs w1.heap.size W (hO.row.below hW (Nat.le_refl _)) hW.size (by omega)
    have RX1 := Lib.hid hO.row
    clear hb hO
    rcases (by cases profB n xs <;> simp : profB n xs = true ∨ profB n xs = false) with hbv | hbv
    · rw [hbv] at hi hs
      have hcb : cntsB n xs = true := by unfold profB at hbv; rw [Bool.and_eq_true] at hbv; exact hbv.1
      have hrm : roomTo xs xs.length = true := by unfold profB at hbv; rw [Bool.and_eq_true] at hbv; exact hbv.2
      obtain ⟨T, hT⟩ : ∃ T, dwL n xs xs.length = T := ⟨_, rfl⟩
      obtain ⟨n1, n2, hlen, _⟩ := cntsB_yes hcb
      have fT : famB n T = true := hT ▸ dw_fam n1 n2 xs xs.length
      have lT := famB_len fT
      have fS := dn_fam fT
      have lS := famB_len fS
      have hE := prof_dw hcb
      have hD := dw_comm hcb hn5
      rw [hT] at hE hD
      have hc1 := fun (W : World) (v : Value) (h1 : Row W W.heap.size v T) => im_FamilyProfile n v T W.heap.size W h1 (Nat.le_refl _) (by omega)
      rw [hE] at hc1
      have hc2 := fun (W : World) (v : Value) (h1 : Row W W.heap.size v T) (h2 : Tab W) => im_ShadowOf n v T W.heap.size W h1 (Nat.le_refl _) (by omega) h2
      obtain ⟨S, hS⟩ : ∃ S, sortL (dnL T) = S := ⟨_, rfl⟩
      rw [hS] at hc2 hD fS lS
      have hc3 := fun (W : World) (v u : Value) (h1 : Row W W.heap.size v S) (h2 : Row W W.heap.size u T) => im_FamilyCommon n v u S T W.heap.size W h1 h2 (Nat.le_refl _) (by omega) (by omega)
      have lC : (sortL (S.filter (fun x => memB x T))).length ≤ 300 := by
        have := asc_len256 (asc_sortL (S.filter (fun x => memB x T))) fun z hz => famB_lt fS z (List.mem_filter.1 (mem_sortL.1 hz)).1
        omega
      obtain ⟨C, hC⟩ : ∃ C, sortL (S.filter (fun x => memB x T)) = C := ⟨_, rfl⟩
      rw [hC] at hc3 hD lC
      simp only [fT, fS, Bool.and_true] at hc1 hc2 hc3
      have hsx : sameB xs xs = true := decide_eq_true rfl
      replace hc1 := Lib.hid (show ∀ (W : World) (v : Value), Row W W.heap.size v T → Calls Tryz.prog 10 #[.int .i64 n, v] W (ListPost xs true W) from hc1)
      replace hc2 := Lib.hid (show ∀ (W : World) (v : Value), Row W W.heap.size v T → Tab W → Calls Tryz.prog 11 #[.int .i64 n, v] W (ListPost S true W) from hc2)
      replace hc3 := Lib.hid (show ∀ (W : World) (v u : Value), Row W W.heap.size v S → Row W W.heap.size u T → Calls Tryz.prog 12 #[.int .i64 n, v, u] W (ListPost C true W) from hc3)
      rw [hrm] at hD
      have hc0 := fun (W : World) (v : Value) (h1 : Row W W.heap.size v xs) => im_ShadowDown n v xs W.heap.size W h1 (Nat.le_refl _) (by omega)
      rw [hcb, hT] at hc0
      replace hc0 := Lib.hid (show ∀ (W : World) (v : Value), Row W W.heap.size v xs → Calls Tryz.prog 9 #[.int .i64 n, v] W (ListPost T true W) from hc0)
      replace hi := Lib.hid hi
      replace hs := Lib.hid hs
      replace hT := Lib.hid hT
      replace hC := Lib.hid hC
      replace hS := Lib.hid hS
      replace hE := Lib.hid hE
      replace hrm := Lib.hid hrm
      replace hbv := Lib.hid hbv
      replace hcb := Lib.hid hcb
      replace fT := Lib.hid fT
      replace fS := Lib.hid fS
      replace hlen := Lib.hid hlen
      go_wp2_with fail
      refine (hi.out).mono ?_
      rintro e w2 ⟨rfl, hbn⟩
      have zn := hbn.size
      have RX2 := Lib.hid ((RX1.out.below hbn (Nat.le_refl _)).mono zn)
      have hb2 := Lib.hid (hb1.out.trans (hbn.mono hb1.out.size))
      have hcs := Lib.hid (hs.out w2 hbn)
      clear hbn zn
      go_wp2_with fail
      refine (hcs.out).mono ?_
      rintro e w3 ⟨rfl, hbn⟩
      have zn := hbn.size
      have RX3 := Lib.hid ((RX2.out.below hbn (Nat.le_refl _)).mono zn)
      have hb3 := Lib.hid (hb2.out.trans (hbn.mono hb2.out.size))
      clear hbn zn
      go_wp2_with fail
      refine (hc0.out w3 _ RX3.out).mono ?_
      rintro e w4 ⟨v4, rfl, hN, hbn⟩
      obtain ⟨c4, d4, rfl, _⟩ := id hN
      have zn := hbn.size
      have RX4 := Lib.hid ((RX3.out.below hbn (Nat.le_refl _)).mono zn)
      have RT4 := Lib.hid hN.row
      have hb4 := Lib.hid (hb3.out.trans (hbn.mono hb3.out.size))
      clear hN hbn zn
      go_wp2_with fail
      refine (hc1.out w4 _ RT4.out).mono ?_
      rintro e w5 ⟨v5, rfl, hN, hbn⟩
      obtain ⟨c5, d5, rfl, _⟩ := id hN
      have zn := hbn.size
      have RX5 := Lib.hid ((RX4.out.below hbn (Nat.le_refl _)).mono zn)
      have RT5 := Lib.hid ((RT4.out.below hbn (Nat.le_refl _)).mono zn)
      have RA5 := Lib.hid hN.row
      have hb5 := Lib.hid (hb4.out.trans (hbn.mono hb4.out.size))
      clear hN hbn zn
      go_wp2_with fail
      refine (hc2.out w5 _ RT5.out (hT0.out.below hb5.out htl)).mono ?_
      rintro e w6 ⟨v6, rfl, hN, hbn⟩
      obtain ⟨c6, d6, rfl, _⟩ := id hN
      have zn := hbn.size
      have RX6 := Lib.hid ((RX5.out.below hbn (Nat.le_refl _)).mono zn)
      have RT6 := Lib.hid ((RT5.out.below hbn (Nat.le_refl _)).mono zn)
      have RA6 := Lib.hid ((RA5.out.below hbn (Nat.le_refl _)).mono zn)
      have RS6 := Lib.hid hN.row
      have hb6 := Lib.hid (hb5.out.trans (hbn.mono hb5.out.size))
      clear hN hbn zn
      go_wp2_with fail
      refine (hc3.out w6 _ _ RS6.out RT6.out).mono ?_
      rintro e w7 ⟨v7, rfl, hN, hbn⟩
      obtain ⟨c7, d7, rfl, _⟩ := id hN
      have zn := hbn.size
      have RX7 := Lib.hid ((RX6.out.below hbn (Nat.le_refl _)).mono zn)
      have RT7 := Lib.hid ((RT6.out.below hbn (Nat.le_refl _)).mono zn)
      have RA7 := Lib.hid ((RA6.out.below hbn (Nat.le_refl _)).mono zn)
      have RS7 := Lib.hid ((RS6.out.below hbn (Nat.le_refl _)).mono zn)
      have RC7 := Lib.hid hN.row
      have hb7 := Lib.hid (hb6.out.trans (hbn.mono hb6.out.size))
      clear hN hbn zn
      have hq7 := same_l _ _ xs xs w7.heap.size w7 RA7.out RX7.out (by omega) (by omega)
      rw [hsx] at hq7
      replace hq7 := Lib.hid hq7
      go_wp2_with fail
      refine (hq7.out).mono ?_
      rintro e w' ⟨rfl, q7, rfl⟩
      have hb8 := Lib.hid (below_drewN hb7.out q7)
      have RX8 := Lib.hid (show Row (w7.drewN q7) (w7.drewN q7).heap.size _ _ from RX7.out.drewN q7)
      have RT8 := Lib.hid (show Row (w7.drewN q7) (w7.drewN q7).heap.size _ _ from RT7.out.drewN q7)
      have RA8 := Lib.hid (show Row (w7.drewN q7) (w7.drewN q7).heap.size _ _ from RA7.out.drewN q7)
      have RS8 := Lib.hid (show Row (w7.drewN q7) (w7.drewN q7).heap.size _ _ from RS7.out.drewN q7)
      have RC8 := Lib.hid (show Row (w7.drewN q7) (w7.drewN q7).heap.size _ _ from RC7.out.drewN q7)
      obtain ⟨w8, hw8⟩ : ∃ w8, w7.drewN q7 = w8 := ⟨_, rfl⟩
      rw [hw8] at hb8 RX8 RT8 RA8 RS8 RC8 ⊢
      replace hw8 := Lib.hid hw8
      have hq8 := same_l _ _ C S w8.heap.size w8 RC8.out RS8.out (by omega) (by omega)
      rw [hD] at hq8
      replace hq8 := Lib.hid hq8
      go_wp2_with fail
      refine (hq8.out).mono ?_
      rintro e w' ⟨rfl, q8, rfl⟩
      have hb9 := Lib.hid (below_drewN hb8.out q8)
      have RX9 := Lib.hid (show Row (w8.drewN q8) (w8.drewN q8).heap.size _ _ from RX8.out.drewN q8)
      have RT9 := Lib.hid (show Row (w8.drewN q8) (w8.drewN q8).heap.size _ _ from RT8.out.drewN q8)
      have RA9 := Lib.hid (show Row (w8.drewN q8) (w8.drewN q8).heap.size _ _ from RA8.out.drewN q8)
      have RS9 := Lib.hid (show Row (w8.drewN q8) (w8.drewN q8).heap.size _ _ from RS8.out.drewN q8)
      have RC9 := Lib.hid (show Row (w8.drewN q8) (w8.drewN q8).heap.size _ _ from RC8.out.drewN q8)
      obtain ⟨w9, hw9⟩ : ∃ w9, w8.drewN q8 = w9 := ⟨_, rfl⟩
      rw [hw9] at hb9 RX9 RT9 RA9 RS9 RC9 ⊢
      replace hw9 := Lib.hid hw9
      go_wp2_with fail
      go_ret
      exact ⟨rfl, hb9.out⟩
    · rw [hbv] at hi hs
      replace hi := Lib.hid hi
      replace hs := Lib.hid hs
      replace hbv := Lib.hid hbv
      go_wp2_with fail
      refine (hi.out).mono ?_
      rintro e w2 ⟨rfl, hbn⟩
      have hb2 := Lib.hid (hb1.out.trans (hbn.mono hb1.out.size))
      have hcs := Lib.hid (hs.out w2 hbn)
      clear hbn
      go_wp2_with fail
      refine (hcs.out).mono ?_
      rintro e w3 ⟨rfl, hbn⟩
      have hb3 := Lib.hid (hb2.out.trans (hbn.mono hb2.out.size))
      clear hbn
      go_wp2_with fail
      go_ret
      exact ⟨rfl, hb3.out⟩
end Go.Proofs.YtpjapoaagbdlfaaGreatDoor
