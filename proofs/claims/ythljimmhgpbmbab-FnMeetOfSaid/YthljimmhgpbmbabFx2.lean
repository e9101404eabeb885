/- Laws of chapter 9 that compare lists. -/
import Derived.Test.YthljimmhgpbmbabFx1
import Derived.Test.YthljimmhgpbmbabAllC9
import Derived.Test.YthljimmhgpbmbabDf
import Derived.Test.YthljimmhgpbmbabCs3
import Derived.Test.YthljimmhgpbmbabPm2
import Derived.Test.YthljimmhgpbmbabAllD
import Derived.Test.YthljimmhgpbmbabSameL
import Derived.Test.YthljimmhgpbmbabAllSp
namespace Go.Proofs.Ythljimmhgpbmbab
open Go.ChangeShapes Go.WideShapes Go.ChangeAt Go.RowKit Go.Proofs

set_option maxRecDepth 100000 in
set_option maxHeartbeats 4000000 in
theorem law_FnUnionOf (v : Value) (a : Option Addr) (len cap : Nat) (w : World) (hv : v = .slice a len cap) (hc : len ≤ cap) (hcap : cap ≤ 9223372036854775807) (hB : Bytes w w.heap.size a len) :
    Calls Try.prog 8 #[v] w fun e w' => e = .returned (.bool true) ∧ Below w.heap.size w w' := by
  have h0 := Lib.hid (draw_UnionOf v a len cap w hv hc hcap hB)
  subst hv
  clear hB
  by_cases hbig : 1048576 < len
  · go_enter Try.func8, Try.ntmps8
    go_wp2_with fail
    go_ret
    exact ⟨rfl, Below.refl _ _⟩
  · go_enter Try.func8, Try.ntmps8
    go_wp2_with fail
    refine (h0.out).mono ?_
    rintro e w1 ⟨n, u, xs, rfl, hl, hO, hb⟩
    obtain ⟨ua, uc, rfl, _⟩ := id hO
    have z1 := hb.size
    have hb1 := Lib.hid hb
    have hi := im_UnionOf n _ xs _ w1 hO.row (Nat.le_refl _) (by omega)
    have hs := fun (W : World) (hW : Below w1.heap.size w1 W) => sp_UnionOf n _ xs w1.heap.size W (hO.row.below hW (Nat.le_refl _)) hW.size (by omega)
    have RX1 := Lib.hid hO.row
    clear hb hO
    rcases (by cases famB n xs <;> simp : famB n xs = true ∨ famB n xs = false) with hbv | hbv
    · rw [hbv] at hi hs
      replace hi := Lib.hid (show Calls _ _ _ _ (ListPost (ucL orI xs) true w1) from hi)
      replace hs := fun (W : World) (hW : Below w1.heap.size w1 W) => (show Calls _ _ _ _ (ListPost (ucL orI xs) true W) from hs W hW)
      obtain ⟨T, hT⟩ : ∃ T, ucL orI xs = T := ⟨_, rfl⟩
      rw [hT] at hi hs
      have hsame : sameB T T = true := decide_eq_true rfl
      have fx := hbv
      have lx := famB_len fx
      obtain ⟨n1, n2, sx⟩ := famB_all fx
      have h0x : ∀ z ∈ xs, 0 ≤ z := fun z hz => (famB_lt fx z hz).1
      have hsx : sameB xs xs = true := decide_eq_true rfl
      have fT : famB n T = true := hT ▸ ucL_fam semi_or fx
      have lT := famB_len fT
      have hcl := hT ▸ ucL_closed semi_or h0x
      have hTT : ucL orI T = T := by rw [← hT]; exact closed_self semi_or h0x
      have hXT : ∀ z ∈ xs, z ∈ T := by rw [← hT]; exact ucL_has semi_or h0x
      have hC := common_all (famB_asc fx) hXT
      have fJ := fam_pairs (fun a b ha hb => orI_set ha hb) fT fx
      have lJ := famB_len fJ
      have hJT : ∀ z ∈ sortL (pairsTo orI T xs T.length), z ∈ T := fun z hz => by
        obtain ⟨a, ha, b, hb, rfl⟩ := mem_pairs.1 (mem_sortL.1 hz)
        exact hcl a ha b (hXT b hb)
      have hD := common_all (famB_asc fJ) hJT
      obtain ⟨J, hJ⟩ : ∃ J, sortL (pairsTo orI T xs T.length) = J := ⟨_, rfl⟩
      rw [hJ] at fJ lJ hD
      have hsj : sameB J J = true := decide_eq_true rfl
      have hc1 := fun (W : World) (v u : Value) (h1 : Row W W.heap.size v xs) (h2 : Row W W.heap.size u T) => im_FamilyCommon n v u xs T W.heap.size W h1 h2 (Nat.le_refl _) (by omega) (by omega)
      have hc2 := fun (W : World) (v u : Value) (h1 : Row W W.heap.size v T) (h2 : Row W W.heap.size u xs) => im_FamilyJoins n v u T xs W.heap.size W h1 h2 (Nat.le_refl _) (by omega) (by omega)
      have hc3 := fun (W : World) (v u : Value) (h1 : Row W W.heap.size v J) (h2 : Row W W.heap.size u T) => im_FamilyCommon n v u J T W.heap.size W h1 h2 (Nat.le_refl _) (by omega) (by omega)
      have hc4 := fun (W : World) (v : Value) (h1 : Row W W.heap.size v T) => im_UnionIn n v T W.heap.size W h1 (Nat.le_refl _) (by omega)
      simp only [fx, fT, fJ, Bool.and_true, hC, hJ, hD, hTT, hsame] at hc1 hc2 hc3 hc4
      replace hc1 := Lib.hid (show ∀ (W : World) (v u : Value), Row W W.heap.size v xs → Row W W.heap.size u T → Calls Try.prog 34 #[.int .i64 n, v, u] W (ListPost xs true W) from hc1)
      replace hc2 := Lib.hid (show ∀ (W : World) (v u : Value), Row W W.heap.size v T → Row W W.heap.size u xs → Calls Try.prog 21 #[.int .i64 n, v, u] W (ListPost J true W) from hc2)
      replace hc3 := Lib.hid (show ∀ (W : World) (v u : Value), Row W W.heap.size v J → Row W W.heap.size u T → Calls Try.prog 34 #[.int .i64 n, v, u] W (ListPost J true W) from hc3)
      replace hc4 := Lib.hid (show ∀ (W : World) (v : Value), Row W W.heap.size v T → Calls Try.prog 25 #[.int .i64 n, v] W (fun e w' => e = .returned (.bool true) ∧ Below W.heap.size W w') from hc4)
      clear hcl hXT hJT
      replace hbv := Lib.hid hbv
      replace fx := Lib.hid fx
      replace fT := Lib.hid fT
      replace fJ := Lib.hid fJ
      replace hTT := Lib.hid hTT
      replace hC := Lib.hid hC
      replace hD := Lib.hid hD
      replace hJ := Lib.hid hJ
      replace sx := Lib.hid sx
      replace h0x := Lib.hid h0x
      replace hs := Lib.hid hs
      replace hT := Lib.hid hT
      go_wp2_with fail
      refine (hi.out).mono ?_
      rintro e w2 ⟨v2, rfl, hN, hbn⟩
      obtain ⟨c2, d2, rfl, _⟩ := id hN
      have zn := hbn.size
      have RX2 := Lib.hid ((RX1.out.below hbn (Nat.le_refl _)).mono zn)
      have RT2 := Lib.hid hN.row
      have hb2 := Lib.hid (hb1.out.trans (hbn.mono hb1.out.size))
      have hbr := Lib.hid hbn
      clear hN hbn zn
      have hcs := Lib.hid (hs.out w2 hbr.out)
      go_wp2_with fail
      refine (hcs.out).mono ?_
      rintro e w3 ⟨v3, rfl, hN, hbn⟩
      obtain ⟨c3, d3, rfl, _⟩ := id hN
      have zn := hbn.size
      have RX3 := Lib.hid ((RX2.out.below hbn (Nat.le_refl _)).mono zn)
      have RT3 := Lib.hid ((RT2.out.below hbn (Nat.le_refl _)).mono zn)
      have RM3 := Lib.hid hN.row
      have hb3 := Lib.hid (hb2.out.trans (hbn.mono hb2.out.size))
      clear hN hbn zn
      have hq3 := same_l _ _ T T w3.heap.size w3 RT3.out RM3.out (by omega) (by omega)
      rw [hsame] at hq3
      replace hq3 := Lib.hid hq3
      go_wp2_with fail
      refine (hq3.out).mono ?_
      rintro e w' ⟨rfl, q3, rfl⟩
      have hb4 := Lib.hid (below_drewN hb3.out q3)
      have RX4 := Lib.hid (show Row (w3.drewN q3) (w3.drewN q3).heap.size _ _ from RX3.out.drewN q3)
      have RT4 := Lib.hid (show Row (w3.drewN q3) (w3.drewN q3).heap.size _ _ from RT3.out.drewN q3)
      have RM4 := Lib.hid (show Row (w3.drewN q3) (w3.drewN q3).heap.size _ _ from RM3.out.drewN q3)
      obtain ⟨w4, hw4⟩ : ∃ w4, w3.drewN q3 = w4 := ⟨_, rfl⟩
      rw [hw4] at hb4 RX4 RT4 RM4 ⊢
      replace hw4 := Lib.hid hw4
      go_wp2_with fail
      refine (hc1.out w4 _ _ RX4.out RT4.out).mono ?_
      rintro e w5 ⟨v5, rfl, hN, hbn⟩
      obtain ⟨c5, d5, rfl, _⟩ := id hN
      have zn := hbn.size
      have RX5 := Lib.hid ((RX4.out.below hbn (Nat.le_refl _)).mono zn)
      have RT5 := Lib.hid ((RT4.out.below hbn (Nat.le_refl _)).mono zn)
      have RM5 := Lib.hid ((RM4.out.below hbn (Nat.le_refl _)).mono zn)
      have RC5 := Lib.hid hN.row
      have hb5 := Lib.hid (hb4.out.trans (hbn.mono hb4.out.size))
      clear hN hbn zn
      go_wp2_with fail
      refine (hc2.out w5 _ _ RT5.out RX5.out).mono ?_
      rintro e w6 ⟨v6, rfl, hN, hbn⟩
      obtain ⟨c6, d6, rfl, _⟩ := id hN
      have zn := hbn.size
      have RX6 := Lib.hid ((RX5.out.below hbn (Nat.le_refl _)).mono zn)
      have RT6 := Lib.hid ((RT5.out.below hbn (Nat.le_refl _)).mono zn)
      have RM6 := Lib.hid ((RM5.out.below hbn (Nat.le_refl _)).mono zn)
      have RC6 := Lib.hid ((RC5.out.below hbn (Nat.le_refl _)).mono zn)
      have RJ6 := Lib.hid hN.row
      have hb6 := Lib.hid (hb5.out.trans (hbn.mono hb5.out.size))
      clear hN hbn zn
      go_wp2_with fail
      refine (hc3.out w6 _ _ RJ6.out RT6.out).mono ?_
      rintro e w7 ⟨v7, rfl, hN, hbn⟩
      obtain ⟨c7, d7, rfl, _⟩ := id hN
      have zn := hbn.size
      have RX7 := Lib.hid ((RX6.out.below hbn (Nat.le_refl _)).mono zn)
      have RT7 := Lib.hid ((RT6.out.below hbn (Nat.le_refl _)).mono zn)
      have RM7 := Lib.hid ((RM6.out.below hbn (Nat.le_refl _)).mono zn)
      have RC7 := Lib.hid ((RC6.out.below hbn (Nat.le_refl _)).mono zn)
      have RJ7 := Lib.hid ((RJ6.out.below hbn (Nat.le_refl _)).mono zn)
      have RD7 := Lib.hid hN.row
      have hb7 := Lib.hid (hb6.out.trans (hbn.mono hb6.out.size))
      clear hN hbn zn
      have hq7 := same_l _ _ xs xs w7.heap.size w7 RC7.out RX7.out (by omega) (by omega)
      rw [hsx] at hq7
      replace hq7 := Lib.hid hq7
      go_wp2_with fail
      refine (hq7.out).mono ?_
      rintro e w' ⟨rfl, q7, rfl⟩
      have hb8 := Lib.hid (below_drewN hb7.out q7)
      have RX8 := Lib.hid (show Row (w7.drewN q7) (w7.drewN q7).heap.size _ _ from RX7.out.drewN q7)
      have RT8 := Lib.hid (show Row (w7.drewN q7) (w7.drewN q7).heap.size _ _ from RT7.out.drewN q7)
      have RM8 := Lib.hid (show Row (w7.drewN q7) (w7.drewN q7).heap.size _ _ from RM7.out.drewN q7)
      have RC8 := Lib.hid (show Row (w7.drewN q7) (w7.drewN q7).heap.size _ _ from RC7.out.drewN q7)
      have RJ8 := Lib.hid (show Row (w7.drewN q7) (w7.drewN q7).heap.size _ _ from RJ7.out.drewN q7)
      have RD8 := Lib.hid (show Row (w7.drewN q7) (w7.drewN q7).heap.size _ _ from RD7.out.drewN q7)
      obtain ⟨w8, hw8⟩ : ∃ w8, w7.drewN q7 = w8 := ⟨_, rfl⟩
      rw [hw8] at hb8 RX8 RT8 RM8 RC8 RJ8 RD8 ⊢
      replace hw8 := Lib.hid hw8
      have hq8 := same_l _ _ J J w8.heap.size w8 RD8.out RJ8.out (by omega) (by omega)
      rw [hsj] at hq8
      replace hq8 := Lib.hid hq8
      go_wp2_with fail
      refine (hq8.out).mono ?_
      rintro e w' ⟨rfl, q8, rfl⟩
      have hb9 := Lib.hid (below_drewN hb8.out q8)
      have RX9 := Lib.hid (show Row (w8.drewN q8) (w8.drewN q8).heap.size _ _ from RX8.out.drewN q8)
      have RT9 := Lib.hid (show Row (w8.drewN q8) (w8.drewN q8).heap.size _ _ from RT8.out.drewN q8)
      have RM9 := Lib.hid (show Row (w8.drewN q8) (w8.drewN q8).heap.size _ _ from RM8.out.drewN q8)
      have RC9 := Lib.hid (show Row (w8.drewN q8) (w8.drewN q8).heap.size _ _ from RC8.out.drewN q8)
      have RJ9 := Lib.hid (show Row (w8.drewN q8) (w8.drewN q8).heap.size _ _ from RJ8.out.drewN q8)
      have RD9 := Lib.hid (show Row (w8.drewN q8) (w8.drewN q8).heap.size _ _ from RD8.out.drewN q8)
      obtain ⟨w9, hw9⟩ : ∃ w9, w8.drewN q8 = w9 := ⟨_, rfl⟩
      rw [hw9] at hb9 RX9 RT9 RM9 RC9 RJ9 RD9 ⊢
      replace hw9 := Lib.hid hw9
      go_wp2_with fail
      refine (hc4.out w9 _ RT9.out).mono ?_
      rintro e w10 ⟨rfl, hbn⟩
      have zn := hbn.size
      have RX10 := Lib.hid ((RX9.out.below hbn (Nat.le_refl _)).mono zn)
      have RT10 := Lib.hid ((RT9.out.below hbn (Nat.le_refl _)).mono zn)
      have RM10 := Lib.hid ((RM9.out.below hbn (Nat.le_refl _)).mono zn)
      have RC10 := Lib.hid ((RC9.out.below hbn (Nat.le_refl _)).mono zn)
      have RJ10 := Lib.hid ((RJ9.out.below hbn (Nat.le_refl _)).mono zn)
      have RD10 := Lib.hid ((RD9.out.below hbn (Nat.le_refl _)).mono zn)
      have hb10 := Lib.hid (hb9.out.trans (hbn.mono hb9.out.size))
      clear hbn zn
      go_wp2_with fail
      go_ret
      exact ⟨rfl, hb10.out⟩
    · rw [hbv] at hi hs
      replace hi := Lib.hid (show Calls _ _ _ _ (ListPost [] false w1) from hi)
      replace hs := Lib.hid (fun (W : World) (hW : Below w1.heap.size w1 W) => (show Calls _ _ _ _ (ListPost [] false W) from hs W hW))
      have hsame : sameB ([] : List Int) [] = true := decide_eq_true rfl
      replace hbv := Lib.hid hbv
      go_wp2_with fail
      refine hi.out.mono ?_
      rintro e w2 ⟨v2, rfl, hO2, hb2⟩
      obtain ⟨va, vc, rfl, _⟩ := id hO2
      have z2 := hb2.size
      have hcs := Lib.hid (hs.out w2 hb2)
      replace hO2 := Lib.hid hO2
      replace hb2 := Lib.hid (hb1.out.trans (hb2.mono z1))
      go_wp2_with fail
      refine hcs.out.mono ?_
      rintro e w3 ⟨v3, rfl, hO3, hb3⟩
      obtain ⟨ya, yc, rfl, _⟩ := id hO3
      have z3 := hb3.size
      have hO23 := Lib.hid (hO2.out.below hb3 (Nat.le_refl _))
      replace hO3 := Lib.hid hO3
      replace hb3 := Lib.hid (hb2.out.trans (hb3.mono hb2.out.size))
      have hq : ∀ W, (∃ q, W = w3.drewN q) → Calls Try.prog 16 #[.slice va ([] : List Int).length vc, .slice ya ([] : List Int).length yc] W fun e w' => e = .returned (.bool true) ∧ ∃ n, w' = W.drewN n := by
        rintro W ⟨q, rfl⟩
        have := same_l (.slice va ([] : List Int).length vc) (.slice ya ([] : List Int).length yc) _ _ w3.heap.size (w3.drewN q) ((hO23.out.row.mono z3).drewN q) (hO3.out.row.drewN q) (by simp) (by simp)
        rw [hsame] at this
        exact this
      replace hq := Lib.hid hq
      go_wp2_with fail
      refine (hq.out w3 ⟨0, rfl⟩).mono ?_
      rintro e w4 ⟨rfl, q, rfl⟩
      go_wp2_with fail
      refine (hq.out _ ⟨q, rfl⟩).mono ?_
      rintro e w5 ⟨rfl, q5, rfl⟩
      go_wp2_with fail
      go_ret
      exact ⟨rfl, below_drewN hb3.out _⟩
set_option maxRecDepth 100000 in
set_option maxHeartbeats 4000000 in
theorem law_FnMeetOf (v : Value) (a : Option Addr) (len cap : Nat) (w : World) (hv : v = .slice a len cap) (hc : len ≤ cap) (hcap : cap ≤ 9223372036854775807) (hB : Bytes w w.heap.size a len) :
    Calls Try.prog 9 #[v] w fun e w' => e = .returned (.bool true) ∧ Below w.heap.size w w' := by
  have h0 := Lib.hid (draw_MeetOf v a len cap w hv hc hcap hB)
  subst hv
  clear hB
  by_cases hbig : 1048576 < len
  · go_enter Try.func9, Try.ntmps9
    go_wp2_with fail
    go_ret
    exact ⟨rfl, Below.refl _ _⟩
  · go_enter Try.func9, Try.ntmps9
    go_wp2_with fail
    refine (h0.out).mono ?_
    rintro e w1 ⟨n, u, xs, rfl, hl, hO, hb⟩
    obtain ⟨ua, uc, rfl, _⟩ := id hO
    have z1 := hb.size
    have hb1 := Lib.hid hb
    have hi := im_MeetOf n _ xs _ w1 hO.row (Nat.le_refl _) (by omega)
    have hs := fun (W : World) (hW : Below w1.heap.size w1 W) => sp_MeetOf n _ xs w1.heap.size W (hO.row.below hW (Nat.le_refl _)) hW.size (by omega)
    have RX1 := Lib.hid hO.row
    clear hb hO
    rcases (by cases famB n xs <;> simp : famB n xs = true ∨ famB n xs = false) with hbv | hbv
    · rw [hbv] at hi hs
      replace hi := Lib.hid (show Calls _ _ _ _ (ListPost (ucL andI xs) true w1) from hi)
      replace hs := fun (W : World) (hW : Below w1.heap.size w1 W) => (show Calls _ _ _ _ (ListPost (ucL andI xs) true W) from hs W hW)
      obtain ⟨T, hT⟩ : ∃ T, ucL andI xs = T := ⟨_, rfl⟩
      rw [hT] at hi hs
      have hsame : sameB T T = true := decide_eq_true rfl
      have fx := hbv
      have lx := famB_len fx
      obtain ⟨n1, n2, sx⟩ := famB_all fx
      have h0x : ∀ z ∈ xs, 0 ≤ z := fun z hz => (famB_lt fx z hz).1
      have hsx : sameB xs xs = true := decide_eq_true rfl
      have fT : famB n T = true := hT ▸ ucL_fam semi_and fx
      have lT := famB_len fT
      have fA := fam_other fT
      have fB := fam_other fx
      have lA := famB_len fA
      have lB := famB_len fB
      have hdu := ucL_dual semi_and semi_or fx (fun x y => oth_meet)
      rw [hT] at hdu
      obtain ⟨A, hA⟩ : ∃ A, sortL (T.map (otherI n)) = A := ⟨_, rfl⟩
      obtain ⟨B, hB⟩ : ∃ B, sortL (xs.map (otherI n)) = B := ⟨_, rfl⟩
      rw [hA] at fA lA hdu
      rw [hB] at fB lB hdu
      have hsa : sameB A A = true := decide_eq_true rfl
      have hc1 := fun (W : World) (v : Value) (h1 : Row W W.heap.size v T) => im_FamilyOther n v T W.heap.size W h1 (Nat.le_refl _) (by omega)
      have hc2 := fun (W : World) (v : Value) (h1 : Row W W.heap.size v xs) => im_FamilyOther n v xs W.heap.size W h1 (Nat.le_refl _) (by omega)
      have hc3 := fun (W : World) (v : Value) (h1 : Row W W.heap.size v B) => im_UnionOf n v B W.heap.size W h1 (Nat.le_refl _) (by omega)
      simp only [fx, fT, fB, hA, hB, hdu] at hc1 hc2 hc3
      replace hc1 := Lib.hid (show ∀ (W : World) (v : Value), Row W W.heap.size v T → Calls Try.prog 17 #[.int .i64 n, v] W (ListPost A true W) from hc1)
      replace hc2 := Lib.hid (show ∀ (W : World) (v : Value), Row W W.heap.size v xs → Calls Try.prog 17 #[.int .i64 n, v] W (ListPost B true W) from hc2)
      replace hc3 := Lib.hid (show ∀ (W : World) (v : Value), Row W W.heap.size v B → Calls Try.prog 27 #[.int .i64 n, v] W (ListPost A true W) from hc3)
      replace hbv := Lib.hid hbv
      replace fx := Lib.hid fx
      replace fT := Lib.hid fT
      replace fA := Lib.hid fA
      replace fB := Lib.hid fB
      replace hdu := Lib.hid hdu
      replace hA := Lib.hid hA
      replace hB := Lib.hid hB
      replace sx := Lib.hid sx
      replace h0x := Lib.hid h0x
      replace hs := Lib.hid hs
      replace hT := Lib.hid hT
      go_wp2_with fail
      refine (hi.out).mono ?_
      rintro e w2 ⟨v2, rfl, hN, hbn⟩
      obtain ⟨c2, d2, rfl, _⟩ := id hN
      have zn := hbn.size
      have RX2 := Lib.hid ((RX1.out.below hbn (Nat.le_refl _)).mono zn)
      have RT2 := Lib.hid hN.row
      have hb2 := Lib.hid (hb1.out.trans (hbn.mono hb1.out.size))
      have hbr := Lib.hid hbn
      clear hN hbn zn
      have hcs := Lib.hid (hs.out w2 hbr.out)
      go_wp2_with fail
      refine (hcs.out).mono ?_
      rintro e w3 ⟨v3, rfl, hN, hbn⟩
      obtain ⟨c3, d3, rfl, _⟩ := id hN
      have zn := hbn.size
      have RX3 := Lib.hid ((RX2.out.below hbn (Nat.le_refl _)).mono zn)
      have RT3 := Lib.hid ((RT2.out.below hbn (Nat.le_refl _)).mono zn)
      have RM3 := Lib.hid hN.row
      have hb3 := Lib.hid (hb2.out.trans (hbn.mono hb2.out.size))
      clear hN hbn zn
      have hq3 := same_l _ _ T T w3.heap.size w3 RT3.out RM3.out (by omega) (by omega)
      rw [hsame] at hq3
      replace hq3 := Lib.hid hq3
      go_wp2_with fail
      refine (hq3.out).mono ?_
      rintro e w' ⟨rfl, q3, rfl⟩
      have hb4 := Lib.hid (below_drewN hb3.out q3)
      have RX4 := Lib.hid (show Row (w3.drewN q3) (w3.drewN q3).heap.size _ _ from RX3.out.drewN q3)
      have RT4 := Lib.hid (show Row (w3.drewN q3) (w3.drewN q3).heap.size _ _ from RT3.out.drewN q3)
      have RM4 := Lib.hid (show Row (w3.drewN q3) (w3.drewN q3).heap.size _ _ from RM3.out.drewN q3)
      obtain ⟨w4, hw4⟩ : ∃ w4, w3.drewN q3 = w4 := ⟨_, rfl⟩
      rw [hw4] at hb4 RX4 RT4 RM4 ⊢
      replace hw4 := Lib.hid hw4
      go_wp2_with fail
      refine (hc1.out w4 _ RT4.out).mono ?_
      rintro e w5 ⟨v5, rfl, hN, hbn⟩
      obtain ⟨c5, d5, rfl, _⟩ := id hN
      have zn := hbn.size
      have RX5 := Lib.hid ((RX4.out.below hbn (Nat.le_refl _)).mono zn)
      have RT5 := Lib.hid ((RT4.out.below hbn (Nat.le_refl _)).mono zn)
      have RM5 := Lib.hid ((RM4.out.below hbn (Nat.le_refl _)).mono zn)
      have RA5 := Lib.hid hN.row
      have hb5 := Lib.hid (hb4.out.trans (hbn.mono hb4.out.size))
      clear hN hbn zn
      go_wp2_with fail
      refine (hc2.out w5 _ RX5.out).mono ?_
      rintro e w6 ⟨v6, rfl, hN, hbn⟩
      obtain ⟨c6, d6, rfl, _⟩ := id hN
      have zn := hbn.size
      have RX6 := Lib.hid ((RX5.out.below hbn (Nat.le_refl _)).mono zn)
      have RT6 := Lib.hid ((RT5.out.below hbn (Nat.le_refl _)).mono zn)
      have RM6 := Lib.hid ((RM5.out.below hbn (Nat.le_refl _)).mono zn)
      have RA6 := Lib.hid ((RA5.out.below hbn (Nat.le_refl _)).mono zn)
      have RB6 := Lib.hid hN.row
      have hb6 := Lib.hid (hb5.out.trans (hbn.mono hb5.out.size))
      clear hN hbn zn
      go_wp2_with fail
      refine (hc3.out w6 _ RB6.out).mono ?_
      rintro e w7 ⟨v7, rfl, hN, hbn⟩
      obtain ⟨c7, d7, rfl, _⟩ := id hN
      have zn := hbn.size
      have RX7 := Lib.hid ((RX6.out.below hbn (Nat.le_refl _)).mono zn)
      have RT7 := Lib.hid ((RT6.out.below hbn (Nat.le_refl _)).mono zn)
      have RM7 := Lib.hid ((RM6.out.below hbn (Nat.le_refl _)).mono zn)
      have RA7 := Lib.hid ((RA6.out.below hbn (Nat.le_refl _)).mono zn)
      have RB7 := Lib.hid ((RB6.out.below hbn (Nat.le_refl _)).mono zn)
      have RC7 := Lib.hid hN.row
      have hb7 := Lib.hid (hb6.out.trans (hbn.mono hb6.out.size))
      clear hN hbn zn
      have hq7 := same_l _ _ A A w7.heap.size w7 RA7.out RC7.out (by omega) (by omega)
      rw [hsa] at hq7
      replace hq7 := Lib.hid hq7
      go_wp2_with fail
      refine (hq7.out).mono ?_
      rintro e w' ⟨rfl, q7, rfl⟩
      have hb8 := Lib.hid (below_drewN hb7.out q7)
      have RX8 := Lib.hid (show Row (w7.drewN q7) (w7.drewN q7).heap.size _ _ from RX7.out.drewN q7)
      have RT8 := Lib.hid (show Row (w7.drewN q7) (w7.drewN q7).heap.size _ _ from RT7.out.drewN q7)
      have RM8 := Lib.hid (show Row (w7.drewN q7) (w7.drewN q7).heap.size _ _ from RM7.out.drewN q7)
      have RA8 := Lib.hid (show Row (w7.drewN q7) (w7.drewN q7).heap.size _ _ from RA7.out.drewN q7)
      have RB8 := Lib.hid (show Row (w7.drewN q7) (w7.drewN q7).heap.size _ _ from RB7.out.drewN q7)
      have RC8 := Lib.hid (show Row (w7.drewN q7) (w7.drewN q7).heap.size _ _ from RC7.out.drewN q7)
      obtain ⟨w8, hw8⟩ : ∃ w8, w7.drewN q7 = w8 := ⟨_, rfl⟩
      rw [hw8] at hb8 RX8 RT8 RM8 RA8 RB8 RC8 ⊢
      replace hw8 := Lib.hid hw8
      go_wp2_with fail
      go_ret
      exact ⟨rfl, hb8.out⟩
    · rw [hbv] at hi hs
      replace hi := Lib.hid (show Calls _ _ _ _ (ListPost [] false w1) from hi)
      replace hs := Lib.hid (fun (W : World) (hW : Below w1.heap.size w1 W) => (show Calls _ _ _ _ (ListPost [] false W) from hs W hW))
      have hsame : sameB ([] : List Int) [] = true := decide_eq_true rfl
      replace hbv := Lib.hid hbv
      go_wp2_with fail
      refine hi.out.mono ?_
      rintro e w2 ⟨v2, rfl, hO2, hb2⟩
      obtain ⟨va, vc, rfl, _⟩ := id hO2
      have z2 := hb2.size
      have hcs := Lib.hid (hs.out w2 hb2)
      replace hO2 := Lib.hid hO2
      replace hb2 := Lib.hid (hb1.out.trans (hb2.mono z1))
      go_wp2_with fail
      refine hcs.out.mono ?_
      rintro e w3 ⟨v3, rfl, hO3, hb3⟩
      obtain ⟨ya, yc, rfl, _⟩ := id hO3
      have z3 := hb3.size
      have hO23 := Lib.hid (hO2.out.below hb3 (Nat.le_refl _))
      replace hO3 := Lib.hid hO3
      replace hb3 := Lib.hid (hb2.out.trans (hb3.mono hb2.out.size))
      have hq : ∀ W, (∃ q, W = w3.drewN q) → Calls Try.prog 16 #[.slice va ([] : List Int).length vc, .slice ya ([] : List Int).length yc] W fun e w' => e = .returned (.bool true) ∧ ∃ n, w' = W.drewN n := by
        rintro W ⟨q, rfl⟩
        have := same_l (.slice va ([] : List Int).length vc) (.slice ya ([] : List Int).length yc) _ _ w3.heap.size (w3.drewN q) ((hO23.out.row.mono z3).drewN q) (hO3.out.row.drewN q) (by simp) (by simp)
        rw [hsame] at this
        exact this
      replace hq := Lib.hid hq
      go_wp2_with fail
      refine (hq.out w3 ⟨0, rfl⟩).mono ?_
      rintro e w4 ⟨rfl, q, rfl⟩
      go_wp2_with fail
      refine (hq.out _ ⟨q, rfl⟩).mono ?_
      rintro e w5 ⟨rfl, q5, rfl⟩
      go_wp2_with fail
      go_ret
      exact ⟨rfl, below_drewN hb3.out _⟩
set_option maxRecDepth 100000 in
set_option maxHeartbeats 4000000 in
theorem law_FnDifference (v : Value) (a : Option Addr) (len cap : Nat) (w : World) (hv : v = .slice a len cap) (hc : len ≤ cap) (hcap : cap ≤ 9223372036854775807) (hB : Bytes w w.heap.size a len) :
    Calls Try.prog 3 #[v] w fun e w' => e = .returned (.bool true) ∧ Below w.heap.size w w' := by
  have h0 := Lib.hid (draw_DifferenceOf v a len cap w hv hc hcap hB)
  subst hv
  clear hB
  by_cases hbig : 1048576 < len
  · go_enter Try.func3, Try.ntmps3
    go_wp2_with fail
    go_ret
    exact ⟨rfl, Below.refl _ _⟩
  · go_enter Try.func3, Try.ntmps3
    go_wp2_with fail
    refine (h0.out).mono ?_
    rintro e w1 ⟨n, u, xs, rfl, hl, hO, hb⟩
    obtain ⟨ua, uc, rfl, _⟩ := id hO
    have z1 := hb.size
    have hb1 := Lib.hid hb
    have hi := im_DifferenceOf n _ xs _ w1 hO.row (Nat.le_refl _) (by omega)
    have hs := fun (W : World) (hW : Below w1.heap.size w1 W) => sp_DifferenceOf n _ xs w1.heap.size W (hO.row.below hW (Nat.le_refl _)) hW.size (by omega)
    have RX1 := Lib.hid hO.row
    clear hb hO
    rcases (by cases famB n xs <;> simp : famB n xs = true ∨ famB n xs = false) with hbv | hbv
    · rw [hbv] at hi hs
      replace hi := Lib.hid (show Calls _ _ _ _ (ListPost (dfL xs) true w1) from hi)
      replace hs := fun (W : World) (hW : Below w1.heap.size w1 W) => (show Calls _ _ _ _ (ListPost (dfL xs) true W) from hs W hW)
      obtain ⟨T, hT⟩ : ∃ T, dfL xs = T := ⟨_, rfl⟩
      rw [hT] at hi hs
      have hsame : sameB T T = true := decide_eq_true rfl
      have fx := hbv
      have lx := famB_len fx
      obtain ⟨n1, n2, sx⟩ := famB_all fx
      have h0x : ∀ z ∈ xs, 0 ≤ z := fun z hz => (famB_lt fx z hz).1
      have hsx : sameB xs xs = true := decide_eq_true rfl
      have hmany := many_differences fx
      have hzero := df_zero fx
      have fT : (dfL xs).length ≤ 256 := dfL_len fx
      have fO := fam_other fx
      have lO := famB_len fO
      have hdo := df_other fx
      rw [hT] at hmany hzero fT hdo
      obtain ⟨O, hO9⟩ : ∃ O, sortL (xs.map (otherI n)) = O := ⟨_, rfl⟩
      rw [hO9] at fO lO hdo
      have hc1 := fun (W : World) (v : Value) (h1 : Row W W.heap.size v xs) => im_FamilyOther n v xs W.heap.size W h1 (Nat.le_refl _) (by omega)
      have hc2 := fun (W : World) (v : Value) (h1 : Row W W.heap.size v O) => im_DifferenceOf n v O W.heap.size W h1 (Nat.le_refl _) (by omega)
      simp only [fx, fO, hO9, hdo] at hc1 hc2
      replace hc1 := Lib.hid (show ∀ (W : World) (v : Value), Row W W.heap.size v xs → Calls Try.prog 17 #[.int .i64 n, v] W (ListPost O true W) from hc1)
      replace hc2 := Lib.hid (show ∀ (W : World) (v : Value), Row W W.heap.size v O → Calls Try.prog 14 #[.int .i64 n, v] W (ListPost T true W) from hc2)
      replace hzero := Lib.hid hzero
      replace hbv := Lib.hid hbv
      replace fx := Lib.hid fx
      replace fO := Lib.hid fO
      replace hdo := Lib.hid hdo
      replace hO9 := Lib.hid hO9
      replace sx := Lib.hid sx
      replace h0x := Lib.hid h0x
      replace hs := Lib.hid hs
      replace hT := Lib.hid hT
      go_wp2_with fail
      refine (hi.out).mono ?_
      rintro e w2 ⟨v2, rfl, hN, hbn⟩
      obtain ⟨c2, d2, rfl, _⟩ := id hN
      have zn := hbn.size
      have RX2 := Lib.hid ((RX1.out.below hbn (Nat.le_refl _)).mono zn)
      have RT2 := Lib.hid hN.row
      have hb2 := Lib.hid (hb1.out.trans (hbn.mono hb1.out.size))
      have hbr := Lib.hid hbn
      clear hN hbn zn
      have hcs := Lib.hid (hs.out w2 hbr.out)
      go_wp2_with fail
      refine (hcs.out).mono ?_
      rintro e w3 ⟨v3, rfl, hN, hbn⟩
      obtain ⟨c3, d3, rfl, _⟩ := id hN
      have zn := hbn.size
      have RX3 := Lib.hid ((RX2.out.below hbn (Nat.le_refl _)).mono zn)
      have RT3 := Lib.hid ((RT2.out.below hbn (Nat.le_refl _)).mono zn)
      have RM3 := Lib.hid hN.row
      have hb3 := Lib.hid (hb2.out.trans (hbn.mono hb2.out.size))
      clear hN hbn zn
      have hq3 := same_l _ _ T T w3.heap.size w3 RT3.out RM3.out (by omega) (by omega)
      rw [hsame] at hq3
      replace hq3 := Lib.hid hq3
      go_wp2_with fail
      refine (hq3.out).mono ?_
      rintro e w' ⟨rfl, q3, rfl⟩
      have hb4 := Lib.hid (below_drewN hb3.out q3)
      have RX4 := Lib.hid (show Row (w3.drewN q3) (w3.drewN q3).heap.size _ _ from RX3.out.drewN q3)
      have RT4 := Lib.hid (show Row (w3.drewN q3) (w3.drewN q3).heap.size _ _ from RT3.out.drewN q3)
      have RM4 := Lib.hid (show Row (w3.drewN q3) (w3.drewN q3).heap.size _ _ from RM3.out.drewN q3)
      obtain ⟨w4, hw4⟩ : ∃ w4, w3.drewN q3 = w4 := ⟨_, rfl⟩
      rw [hw4] at hb4 RX4 RT4 RM4 ⊢
      replace hw4 := Lib.hid hw4
      go_wp2_with fail
      refine (hc1.out w4 _ RX4.out).mono ?_
      rintro e w5 ⟨v5, rfl, hN, hbn⟩
      obtain ⟨c5, d5, rfl, _⟩ := id hN
      have zn := hbn.size
      have RX5 := Lib.hid ((RX4.out.below hbn (Nat.le_refl _)).mono zn)
      have RT5 := Lib.hid ((RT4.out.below hbn (Nat.le_refl _)).mono zn)
      have RM5 := Lib.hid ((RM4.out.below hbn (Nat.le_refl _)).mono zn)
      have RO5 := Lib.hid hN.row
      have hb5 := Lib.hid (hb4.out.trans (hbn.mono hb4.out.size))
      clear hN hbn zn
      go_wp2_with fail
      refine (hc2.out w5 _ RO5.out).mono ?_
      rintro e w6 ⟨v6, rfl, hN, hbn⟩
      obtain ⟨c6, d6, rfl, _⟩ := id hN
      have zn := hbn.size
      have RX6 := Lib.hid ((RX5.out.below hbn (Nat.le_refl _)).mono zn)
      have RT6 := Lib.hid ((RT5.out.below hbn (Nat.le_refl _)).mono zn)
      have RM6 := Lib.hid ((RM5.out.below hbn (Nat.le_refl _)).mono zn)
      have RO6 := Lib.hid ((RO5.out.below hbn (Nat.le_refl _)).mono zn)
      have RD6 := Lib.hid hN.row
      have hb6 := Lib.hid (hb5.out.trans (hbn.mono hb5.out.size))
      clear hN hbn zn
      have hq6 := same_l _ _ T T w6.heap.size w6 RD6.out RT6.out (by omega) (by omega)
      rw [hsame] at hq6
      replace hq6 := Lib.hid hq6
      go_wp2_with fail
      refine (hq6.out).mono ?_
      rintro e w' ⟨rfl, q6, rfl⟩
      have hb7 := Lib.hid (below_drewN hb6.out q6)
      have RX7 := Lib.hid (show Row (w6.drewN q6) (w6.drewN q6).heap.size _ _ from RX6.out.drewN q6)
      have RT7 := Lib.hid (show Row (w6.drewN q6) (w6.drewN q6).heap.size _ _ from RT6.out.drewN q6)
      have RM7 := Lib.hid (show Row (w6.drewN q6) (w6.drewN q6).heap.size _ _ from RM6.out.drewN q6)
      have RO7 := Lib.hid (show Row (w6.drewN q6) (w6.drewN q6).heap.size _ _ from RO6.out.drewN q6)
      have RD7 := Lib.hid (show Row (w6.drewN q6) (w6.drewN q6).heap.size _ _ from RD6.out.drewN q6)
      obtain ⟨w7, hw7⟩ : ∃ w7, w6.drewN q6 = w7 := ⟨_, rfl⟩
      rw [hw7] at hb7 RX7 RT7 RM7 RO7 RD7 ⊢
      replace hw7 := Lib.hid hw7
      have hge : (((T.length : Nat) : Int) ≥ ((xs.length : Nat) : Int)) := by omega
      by_cases hx0 : xs.length = 0
      · have hxz : (((xs.length : Nat) : Int) == 0) = true := by simp [hx0]
        replace hx0 := Lib.hid hx0
        clear hzero
        go_wp2_with fail
        go_ret
        exact ⟨rfl, hb7.out⟩
      · have hxz : (((xs.length : Nat) : Int) == 0) = false := by rw [beq_eq_false_iff_ne]; omega
        obtain ⟨z1', z2'⟩ := hzero.out (by omega)
        obtain ⟨ra, rc, re, rh⟩ := RT7.out
        injection re with re1 re2 re3
        subst re1 re3
        obtain ⟨b1, o1, rfl, s1, cc⟩ := rh (by omega)
        have e1 : w7.cell? ⟨b1, o1, none⟩ = some (.int .i64 0) := by
          have h9 := cc 0 z1'
          rw [z2'] at h9
          exact h9
        have k2 : (0 : Int) < (T.length : Nat) := by omega
        replace hx0 := Lib.hid hx0
        clear hzero rh cc z2'
        go_wp2_with fail
        first | (go_quiet (fail); go_wp2_with fail; go_ret) | go_ret
        exact ⟨rfl, by first | exact hb7.out | exact below_drewN hb7.out _⟩
    · rw [hbv] at hi hs
      replace hi := Lib.hid (show Calls _ _ _ _ (ListPost [] false w1) from hi)
      replace hs := Lib.hid (fun (W : World) (hW : Below w1.heap.size w1 W) => (show Calls _ _ _ _ (ListPost [] false W) from hs W hW))
      have hsame : sameB ([] : List Int) [] = true := decide_eq_true rfl
      replace hbv := Lib.hid hbv
      go_wp2_with fail
      refine hi.out.mono ?_
      rintro e w2 ⟨v2, rfl, hO2, hb2⟩
      obtain ⟨va, vc, rfl, _⟩ := id hO2
      have z2 := hb2.size
      have hcs := Lib.hid (hs.out w2 hb2)
      replace hO2 := Lib.hid hO2
      replace hb2 := Lib.hid (hb1.out.trans (hb2.mono z1))
      go_wp2_with fail
      refine hcs.out.mono ?_
      rintro e w3 ⟨v3, rfl, hO3, hb3⟩
      obtain ⟨ya, yc, rfl, _⟩ := id hO3
      have z3 := hb3.size
      have hO23 := Lib.hid (hO2.out.below hb3 (Nat.le_refl _))
      replace hO3 := Lib.hid hO3
      replace hb3 := Lib.hid (hb2.out.trans (hb3.mono hb2.out.size))
      have hq : ∀ W, (∃ q, W = w3.drewN q) → Calls Try.prog 16 #[.slice va ([] : List Int).length vc, .slice ya ([] : List Int).length yc] W fun e w' => e = .returned (.bool true) ∧ ∃ n, w' = W.drewN n := by
        rintro W ⟨q, rfl⟩
        have := same_l (.slice va ([] : List Int).length vc) (.slice ya ([] : List Int).length yc) _ _ w3.heap.size (w3.drewN q) ((hO23.out.row.mono z3).drewN q) (hO3.out.row.drewN q) (by simp) (by simp)
        rw [hsame] at this
        exact this
      replace hq := Lib.hid hq
      go_wp2_with fail
      refine (hq.out w3 ⟨0, rfl⟩).mono ?_
      rintro e w4 ⟨rfl, q, rfl⟩
      go_wp2_with fail
      refine (hq.out _ ⟨q, rfl⟩).mono ?_
      rintro e w5 ⟨rfl, q5, rfl⟩
      go_wp2_with fail
      go_ret
      exact ⟨rfl, below_drewN hb3.out _⟩
end Go.Proofs.Ythljimmhgpbmbab
