/- Laws over the program that ask for shadows: FnShiftAll. -/
import Derived.Test.YtgkbaenjniapiaaDoorMa3
import Derived.Test.YtgkbaenjniapiaaDoorAllD
import Derived.Test.YtgkbaenjniapiaaDoorSameL
import Derived.Test.YtgkbaenjniapiaaDoorAllSp
import Derived.Test.YtgkbaenjniapiaaDoorSumB
import Derived.Test.YtgkbaenjniapiaaDoorAllTs
import Derived.Test.YtgkbaenjniapiaaDoorAllTn
import Derived.Test.YtgkbaenjniapiaaDoorIs2
import Derived.Test.YtgkbaenjniapiaaDoorFams14
namespace Go.Proofs.YtgkbaenjniapiaaDoor
open Go.ChangeShapes Go.WideShapes Go.ChangeAt Go.RowKit Go.Proofs

theorem draw_ShiftAll (v : Value) (a : Option Addr) (len cap : Nat) (w : World) (hv : v = .slice a len cap) (hc : len ≤ cap) (hcap : cap ≤ 9223372036854775807) (hB : Bytes w w.heap.size a len) :
    Calls Tryd.prog 21 #[v] w (GivenDraw w) := by
  have h0 := Lib.hid (draw_given v a len cap w hv hc hcap hB)
  clear hv hc hcap hB
  go_enter Tryd.func21, Tryd.ntmps21
  go_wp2_with fail
  refine (h0.out).mono ?_
  rintro e w1 ⟨n, u, xs, rfl, hl, hO, hb⟩
  obtain ⟨fa, fc, rfl, _⟩ := id hO
  replace hO := Lib.hid hO
  replace hb := Lib.hid hb
  go_wp2_with fail
  go_ret2
  exact ⟨_, _, xs, rfl, hl, hO.out, hb.out⟩
theorem prof_turnA {n i k : Int} {xs : List Int} (hf : famB n xs = true) (hi : ptB n i = true) (hk : ptB n k = true) (N : Nat) : profL N (tnL (fun x => movedI x i k) xs) = profL N xs := by
  obtain ⟨n1, n2, hs⟩ := famB_all hf
  obtain ⟨i1, i2⟩ := ptB_yes hi
  obtain ⟨k1, k2⟩ := ptB_yes hk
  unfold profL
  refine List.map_congr_left fun j _ => ?_
  unfold cntP
  rw [tn_count (famB_asc hf) (fun x => cntI x == ((j : Nat) : Int)) fun x hx => by
    obtain ⟨x1, x2⟩ := setB_lt (hs x hx)
    rw [cnt_mv x1 x2 i1 (by omega) k1 (by omega)]]
theorem all_facts {n : Int} {xs : List Int} (hf : famB n xs = true) : profL (n.toNat + 1) (stL (shL n) xs) = profL (n.toNat + 1) xs ∧ sumP (stL (shL n) xs) n.toNat ≤ sumP xs n.toNat ∧ staysB n (shL n) (stL (shL n) xs) = true ∧ (crsB n xs xs = true → crsB n (stL (shL n) xs) (stL (shL n) xs) = true) := by
  have hT := shL_turns n
  refine ⟨st_keep (fun ys => profL (n.toNat + 1) ys = profL (n.toNat + 1) xs) hT (fun φ hφ ys hy hq => ?_) hf rfl, st_keep (fun ys => sumP ys n.toNat ≤ sumP xs n.toNat) hT (fun φ hφ ys hy hq => ?_) hf (Int.le_refl _), stays_st hT hf, fun hc => ?_⟩
  · obtain ⟨a, b, h1, h2, rfl⟩ := shL_is hφ
    show profL _ (tnL (fun x => movedI x a b) ys) = _
    rw [prof_turnA hy (ptB_mk (by omega) h1) (ptB_mk (by omega) (by omega))]
    exact hq
  · obtain ⟨a, b, h1, h2, rfl⟩ := shL_is hφ
    exact Int.le_trans (sum_turn h1 h2 hy) hq
  · have hcc : crossB xs xs = true := by unfold crsB at hc; simp only [Bool.and_eq_true] at hc; exact hc.2
    have := st_keep (n := n) (fun ys => crossB ys ys = true) hT (fun φ hφ ys hy hq => by
      obtain ⟨a, b, h1, h2, rfl⟩ := shL_is hφ
      exact cross_turn h1 h2 hy hq) hf hcc
    unfold crsB
    rw [st_in hT hf, this]; rfl
set_option maxRecDepth 100000 in
set_option maxHeartbeats 4000000 in
theorem law_FnShiftAll (v : Value) (a : Option Addr) (len cap : Nat) (w : World) (hv : v = .slice a len cap) (hc : len ≤ cap) (hcap : cap ≤ 9223372036854775807) (hB : Bytes w w.heap.size a len) (hT0 : Tab w) :
    Calls Tryd.prog 6 #[v] w fun e w' => e = .returned (.bool true) ∧ Below w.heap.size w w' := by
  have h0 := Lib.hid (draw_ShiftAll v a len cap w hv hc hcap hB)
  have htl := hT0.lt
  replace hT0 := Lib.hid hT0
  subst hv
  clear hB
  by_cases hbig : 1048576 < len
  · go_enter Tryd.func6, Tryd.ntmps6
    go_wp2_with fail
    go_ret
    exact ⟨rfl, Below.refl _ _⟩
  · go_enter Tryd.func6, Tryd.ntmps6
    go_wp2_with fail
    refine (h0.out).mono ?_
    rintro e w1 ⟨n, u, xs, rfl, hl, hO, hb⟩
    obtain ⟨ua, uc, rfl, _⟩ := id hO
    have z1 := hb.size
    have hb1 := Lib.hid hb
    have hi := im_ShiftAll n _ xs _ w1 hO.row (Nat.le_refl _) (by omega)
    have hs := fun (W : World) (hW : Below w1.heap.size w1 W) => sp_ShiftAll n _ xs w1.heap.size W (hO.row.below hW (Nat.le_refl _)) hW.size (by omega)
    have RX1 := Lib.hid hO.row
    clear hb hO
    rcases (by cases famB n xs <;> simp : famB n xs = true ∨ famB n xs = false) with hbv | hbv
    · rw [hbv] at hi hs
      replace hi := Lib.hid (show Calls _ _ _ _ (ListPost (stL (shL n) xs) true w1) from hi)
      replace hs := fun (W : World) (hW : Below w1.heap.size w1 W) => (show Calls _ _ _ _ (ListPost (stL (shL n) xs) true W) from hs W hW)
      obtain ⟨T, hT⟩ : ∃ T, stL (shL n) xs = T := ⟨_, rfl⟩
      rw [hT] at hi hs
      have hsame : sameB T T = true := decide_eq_true rfl
      have fx := hbv
      have lx := famB_len fx
      obtain ⟨n1, n2, _⟩ := famB_all fx
      have fT : famB n T = true := hT ▸ st_in (shL_turns n) fx
      have lT := famB_len fT
      obtain ⟨hE, hsum, hst, hcr⟩ := all_facts fx
      rw [hT] at hE hsum hst hcr
      have hc1 := fun (W : World) (v : Value) (h1 : Row W W.heap.size v xs) => im_FamilyProfile n v xs W.heap.size W h1 (Nat.le_refl _) (by omega)
      have hc2 := fun (W : World) (v : Value) (h1 : Row W W.heap.size v T) => im_FamilyProfile n v T W.heap.size W h1 (Nat.le_refl _) (by omega)
      rw [hE] at hc2
      have lA := profL_len (n.toNat + 1) xs
      obtain ⟨A, hA⟩ : ∃ A, profL (n.toNat + 1) xs = A := ⟨_, rfl⟩
      rw [hA] at hc1 hc2 lA
      have hsa : sameB A A = true := decide_eq_true rfl
      have hv1 : ssV n xs = sumP xs n.toNat := by unfold ssV; rw [fx]; rfl
      have hv2 : ssV n T = sumP T n.toNat := by unfold ssV; rw [fT]; rfl
      have hc3 := fun (W : World) (v : Value) (h1 : Row W W.heap.size v xs) (h2 : Tab W) => im_ShiftSum n v xs W.heap.size W h1 (Nat.le_refl _) (by omega) h2
      have hc4 := fun (W : World) (v : Value) (h1 : Row W W.heap.size v T) (h2 : Tab W) => im_ShiftSum n v T W.heap.size W h1 (Nat.le_refl _) (by omega) h2
      rw [hv1] at hc3
      rw [hv2] at hc4
      obtain ⟨y1, hy1⟩ : ∃ y, sumP xs n.toNat = y := ⟨_, rfl⟩
      obtain ⟨y2, hy2⟩ : ∃ y, sumP T n.toNat = y := ⟨_, rfl⟩
      rw [hy1] at hc3 hsum
      rw [hy2] at hc4 hsum
      have hc5 := fun (W : World) (v : Value) (h1 : Row W W.heap.size v T) => im_ShiftedIn n v T W.heap.size W h1 (Nat.le_refl _) (by omega)
      rw [hst] at hc5
      have hc6 := fun (W : World) (v : Value) (h1 : Row W W.heap.size v xs) => im_IntersectIn n v xs W.heap.size W h1 (Nat.le_refl _) (by omega)
      obtain ⟨b, hbb⟩ : ∃ b, crsB n xs xs = b := ⟨_, rfl⟩
      rw [hbb] at hc6 hcr
      replace hcr := Lib.hid (show b = true → ∀ (W : World) (v : Value), Row W W.heap.size v T → Calls Tryd.prog 27 #[.int .i64 n, v] W (fun e w' => e = .returned (.bool true) ∧ Below W.heap.size W w') from fun hb W v h1 => by
        have := im_IntersectIn n v T W.heap.size W h1 (Nat.le_refl _) (by omega)
        rw [hcr hb] at this
        exact this)
      simp only [fx, fT] at hc1 hc2 hc3 hc4
      replace lA : A.length ≤ 9 := by omega
      replace hc1 := Lib.hid (show ∀ (W : World) (v : Value), Row W W.heap.size v xs → Calls Tryd.prog 24 #[.int .i64 n, v] W (ListPost A true W) from hc1)
      replace hc2 := Lib.hid (show ∀ (W : World) (v : Value), Row W W.heap.size v T → Calls Tryd.prog 24 #[.int .i64 n, v] W (ListPost A true W) from hc2)
      replace hc3 := Lib.hid hc3
      replace hc4 := Lib.hid hc4
      replace hc5 := Lib.hid hc5
      replace hc6 := Lib.hid hc6
      replace hA := Lib.hid hA
      replace hE := Lib.hid hE
      replace hst := Lib.hid hst
      replace hv1 := Lib.hid hv1
      replace hv2 := Lib.hid hv2
      replace hy1 := Lib.hid hy1
      replace hy2 := Lib.hid hy2
      replace hbb := Lib.hid hbb
      replace hbv := Lib.hid hbv
      replace fx := Lib.hid fx
      replace fT := Lib.hid fT
      replace hs := Lib.hid hs
      replace hT := Lib.hid hT
      go_wp2_with fail
      refine (hi.out).mono ?_
      rintro e w2 ⟨v2, rfl, hN, hbn⟩
      obtain ⟨c2, d2, rfl, _⟩ := id hN
      have zn := hbn.size
      have RX2 := Lib.hid ((RX1.out.below hbn (Nat.le_refl _)).mono zn)
      have RT2 := Lib.hid hN.row
      have hb2 := Lib.hid (hb1.out.trans (hbn.mono hb1.out.size))
      have hbr := Lib.hid hbn
      clear hN hbn zn
      have hcs := Lib.hid (hs.out w2 hbr.out)
      go_wp2_with fail
      refine (hcs.out).mono ?_
      rintro e w3 ⟨v3, rfl, hN, hbn⟩
      obtain ⟨c3, d3, rfl, _⟩ := id hN
      have zn := hbn.size
      have RX3 := Lib.hid ((RX2.out.below hbn (Nat.le_refl _)).mono zn)
      have RT3 := Lib.hid ((RT2.out.below hbn (Nat.le_refl _)).mono zn)
      have RM3 := Lib.hid hN.row
      have hb3 := Lib.hid (hb2.out.trans (hbn.mono hb2.out.size))
      clear hN hbn zn
      have hq3 := same_l _ _ T T w3.heap.size w3 RT3.out RM3.out (by omega) (by omega)
      rw [hsame] at hq3
      replace hq3 := Lib.hid hq3
      go_wp2_with fail
      refine (hq3.out).mono ?_
      rintro e w' ⟨rfl, q3, rfl⟩
      have hb4 := Lib.hid (below_drewN hb3.out q3)
      have RX4 := Lib.hid (show Row (w3.drewN q3) (w3.drewN q3).heap.size _ _ from RX3.out.drewN q3)
      have RT4 := Lib.hid (show Row (w3.drewN q3) (w3.drewN q3).heap.size _ _ from RT3.out.drewN q3)
      have RM4 := Lib.hid (show Row (w3.drewN q3) (w3.drewN q3).heap.size _ _ from RM3.out.drewN q3)
      obtain ⟨w4, hw4⟩ : ∃ w4, w3.drewN q3 = w4 := ⟨_, rfl⟩
      rw [hw4] at hb4 RX4 RT4 RM4 ⊢
      replace hw4 := Lib.hid hw4
      go_wp2_with fail
      refine (hc1.out w4 _ RX4.out).mono ?_
      rintro e w5 ⟨v5, rfl, hN, hbn⟩
      obtain ⟨c5, d5, rfl, _⟩ := id hN
      have zn := hbn.size
      have RX5 := Lib.hid ((RX4.out.below hbn (Nat.le_refl _)).mono zn)
      have RT5 := Lib.hid ((RT4.out.below hbn (Nat.le_refl _)).mono zn)
      have RM5 := Lib.hid ((RM4.out.below hbn (Nat.le_refl _)).mono zn)
      have RA5 := Lib.hid hN.row
      have hb5 := Lib.hid (hb4.out.trans (hbn.mono hb4.out.size))
      clear hN hbn zn
      go_wp2_with fail
      refine (hc2.out w5 _ RT5.out).mono ?_
      rintro e w6 ⟨v6, rfl, hN, hbn⟩
      obtain ⟨c6, d6, rfl, _⟩ := id hN
      have zn := hbn.size
      have RX6 := Lib.hid ((RX5.out.below hbn (Nat.le_refl _)).mono zn)
      have RT6 := Lib.hid ((RT5.out.below hbn (Nat.le_refl _)).mono zn)
      have RM6 := Lib.hid ((RM5.out.below hbn (Nat.le_refl _)).mono zn)
      have RA6 := Lib.hid ((RA5.out.below hbn (Nat.le_refl _)).mono zn)
      have RB6 := Lib.hid hN.row
      have hb6 := Lib.hid (hb5.out.trans (hbn.mono hb5.out.size))
      clear hN hbn zn
      go_wp2_with fail
      refine (hc3.out w6 _ RX6.out (hT0.out.below hb6.out htl)).mono ?_
      rintro e w7 ⟨rfl, hbn⟩
      have zn := hbn.size
      have RX7 := Lib.hid ((RX6.out.below hbn (Nat.le_refl _)).mono zn)
      have RT7 := Lib.hid ((RT6.out.below hbn (Nat.le_refl _)).mono zn)
      have RM7 := Lib.hid ((RM6.out.below hbn (Nat.le_refl _)).mono zn)
      have RA7 := Lib.hid ((RA6.out.below hbn (Nat.le_refl _)).mono zn)
      have RB7 := Lib.hid ((RB6.out.below hbn (Nat.le_refl _)).mono zn)
      have hb7 := Lib.hid (hb6.out.trans (hbn.mono hb6.out.size))
      clear hbn zn
      go_wp2_with fail
      refine (hc4.out w7 _ RT7.out (hT0.out.below hb7.out htl)).mono ?_
      rintro e w8 ⟨rfl, hbn⟩
      have zn := hbn.size
      have RX8 := Lib.hid ((RX7.out.below hbn (Nat.le_refl _)).mono zn)
      have RT8 := Lib.hid ((RT7.out.below hbn (Nat.le_refl _)).mono zn)
      have RM8 := Lib.hid ((RM7.out.below hbn (Nat.le_refl _)).mono zn)
      have RA8 := Lib.hid ((RA7.out.below hbn (Nat.le_refl _)).mono zn)
      have RB8 := Lib.hid ((RB7.out.below hbn (Nat.le_refl _)).mono zn)
      have hb8 := Lib.hid (hb7.out.trans (hbn.mono hb7.out.size))
      clear hbn zn
      have hq8 := same_l _ _ A A w8.heap.size w8 RA8.out RB8.out (by omega) (by omega)
      rw [hsa] at hq8
      replace hq8 := Lib.hid hq8
      go_wp2_with fail
      refine (hq8.out).mono ?_
      rintro e w' ⟨rfl, q8, rfl⟩
      have hb9 := Lib.hid (below_drewN hb8.out q8)
      have RX9 := Lib.hid (show Row (w8.drewN q8) (w8.drewN q8).heap.size _ _ from RX8.out.drewN q8)
      have RT9 := Lib.hid (show Row (w8.drewN q8) (w8.drewN q8).heap.size _ _ from RT8.out.drewN q8)
      have RM9 := Lib.hid (show Row (w8.drewN q8) (w8.drewN q8).heap.size _ _ from RM8.out.drewN q8)
      have RA9 := Lib.hid (show Row (w8.drewN q8) (w8.drewN q8).heap.size _ _ from RA8.out.drewN q8)
      have RB9 := Lib.hid (show Row (w8.drewN q8) (w8.drewN q8).heap.size _ _ from RB8.out.drewN q8)
      obtain ⟨w9, hw9⟩ : ∃ w9, w8.drewN q8 = w9 := ⟨_, rfl⟩
      rw [hw9] at hb9 RX9 RT9 RM9 RA9 RB9 ⊢
      replace hw9 := Lib.hid hw9
      go_wp2_with fail
      refine (hc5.out w9 _ RT9.out).mono ?_
      rintro e w10 ⟨rfl, hbn⟩
      have zn := hbn.size
      have RX10 := Lib.hid ((RX9.out.below hbn (Nat.le_refl _)).mono zn)
      have RT10 := Lib.hid ((RT9.out.below hbn (Nat.le_refl _)).mono zn)
      have RM10 := Lib.hid ((RM9.out.below hbn (Nat.le_refl _)).mono zn)
      have RA10 := Lib.hid ((RA9.out.below hbn (Nat.le_refl _)).mono zn)
      have RB10 := Lib.hid ((RB9.out.below hbn (Nat.le_refl _)).mono zn)
      have hb10 := Lib.hid (hb9.out.trans (hbn.mono hb9.out.size))
      clear hbn zn
      go_wp2_with fail
      refine (hc6.out w10 _ RX10.out).mono ?_
      rintro e w11 ⟨rfl, hbn⟩
      have zn := hbn.size
      have RX11 := Lib.hid ((RX10.out.below hbn (Nat.le_refl _)).mono zn)
      have RT11 := Lib.hid ((RT10.out.below hbn (Nat.le_refl _)).mono zn)
      have RM11 := Lib.hid ((RM10.out.below hbn (Nat.le_refl _)).mono zn)
      have RA11 := Lib.hid ((RA10.out.below hbn (Nat.le_refl _)).mono zn)
      have RB11 := Lib.hid ((RB10.out.below hbn (Nat.le_refl _)).mono zn)
      have hb11 := Lib.hid (hb10.out.trans (hbn.mono hb10.out.size))
      clear hbn zn
      cases b with
      | false =>
        go_wp2_with fail
        go_ret
        exact ⟨rfl, hb11.out⟩
      | true =>
      have hc7 := Lib.hid (hcr.out rfl w11 _ RT11.out)
      go_wp2_with fail
      refine (hc7.out).mono ?_
      rintro e w12 ⟨rfl, hbn⟩
      have zn := hbn.size
      have RX12 := Lib.hid ((RX11.out.below hbn (Nat.le_refl _)).mono zn)
      have RT12 := Lib.hid ((RT11.out.below hbn (Nat.le_refl _)).mono zn)
      have RM12 := Lib.hid ((RM11.out.below hbn (Nat.le_refl _)).mono zn)
      have RA12 := Lib.hid ((RA11.out.below hbn (Nat.le_refl _)).mono zn)
      have RB12 := Lib.hid ((RB11.out.below hbn (Nat.le_refl _)).mono zn)
      have hb12 := Lib.hid (hb11.out.trans (hbn.mono hb11.out.size))
      clear hbn zn
      go_wp2_with fail
      go_ret
      exact ⟨rfl, hb12.out⟩
    · rw [hbv] at hi hs
      replace hi := Lib.hid (show Calls _ _ _ _ (ListPost [] false w1) from hi)
      replace hs := Lib.hid (fun (W : World) (hW : Below w1.heap.size w1 W) => (show Calls _ _ _ _ (ListPost [] false W) from hs W hW))
      have hsame : sameB ([] : List Int) [] = true := decide_eq_true rfl
      replace hbv := Lib.hid hbv
      go_wp2_with fail
      refine hi.out.mono ?_
      rintro e w2 ⟨v2, rfl, hO2, hb2⟩
      obtain ⟨va, vc, rfl, _⟩ := id hO2
      have z2 := hb2.size
      have hcs := Lib.hid (hs.out w2 hb2)
      replace hO2 := Lib.hid hO2
      replace hb2 := Lib.hid (hb1.out.trans (hb2.mono z1))
      go_wp2_with fail
      refine hcs.out.mono ?_
      rintro e w3 ⟨v3, rfl, hO3, hb3⟩
      obtain ⟨ya, yc, rfl, _⟩ := id hO3
      have z3 := hb3.size
      have hO23 := Lib.hid (hO2.out.below hb3 (Nat.le_refl _))
      replace hO3 := Lib.hid hO3
      replace hb3 := Lib.hid (hb2.out.trans (hb3.mono hb2.out.size))
      have hq : ∀ W, (∃ q, W = w3.drewN q) → Calls Tryd.prog 11 #[.slice va ([] : List Int).length vc, .slice ya ([] : List Int).length yc] W fun e w' => e = .returned (.bool true) ∧ ∃ n, w' = W.drewN n := by
        rintro W ⟨q, rfl⟩
        have := same_l (.slice va ([] : List Int).length vc) (.slice ya ([] : List Int).length yc) _ _ w3.heap.size (w3.drewN q) ((hO23.out.row.mono z3).drewN q) (hO3.out.row.drewN q) (by simp) (by simp)
        rw [hsame] at this
        exact this
      replace hq := Lib.hid hq
      go_wp2_with fail
      refine (hq.out w3 ⟨0, rfl⟩).mono ?_
      rintro e w4 ⟨rfl, q, rfl⟩
      go_wp2_with fail
      refine (hq.out _ ⟨q, rfl⟩).mono ?_
      rintro e w5 ⟨rfl, q5, rfl⟩
      go_wp2_with fail
      go_ret
      exact ⟨rfl, below_drewN hb3.out _⟩
end Go.Proofs.YtgkbaenjniapiaaDoor
