/- Laws of chapter 2 over the program: what compares lists. -/
import Derived.Test.YthljimmhgpbmbabPf1
import Derived.Test.YthljimmhgpbmbabAllD
import Derived.Test.YthljimmhgpbmbabSameL
import Derived.Test.YthljimmhgpbmbabAllSp
namespace Go.Proofs.Ythljimmhgpbmbab
open Go.ChangeShapes Go.WideShapes Go.ChangeAt Go.RowKit Go.Proofs

theorem two_yes {a b : Bool} (h : (a && b) = true) : a = true ∧ b = true := by cases a <;> cases b <;> simp_all
set_option maxRecDepth 100000 in
set_option maxHeartbeats 4000000 in
theorem law_FnJoins (v : Value) (a : Option Addr) (len cap : Nat) (w : World) (hv : v = .slice a len cap) (hc : len ≤ cap) (hcap : cap ≤ 9223372036854775807) (hB : Bytes w w.heap.size a len) :
    Calls Try.prog 5 #[v] w fun e w' => e = .returned (.bool true) ∧ Below w.heap.size w w' := by
  have h0 := Lib.hid (draw_FamilyJoins v a len cap w hv hc hcap hB)
  subst hv
  clear hB
  by_cases hbig : 1048576 < len
  · go_enter Try.func5, Try.ntmps5
    go_wp2_with fail
    go_ret
    exact ⟨rfl, Below.refl _ _⟩
  · go_enter Try.func5, Try.ntmps5
    go_wp2_with fail
    refine (h0.out).mono ?_
    rintro e w1 ⟨n, u, xs, t, ys, rfl, hl, hl2, hO, hO2, hb⟩
    obtain ⟨ua, uc, rfl, _⟩ := id hO
    obtain ⟨ta, tc, rfl, _⟩ := id hO2
    have z1 := hb.size
    have hb1 := Lib.hid hb
    have hi := im_FamilyJoins n _ _ xs ys _ w1 hO.row hO2.row (Nat.le_refl _) (by omega) (by omega)
    have hs := fun (W : World) (hW : Below w1.heap.size w1 W) => sp_FamilyJoins n _ _ xs ys w1.heap.size W (hO.row.below hW (Nat.le_refl _)) (hO2.row.below hW (Nat.le_refl _)) hW.size (by omega) (by omega)
    have RX1 := Lib.hid hO.row
    have RY1 := Lib.hid hO2.row
    clear hb hO hO2
    rcases (by cases (famB n xs && famB n ys) <;> simp : (famB n xs && famB n ys) = true ∨ (famB n xs && famB n ys) = false) with hbv | hbv
    · rw [hbv] at hi hs
      replace hi := Lib.hid (show Calls _ _ _ _ (ListPost (sortL (pairsTo orI xs ys xs.length)) true w1) from hi)
      replace hs := fun (W : World) (hW : Below w1.heap.size w1 W) => (show Calls _ _ _ _ (ListPost (sortL (pairsTo orI xs ys xs.length)) true W) from hs W hW)
      obtain ⟨T, hT⟩ : ∃ T, sortL (pairsTo orI xs ys xs.length) = T := ⟨_, rfl⟩
      rw [hT] at hi hs
      have hsame : sameB T T = true := decide_eq_true rfl
      obtain ⟨fx, fy⟩ := two_yes hbv
      have lx := famB_len fx
      have ly := famB_len fy
      have fT := famB_len (hT ▸ fam_pairs (fun a b ha hb => orI_set ha hb) fx fy : famB n T = true)
      have hlen := joins_len orI xs ys
      rw [hT] at hlen
      have hc1 := fun (W : World) (v u : Value) (h1 : Row W W.heap.size v ys) (h2 : Row W W.heap.size u xs) => im_FamilyJoins n v u ys xs W.heap.size W h1 h2 (Nat.le_refl _) (by omega) (by omega)
      simp only [fx, fy, Bool.and_true] at hc1
      rw [joins_comm, hT] at hc1
      replace hc1 := Lib.hid (show ∀ (W : World) (v u : Value), Row W W.heap.size v ys → Row W W.heap.size u xs → Calls Try.prog 21 #[.int .i64 n, v, u] W (ListPost T true W) from hc1)
      have hmul : ((xs.length : Nat) : Int) * ((ys.length : Nat) : Int) = ((xs.length * ys.length : Nat) : Int) := by simp
      have hmb : xs.length * ys.length ≤ 256 * 256 := Nat.mul_le_mul lx ly
      obtain ⟨P, hP⟩ : ∃ P, xs.length * ys.length = P := ⟨_, rfl⟩
      rw [hP] at hmul hmb hlen
      replace hP := Lib.hid hP
      have hfin := Lib.hid hlen
      clear hlen
      replace hbv := Lib.hid hbv
      replace fx := Lib.hid fx
      replace fy := Lib.hid fy
      replace hs := Lib.hid hs
      replace hT := Lib.hid hT
      go_wp2_with fail
      refine (hi.out).mono ?_
      rintro e w2 ⟨v2, rfl, hN, hbn⟩
      obtain ⟨c2, d2, rfl, _⟩ := id hN
      have zn := hbn.size
      have RX2 := Lib.hid ((RX1.out.below hbn (Nat.le_refl _)).mono zn)
      have RY2 := Lib.hid ((RY1.out.below hbn (Nat.le_refl _)).mono zn)
      have RT2 := Lib.hid hN.row
      have hb2 := Lib.hid (hb1.out.trans (hbn.mono hb1.out.size))
      have hbr := Lib.hid hbn
      clear hN hbn zn
      have hcs := Lib.hid (hs.out w2 hbr.out)
      go_wp2_with fail
      refine (hcs.out).mono ?_
      rintro e w3 ⟨v3, rfl, hN, hbn⟩
      obtain ⟨c3, d3, rfl, _⟩ := id hN
      have zn := hbn.size
      have RX3 := Lib.hid ((RX2.out.below hbn (Nat.le_refl _)).mono zn)
      have RY3 := Lib.hid ((RY2.out.below hbn (Nat.le_refl _)).mono zn)
      have RT3 := Lib.hid ((RT2.out.below hbn (Nat.le_refl _)).mono zn)
      have RM3 := Lib.hid hN.row
      have hb3 := Lib.hid (hb2.out.trans (hbn.mono hb2.out.size))
      clear hN hbn zn
      have hq3 := same_l _ _ T T w3.heap.size w3 RT3.out RM3.out (by omega) (by omega)
      rw [hsame] at hq3
      replace hq3 := Lib.hid hq3
      go_wp2_with fail
      refine (hq3.out).mono ?_
      rintro e w' ⟨rfl, q3, rfl⟩
      have hb4 := Lib.hid (below_drewN hb3.out q3)
      have RX4 := Lib.hid (show Row (w3.drewN q3) (w3.drewN q3).heap.size _ _ from RX3.out.drewN q3)
      have RY4 := Lib.hid (show Row (w3.drewN q3) (w3.drewN q3).heap.size _ _ from RY3.out.drewN q3)
      have RT4 := Lib.hid (show Row (w3.drewN q3) (w3.drewN q3).heap.size _ _ from RT3.out.drewN q3)
      have RM4 := Lib.hid (show Row (w3.drewN q3) (w3.drewN q3).heap.size _ _ from RM3.out.drewN q3)
      obtain ⟨w4, hw4⟩ : ∃ w4, w3.drewN q3 = w4 := ⟨_, rfl⟩
      rw [hw4] at hb4 RX4 RY4 RT4 RM4 ⊢
      replace hw4 := Lib.hid hw4
      go_wp2_with fail
      refine (hc1.out w4 _ _ RY4.out RX4.out).mono ?_
      rintro e w5 ⟨v5, rfl, hN, hbn⟩
      obtain ⟨c5, d5, rfl, _⟩ := id hN
      have zn := hbn.size
      have RX5 := Lib.hid ((RX4.out.below hbn (Nat.le_refl _)).mono zn)
      have RY5 := Lib.hid ((RY4.out.below hbn (Nat.le_refl _)).mono zn)
      have RT5 := Lib.hid ((RT4.out.below hbn (Nat.le_refl _)).mono zn)
      have RM5 := Lib.hid ((RM4.out.below hbn (Nat.le_refl _)).mono zn)
      have RE5 := Lib.hid hN.row
      have hb5 := Lib.hid (hb4.out.trans (hbn.mono hb4.out.size))
      clear hN hbn zn
      have hq5 := same_l _ _ T T w5.heap.size w5 RE5.out RT5.out (by omega) (by omega)
      rw [hsame] at hq5
      replace hq5 := Lib.hid hq5
      go_wp2_with fail
      refine (hq5.out).mono ?_
      rintro e w' ⟨rfl, q5, rfl⟩
      have hb6 := Lib.hid (below_drewN hb5.out q5)
      have RX6 := Lib.hid (show Row (w5.drewN q5) (w5.drewN q5).heap.size _ _ from RX5.out.drewN q5)
      have RY6 := Lib.hid (show Row (w5.drewN q5) (w5.drewN q5).heap.size _ _ from RY5.out.drewN q5)
      have RT6 := Lib.hid (show Row (w5.drewN q5) (w5.drewN q5).heap.size _ _ from RT5.out.drewN q5)
      have RM6 := Lib.hid (show Row (w5.drewN q5) (w5.drewN q5).heap.size _ _ from RM5.out.drewN q5)
      have RE6 := Lib.hid (show Row (w5.drewN q5) (w5.drewN q5).heap.size _ _ from RE5.out.drewN q5)
      obtain ⟨w6, hw6⟩ : ∃ w6, w5.drewN q5 = w6 := ⟨_, rfl⟩
      rw [hw6] at hb6 RX6 RY6 RT6 RM6 RE6 ⊢
      replace hw6 := Lib.hid hw6
      go_wp2_with fail
      go_ret
      exact ⟨ret_bool (by have := hfin.out; simp; omega), hb6.out⟩
    · rw [hbv] at hi hs
      replace hi := Lib.hid (show Calls _ _ _ _ (ListPost [] false w1) from hi)
      replace hs := Lib.hid (fun (W : World) (hW : Below w1.heap.size w1 W) => (show Calls _ _ _ _ (ListPost [] false W) from hs W hW))
      have hsame : sameB ([] : List Int) [] = true := decide_eq_true rfl
      replace hbv := Lib.hid hbv
      go_wp2_with fail
      refine hi.out.mono ?_
      rintro e w2 ⟨v2, rfl, hO2, hb2⟩
      obtain ⟨va, vc, rfl, _⟩ := id hO2
      have z2 := hb2.size
      have hcs := Lib.hid (hs.out w2 hb2)
      replace hO2 := Lib.hid hO2
      replace hb2 := Lib.hid (hb1.out.trans (hb2.mono z1))
      go_wp2_with fail
      refine hcs.out.mono ?_
      rintro e w3 ⟨v3, rfl, hO3, hb3⟩
      obtain ⟨ya, yc, rfl, _⟩ := id hO3
      have z3 := hb3.size
      have hO23 := Lib.hid (hO2.out.below hb3 (Nat.le_refl _))
      replace hO3 := Lib.hid hO3
      replace hb3 := Lib.hid (hb2.out.trans (hb3.mono hb2.out.size))
      have hq : ∀ W, (∃ q, W = w3.drewN q) → Calls Try.prog 16 #[.slice va ([] : List Int).length vc, .slice ya ([] : List Int).length yc] W fun e w' => e = .returned (.bool true) ∧ ∃ n, w' = W.drewN n := by
        rintro W ⟨q, rfl⟩
        have := same_l (.slice va ([] : List Int).length vc) (.slice ya ([] : List Int).length yc) _ _ w3.heap.size (w3.drewN q) ((hO23.out.row.mono z3).drewN q) (hO3.out.row.drewN q) (by simp) (by simp)
        rw [hsame] at this
        exact this
      replace hq := Lib.hid hq
      go_wp2_with fail
      refine (hq.out w3 ⟨0, rfl⟩).mono ?_
      rintro e w4 ⟨rfl, q, rfl⟩
      go_wp2_with fail
      refine (hq.out _ ⟨q, rfl⟩).mono ?_
      rintro e w5 ⟨rfl, q5, rfl⟩
      go_wp2_with fail
      go_ret
      exact ⟨rfl, below_drewN hb3.out _⟩
set_option maxRecDepth 100000 in
set_option maxHeartbeats 4000000 in
theorem law_FnMeets (v : Value) (a : Option Addr) (len cap : Nat) (w : World) (hv : v = .slice a len cap) (hc : len ≤ cap) (hcap : cap ≤ 9223372036854775807) (hB : Bytes w w.heap.size a len) :
    Calls Try.prog 4 #[v] w fun e w' => e = .returned (.bool true) ∧ Below w.heap.size w w' := by
  have h0 := Lib.hid (draw_FamilyMeets v a len cap w hv hc hcap hB)
  subst hv
  clear hB
  by_cases hbig : 1048576 < len
  · go_enter Try.func4, Try.ntmps4
    go_wp2_with fail
    go_ret
    exact ⟨rfl, Below.refl _ _⟩
  · go_enter Try.func4, Try.ntmps4
    go_wp2_with fail
    refine (h0.out).mono ?_
    rintro e w1 ⟨n, u, xs, t, ys, rfl, hl, hl2, hO, hO2, hb⟩
    obtain ⟨ua, uc, rfl, _⟩ := id hO
    obtain ⟨ta, tc, rfl, _⟩ := id hO2
    have z1 := hb.size
    have hb1 := Lib.hid hb
    have hi := im_FamilyMeets n _ _ xs ys _ w1 hO.row hO2.row (Nat.le_refl _) (by omega) (by omega)
    have hs := fun (W : World) (hW : Below w1.heap.size w1 W) => sp_FamilyMeets n _ _ xs ys w1.heap.size W (hO.row.below hW (Nat.le_refl _)) (hO2.row.below hW (Nat.le_refl _)) hW.size (by omega) (by omega)
    have RX1 := Lib.hid hO.row
    have RY1 := Lib.hid hO2.row
    clear hb hO hO2
    rcases (by cases (famB n xs && famB n ys) <;> simp : (famB n xs && famB n ys) = true ∨ (famB n xs && famB n ys) = false) with hbv | hbv
    · rw [hbv] at hi hs
      replace hi := Lib.hid (show Calls _ _ _ _ (ListPost (sortL (pairsTo andI xs ys xs.length)) true w1) from hi)
      replace hs := fun (W : World) (hW : Below w1.heap.size w1 W) => (show Calls _ _ _ _ (ListPost (sortL (pairsTo andI xs ys xs.length)) true W) from hs W hW)
      obtain ⟨T, hT⟩ : ∃ T, sortL (pairsTo andI xs ys xs.length) = T := ⟨_, rfl⟩
      rw [hT] at hi hs
      have hsame : sameB T T = true := decide_eq_true rfl
      obtain ⟨fx, fy⟩ := two_yes hbv
      have lx := famB_len fx
      have ly := famB_len fy
      have fT : famB n T = true := hT ▸ fam_pairs (fun a b ha hb => andI_set ha hb) fx fy
      have lT := famB_len fT
      have fE := fam_other fT
      have fA := fam_other fx
      have fD := fam_other fy
      have lE := famB_len fE
      have lA := famB_len fA
      have lD := famB_len fD
      have hG := meets_other fx fy
      have hc1 := fun (W : World) (v : Value) (h1 : Row W W.heap.size v T) => im_FamilyOther n v T W.heap.size W h1 (Nat.le_refl _) (by omega)
      have hc2 := fun (W : World) (v : Value) (h1 : Row W W.heap.size v xs) => im_FamilyOther n v xs W.heap.size W h1 (Nat.le_refl _) (by omega)
      have hc3 := fun (W : World) (v : Value) (h1 : Row W W.heap.size v ys) => im_FamilyOther n v ys W.heap.size W h1 (Nat.le_refl _) (by omega)
      rw [hT] at hG
      obtain ⟨E, hE⟩ : ∃ E, sortL (T.map (otherI n)) = E := ⟨_, rfl⟩
      obtain ⟨A, hA⟩ : ∃ A, sortL (xs.map (otherI n)) = A := ⟨_, rfl⟩
      obtain ⟨D, hD⟩ : ∃ D, sortL (ys.map (otherI n)) = D := ⟨_, rfl⟩
      rw [hE] at fE lE hc1
      rw [hA] at fA lA hc2
      rw [hD] at fD lD hc3
      rw [hE, hA, hD] at hG
      have hc4 := fun (W : World) (v u : Value) (h1 : Row W W.heap.size v A) (h2 : Row W W.heap.size u D) => im_FamilyJoins n v u A D W.heap.size W h1 h2 (Nat.le_refl _) (by omega) (by omega)
      simp only [fx, fy, fT, fA, fD, Bool.and_true] at hc1 hc2 hc3 hc4
      rw [hG] at hc4
      have hse : sameB E E = true := decide_eq_true rfl
      replace hc1 := Lib.hid (show ∀ (W : World) (v : Value), Row W W.heap.size v T → Calls Try.prog 17 #[.int .i64 n, v] W (ListPost E true W) from hc1)
      replace hc2 := Lib.hid (show ∀ (W : World) (v : Value), Row W W.heap.size v xs → Calls Try.prog 17 #[.int .i64 n, v] W (ListPost A true W) from hc2)
      replace hc3 := Lib.hid (show ∀ (W : World) (v : Value), Row W W.heap.size v ys → Calls Try.prog 17 #[.int .i64 n, v] W (ListPost D true W) from hc3)
      replace hc4 := Lib.hid (show ∀ (W : World) (v u : Value), Row W W.heap.size v A → Row W W.heap.size u D → Calls Try.prog 21 #[.int .i64 n, v, u] W (ListPost E true W) from hc4)
      replace hE := Lib.hid hE
      replace hA := Lib.hid hA
      replace hD := Lib.hid hD
      replace hG := Lib.hid hG
      replace hbv := Lib.hid hbv
      replace fx := Lib.hid fx
      replace fy := Lib.hid fy
      replace fT := Lib.hid fT
      replace fE := Lib.hid fE
      replace fA := Lib.hid fA
      replace fD := Lib.hid fD
      replace hs := Lib.hid hs
      replace hT := Lib.hid hT
      go_wp2_with fail
      refine (hi.out).mono ?_
      rintro e w2 ⟨v2, rfl, hN, hbn⟩
      obtain ⟨c2, d2, rfl, _⟩ := id hN
      have zn := hbn.size
      have RX2 := Lib.hid ((RX1.out.below hbn (Nat.le_refl _)).mono zn)
      have RY2 := Lib.hid ((RY1.out.below hbn (Nat.le_refl _)).mono zn)
      have RT2 := Lib.hid hN.row
      have hb2 := Lib.hid (hb1.out.trans (hbn.mono hb1.out.size))
      have hbr := Lib.hid hbn
      clear hN hbn zn
      have hcs := Lib.hid (hs.out w2 hbr.out)
      go_wp2_with fail
      refine (hcs.out).mono ?_
      rintro e w3 ⟨v3, rfl, hN, hbn⟩
      obtain ⟨c3, d3, rfl, _⟩ := id hN
      have zn := hbn.size
      have RX3 := Lib.hid ((RX2.out.below hbn (Nat.le_refl _)).mono zn)
      have RY3 := Lib.hid ((RY2.out.below hbn (Nat.le_refl _)).mono zn)
      have RT3 := Lib.hid ((RT2.out.below hbn (Nat.le_refl _)).mono zn)
      have RM3 := Lib.hid hN.row
      have hb3 := Lib.hid (hb2.out.trans (hbn.mono hb2.out.size))
      clear hN hbn zn
      have hq3 := same_l _ _ T T w3.heap.size w3 RT3.out RM3.out (by omega) (by omega)
      rw [hsame] at hq3
      replace hq3 := Lib.hid hq3
      go_wp2_with fail
      refine (hq3.out).mono ?_
      rintro e w' ⟨rfl, q3, rfl⟩
      have hb4 := Lib.hid (below_drewN hb3.out q3)
      have RX4 := Lib.hid (show Row (w3.drewN q3) (w3.drewN q3).heap.size _ _ from RX3.out.drewN q3)
      have RY4 := Lib.hid (show Row (w3.drewN q3) (w3.drewN q3).heap.size _ _ from RY3.out.drewN q3)
      have RT4 := Lib.hid (show Row (w3.drewN q3) (w3.drewN q3).heap.size _ _ from RT3.out.drewN q3)
      have RM4 := Lib.hid (show Row (w3.drewN q3) (w3.drewN q3).heap.size _ _ from RM3.out.drewN q3)
      obtain ⟨w4, hw4⟩ : ∃ w4, w3.drewN q3 = w4 := ⟨_, rfl⟩
      rw [hw4] at hb4 RX4 RY4 RT4 RM4 ⊢
      replace hw4 := Lib.hid hw4
      go_wp2_with fail
      refine (hc1.out w4 _ RT4.out).mono ?_
      rintro e w5 ⟨v5, rfl, hN, hbn⟩
      obtain ⟨c5, d5, rfl, _⟩ := id hN
      have zn := hbn.size
      have RX5 := Lib.hid ((RX4.out.below hbn (Nat.le_refl _)).mono zn)
      have RY5 := Lib.hid ((RY4.out.below hbn (Nat.le_refl _)).mono zn)
      have RT5 := Lib.hid ((RT4.out.below hbn (Nat.le_refl _)).mono zn)
      have RM5 := Lib.hid ((RM4.out.below hbn (Nat.le_refl _)).mono zn)
      have RE5 := Lib.hid hN.row
      have hb5 := Lib.hid (hb4.out.trans (hbn.mono hb4.out.size))
      clear hN hbn zn
      go_wp2_with fail
      refine (hc2.out w5 _ RX5.out).mono ?_
      rintro e w6 ⟨v6, rfl, hN, hbn⟩
      obtain ⟨c6, d6, rfl, _⟩ := id hN
      have zn := hbn.size
      have RX6 := Lib.hid ((RX5.out.below hbn (Nat.le_refl _)).mono zn)
      have RY6 := Lib.hid ((RY5.out.below hbn (Nat.le_refl _)).mono zn)
      have RT6 := Lib.hid ((RT5.out.below hbn (Nat.le_refl _)).mono zn)
      have RM6 := Lib.hid ((RM5.out.below hbn (Nat.le_refl _)).mono zn)
      have RE6 := Lib.hid ((RE5.out.below hbn (Nat.le_refl _)).mono zn)
      have RA6 := Lib.hid hN.row
      have hb6 := Lib.hid (hb5.out.trans (hbn.mono hb5.out.size))
      clear hN hbn zn
      go_wp2_with fail
      refine (hc3.out w6 _ RY6.out).mono ?_
      rintro e w7 ⟨v7, rfl, hN, hbn⟩
      obtain ⟨c7, d7, rfl, _⟩ := id hN
      have zn := hbn.size
      have RX7 := Lib.hid ((RX6.out.below hbn (Nat.le_refl _)).mono zn)
      have RY7 := Lib.hid ((RY6.out.below hbn (Nat.le_refl _)).mono zn)
      have RT7 := Lib.hid ((RT6.out.below hbn (Nat.le_refl _)).mono zn)
      have RM7 := Lib.hid ((RM6.out.below hbn (Nat.le_refl _)).mono zn)
      have RE7 := Lib.hid ((RE6.out.below hbn (Nat.le_refl _)).mono zn)
      have RA7 := Lib.hid ((RA6.out.below hbn (Nat.le_refl _)).mono zn)
      have RD7 := Lib.hid hN.row
      have hb7 := Lib.hid (hb6.out.trans (hbn.mono hb6.out.size))
      clear hN hbn zn
      go_wp2_with fail
      refine (hc4.out w7 _ _ RA7.out RD7.out).mono ?_
      rintro e w8 ⟨v8, rfl, hN, hbn⟩
      obtain ⟨c8, d8, rfl, _⟩ := id hN
      have zn := hbn.size
      have RX8 := Lib.hid ((RX7.out.below hbn (Nat.le_refl _)).mono zn)
      have RY8 := Lib.hid ((RY7.out.below hbn (Nat.le_refl _)).mono zn)
      have RT8 := Lib.hid ((RT7.out.below hbn (Nat.le_refl _)).mono zn)
      have RM8 := Lib.hid ((RM7.out.below hbn (Nat.le_refl _)).mono zn)
      have RE8 := Lib.hid ((RE7.out.below hbn (Nat.le_refl _)).mono zn)
      have RA8 := Lib.hid ((RA7.out.below hbn (Nat.le_refl _)).mono zn)
      have RD8 := Lib.hid ((RD7.out.below hbn (Nat.le_refl _)).mono zn)
      have RG8 := Lib.hid hN.row
      have hb8 := Lib.hid (hb7.out.trans (hbn.mono hb7.out.size))
      clear hN hbn zn
      have hq8 := same_l _ _ E E w8.heap.size w8 RE8.out RG8.out (by omega) (by omega)
      rw [hse] at hq8
      replace hq8 := Lib.hid hq8
      go_wp2_with fail
      refine (hq8.out).mono ?_
      rintro e w' ⟨rfl, q8, rfl⟩
      have hb9 := Lib.hid (below_drewN hb8.out q8)
      have RX9 := Lib.hid (show Row (w8.drewN q8) (w8.drewN q8).heap.size _ _ from RX8.out.drewN q8)
      have RY9 := Lib.hid (show Row (w8.drewN q8) (w8.drewN q8).heap.size _ _ from RY8.out.drewN q8)
      have RT9 := Lib.hid (show Row (w8.drewN q8) (w8.drewN q8).heap.size _ _ from RT8.out.drewN q8)
      have RM9 := Lib.hid (show Row (w8.drewN q8) (w8.drewN q8).heap.size _ _ from RM8.out.drewN q8)
      have RE9 := Lib.hid (show Row (w8.drewN q8) (w8.drewN q8).heap.size _ _ from RE8.out.drewN q8)
      have RA9 := Lib.hid (show Row (w8.drewN q8) (w8.drewN q8).heap.size _ _ from RA8.out.drewN q8)
      have RD9 := Lib.hid (show Row (w8.drewN q8) (w8.drewN q8).heap.size _ _ from RD8.out.drewN q8)
      have RG9 := Lib.hid (show Row (w8.drewN q8) (w8.drewN q8).heap.size _ _ from RG8.out.drewN q8)
      obtain ⟨w9, hw9⟩ : ∃ w9, w8.drewN q8 = w9 := ⟨_, rfl⟩
      rw [hw9] at hb9 RX9 RY9 RT9 RM9 RE9 RA9 RD9 RG9 ⊢
      replace hw9 := Lib.hid hw9
      go_wp2_with fail
      go_ret
      exact ⟨rfl, hb9.out⟩
    · rw [hbv] at hi hs
      replace hi := Lib.hid (show Calls _ _ _ _ (ListPost [] false w1) from hi)
      replace hs := Lib.hid (fun (W : World) (hW : Below w1.heap.size w1 W) => (show Calls _ _ _ _ (ListPost [] false W) from hs W hW))
      have hsame : sameB ([] : List Int) [] = true := decide_eq_true rfl
      replace hbv := Lib.hid hbv
      go_wp2_with fail
      refine hi.out.mono ?_
      rintro e w2 ⟨v2, rfl, hO2, hb2⟩
      obtain ⟨va, vc, rfl, _⟩ := id hO2
      have z2 := hb2.size
      have hcs := Lib.hid (hs.out w2 hb2)
      replace hO2 := Lib.hid hO2
      replace hb2 := Lib.hid (hb1.out.trans (hb2.mono z1))
      go_wp2_with fail
      refine hcs.out.mono ?_
      rintro e w3 ⟨v3, rfl, hO3, hb3⟩
      obtain ⟨ya, yc, rfl, _⟩ := id hO3
      have z3 := hb3.size
      have hO23 := Lib.hid (hO2.out.below hb3 (Nat.le_refl _))
      replace hO3 := Lib.hid hO3
      replace hb3 := Lib.hid (hb2.out.trans (hb3.mono hb2.out.size))
      have hq : ∀ W, (∃ q, W = w3.drewN q) → Calls Try.prog 16 #[.slice va ([] : List Int).length vc, .slice ya ([] : List Int).length yc] W fun e w' => e = .returned (.bool true) ∧ ∃ n, w' = W.drewN n := by
        rintro W ⟨q, rfl⟩
        have := same_l (.slice va ([] : List Int).length vc) (.slice ya ([] : List Int).length yc) _ _ w3.heap.size (w3.drewN q) ((hO23.out.row.mono z3).drewN q) (hO3.out.row.drewN q) (by simp) (by simp)
        rw [hsame] at this
        exact this
      replace hq := Lib.hid hq
      go_wp2_with fail
      refine (hq.out w3 ⟨0, rfl⟩).mono ?_
      rintro e w4 ⟨rfl, q, rfl⟩
      go_wp2_with fail
      refine (hq.out _ ⟨q, rfl⟩).mono ?_
      rintro e w5 ⟨rfl, q5, rfl⟩
      go_wp2_with fail
      go_ret
      exact ⟨rfl, below_drewN hb3.out _⟩
end Go.Proofs.Ythljimmhgpbmbab
