/- The law FnDownProfile: a family of parts has room for its shadows. -/
import Derived.Test.YtoglcinfnhhkhaaDp0
import Derived.Test.YtoglcinfnhhkhaaGv6
import Derived.Test.YtoglcinfnhhkhaaSameL
import Derived.Test.YtoglcinfnhhkhaaAllSp
namespace Go.Proofs.Ytoglcinfnhhkhaa
open Go.ChangeShapes Go.WideShapes Go.ChangeAt Go.RowKit Go.Proofs

set_option maxRecDepth 100000 in
set_option maxHeartbeats 4000000 in
theorem law_FnDownProfile (v : Value) (a : Option Addr) (len cap : Nat) (w : World) (hv : v = .slice a len cap) (hc : len ≤ cap) (hcap : cap ≤ 9223372036854775807) (hB : Bytes w w.heap.size a len) :
    Calls Try.prog 3 #[v] w fun e w' => e = .returned (.bool true) ∧ Below w.heap.size w w' := by
  have h0 := Lib.hid (draw_ClosedDown6 v a len cap w hv hc hcap hB)
  subst hv
  clear hB
  by_cases hbig : 1048576 < len
  · go_enter Try.func3, Try.ntmps3
    go_wp2_with fail
    go_ret
    exact ⟨rfl, Below.refl _ _⟩
  · go_enter Try.func3, Try.ntmps3
    go_wp2_with fail
    refine (h0.out).mono ?_
    rintro e w1 ⟨n, u, xs, rfl, hn6, hl, hO, hb⟩
    obtain ⟨ua, uc, rfl, _⟩ := id hO
    have z1 := hb.size
    have hb1 := Lib.hid hb
    have hi := im_Dn n _ xs _ w1 hO.row (Nat.le_refl _) (by omega)
    have hs := fun (W : World) (hW : Below w1.heap.size w1 W) => sp_ClosedDown n _ xs w1.heap.size W (hO.row.below hW (Nat.le_refl _)) hW.size (by omega)
    have RX1 := Lib.hid hO.row
    clear hb hO
    rcases (by cases famB n xs <;> simp : famB n xs = true ∨ famB n xs = false) with hbv | hbv
    · rw [hbv] at hi hs
      replace hi := Lib.hid (show Calls _ _ _ _ (ListPost (clL true xs (2 ^ n.toNat)) true w1) from hi)
      replace hs := fun (W : World) (hW : Below w1.heap.size w1 W) => (show Calls _ _ _ _ (ListPost (clL true xs (2 ^ n.toNat)) true W) from hs W hW)
      obtain ⟨T, hT⟩ : ∃ T, clL true xs (2 ^ n.toNat) = T := ⟨_, rfl⟩
      rw [hT] at hi hs
      have hsame : sameB T T = true := decide_eq_true rfl
      have fx := hbv
      have lx := famB_len fx
      obtain ⟨n1, n2, _⟩ := famB_all fx
      have n6 : n ≤ 6 := by omega
      have fT : famB n T = true := hT ▸ fam_cl true fx
      have lT := famB_len fT
      have hE := prof_down fx n6
      rw [hT] at hE
      have hc1 := fun (W : World) (v : Value) (h1 : Row W W.heap.size v T) => im_FamilyProfile n v T W.heap.size W h1 (Nat.le_refl _) (by omega)
      have lA := profL_len (n.toNat + 1) T
      obtain ⟨A, hA⟩ : ∃ A, profL (n.toNat + 1) T = A := ⟨_, rfl⟩
      rw [hA] at hc1 hE lA
      have hc2 := fun (W : World) (v : Value) (h1 : Row W W.heap.size v A) => im_ShadowProfile n v A W.heap.size W h1 (Nat.le_refl _) (by omega)
      rw [hE] at hc2
      simp only [fT] at hc1
      replace hc1 := Lib.hid (show ∀ (W : World) (v : Value), Row W W.heap.size v T → Calls Try.prog 8 #[.int .i64 n, v] W (ListPost A true W) from hc1)
      replace hc2 := Lib.hid (show ∀ (W : World) (v : Value), Row W W.heap.size v A → Calls Try.prog 9 #[.int .i64 n, v] W (fun e w' => e = .returned (.bool true) ∧ Below W.heap.size W w') from hc2)
      replace hA := Lib.hid hA
      replace hE := Lib.hid hE
      replace lA := Lib.hid lA
      replace hbv := Lib.hid hbv
      replace fx := Lib.hid fx
      replace fT := Lib.hid fT
      replace hs := Lib.hid hs
      replace hT := Lib.hid hT
      go_wp2_with fail
      refine (hi.out).mono ?_
      rintro e w2 ⟨v2, rfl, hN, hbn⟩
      obtain ⟨c2, d2, rfl, _⟩ := id hN
      have zn := hbn.size
      have RX2 := Lib.hid ((RX1.out.below hbn (Nat.le_refl _)).mono zn)
      have RT2 := Lib.hid hN.row
      have hb2 := Lib.hid (hb1.out.trans (hbn.mono hb1.out.size))
      have hbr := Lib.hid hbn
      clear hN hbn zn
      have hcs := Lib.hid (hs.out w2 hbr.out)
      go_wp2_with fail
      refine (hcs.out).mono ?_
      rintro e w3 ⟨v3, rfl, hN, hbn⟩
      obtain ⟨c3, d3, rfl, _⟩ := id hN
      have zn := hbn.size
      have RX3 := Lib.hid ((RX2.out.below hbn (Nat.le_refl _)).mono zn)
      have RT3 := Lib.hid ((RT2.out.below hbn (Nat.le_refl _)).mono zn)
      have RM3 := Lib.hid hN.row
      have hb3 := Lib.hid (hb2.out.trans (hbn.mono hb2.out.size))
      clear hN hbn zn
      have hq3 := same_l _ _ T T w3.heap.size w3 RT3.out RM3.out (by omega) (by omega)
      rw [hsame] at hq3
      replace hq3 := Lib.hid hq3
      go_wp2_with fail
      refine (hq3.out).mono ?_
      rintro e w' ⟨rfl, q3, rfl⟩
      have hb4 := Lib.hid (below_drewN hb3.out q3)
      have RX4 := Lib.hid (show Row (w3.drewN q3) (w3.drewN q3).heap.size _ _ from RX3.out.drewN q3)
      have RT4 := Lib.hid (show Row (w3.drewN q3) (w3.drewN q3).heap.size _ _ from RT3.out.drewN q3)
      have RM4 := Lib.hid (show Row (w3.drewN q3) (w3.drewN q3).heap.size _ _ from RM3.out.drewN q3)
      obtain ⟨w4, hw4⟩ : ∃ w4, w3.drewN q3 = w4 := ⟨_, rfl⟩
      rw [hw4] at hb4 RX4 RT4 RM4 ⊢
      replace hw4 := Lib.hid hw4
      go_wp2_with fail
      refine (hc1.out w4 _ RT4.out).mono ?_
      rintro e w5 ⟨v5, rfl, hN, hbn⟩
      obtain ⟨c5, d5, rfl, _⟩ := id hN
      have zn := hbn.size
      have RX5 := Lib.hid ((RX4.out.below hbn (Nat.le_refl _)).mono zn)
      have RT5 := Lib.hid ((RT4.out.below hbn (Nat.le_refl _)).mono zn)
      have RM5 := Lib.hid ((RM4.out.below hbn (Nat.le_refl _)).mono zn)
      have RA5 := Lib.hid hN.row
      have hb5 := Lib.hid (hb4.out.trans (hbn.mono hb4.out.size))
      clear hN hbn zn
      go_wp2_with fail
      refine (hc2.out w5 _ RA5.out).mono ?_
      rintro e w6 ⟨rfl, hbn⟩
      have hb6 := Lib.hid (hb5.out.trans (hbn.mono hb5.out.size))
      clear hbn
      go_wp2_with fail
      go_ret
      exact ⟨rfl, hb6.out⟩
    · rw [hbv] at hi hs
      replace hi := Lib.hid (show Calls _ _ _ _ (ListPost [] false w1) from hi)
      replace hs := Lib.hid (fun (W : World) (hW : Below w1.heap.size w1 W) => (show Calls _ _ _ _ (ListPost [] false W) from hs W hW))
      have hsame : sameB ([] : List Int) [] = true := decide_eq_true rfl
      replace hbv := Lib.hid hbv
      go_wp2_with fail
      refine hi.out.mono ?_
      rintro e w2 ⟨v2, rfl, hO2, hb2⟩
      obtain ⟨va, vc, rfl, _⟩ := id hO2
      have z2 := hb2.size
      have hcs := Lib.hid (hs.out w2 hb2)
      replace hO2 := Lib.hid hO2
      replace hb2 := Lib.hid (hb1.out.trans (hb2.mono z1))
      go_wp2_with fail
      refine hcs.out.mono ?_
      rintro e w3 ⟨v3, rfl, hO3, hb3⟩
      obtain ⟨ya, yc, rfl, _⟩ := id hO3
      have z3 := hb3.size
      have hO23 := Lib.hid (hO2.out.below hb3 (Nat.le_refl _))
      replace hO3 := Lib.hid hO3
      replace hb3 := Lib.hid (hb2.out.trans (hb3.mono hb2.out.size))
      have hq : ∀ W, (∃ q, W = w3.drewN q) → Calls Try.prog 7 #[.slice va ([] : List Int).length vc, .slice ya ([] : List Int).length yc] W fun e w' => e = .returned (.bool true) ∧ ∃ n, w' = W.drewN n := by
        rintro W ⟨q, rfl⟩
        have := same_l (.slice va ([] : List Int).length vc) (.slice ya ([] : List Int).length yc) _ _ w3.heap.size (w3.drewN q) ((hO23.out.row.mono z3).drewN q) (hO3.out.row.drewN q) (by simp) (by simp)
        rw [hsame] at this
        exact this
      replace hq := Lib.hid hq
      go_wp2_with fail
      refine (hq.out w3 ⟨0, rfl⟩).mono ?_
      rintro e w4 ⟨rfl, q, rfl⟩
      go_wp2_with fail
      refine (hq.out _ ⟨q, rfl⟩).mono ?_
      rintro e w5 ⟨rfl, q5, rfl⟩
      go_wp2_with fail
      go_ret
      exact ⟨rfl, below_drewN hb3.out _⟩
end Go.Proofs.Ytoglcinfnhhkhaa
