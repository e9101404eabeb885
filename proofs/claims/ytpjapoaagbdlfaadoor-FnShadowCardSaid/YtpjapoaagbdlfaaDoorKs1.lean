/- The law FnShadow: shadows of families of one size have at least as many sets as the least. -/
import Derived.Test.YtpjapoaagbdlfaaDoorKs0
import Derived.Test.YtpjapoaagbdlfaaDoorGv7
import Derived.Test.YtpjapoaagbdlfaaDoorSameL
import Derived.Test.YtpjapoaagbdlfaaDoorSizeL
import Derived.Test.YtpjapoaagbdlfaaDoorAllSp
import Derived.Test.YtpjapoaagbdlfaaDoorAllSs
import Derived.Test.YtpjapoaagbdlfaaDoorAllShm
namespace Go.Proofs.YtpjapoaagbdlfaaDoor
open Go.ChangeShapes Go.WideShapes Go.ChangeAt Go.RowKit Go.Proofs

theorem ks_cnt (x : Int) : 0 ≤ cntI x ∧ cntI x ≤ 8 := by
  have h : ∀ k : Nat, cntTo x k ≤ k := fun k => by
    induction k with
    | zero => exact Nat.le_refl _
    | succ k ih => show cntTo x k + (if _ then 1 else 0) ≤ _; split <;> omega
  have := h 8
  unfold cntI; omega
set_option maxRecDepth 100000 in
set_option maxHeartbeats 4000000 in
theorem law_FnShadow (v : Value) (a : Option Addr) (len cap : Nat) (w : World) (hv : v = .slice a len cap) (hc : len ≤ cap) (hcap : cap ≤ 9223372036854775807) (hB : Bytes w w.heap.size a len) (hT0 : Tab w) :
    Calls Tryd.prog 3 #[v] w fun e w' => e = .returned (.bool true) ∧ Below w.heap.size w w' := by
  have h0 := Lib.hid (draw_ShadowOf6 v a len cap w hv hc hcap hB)
  have htl := hT0.lt
  replace hT0 := Lib.hid hT0
  subst hv
  clear hB
  by_cases hbig : 1048576 < len
  · go_enter Tryd.func3, Tryd.ntmps3
    go_wp2_with fail
    go_ret
    exact ⟨rfl, Below.refl _ _⟩
  · go_enter Tryd.func3, Tryd.ntmps3
    go_wp2_with fail
    refine (h0.out).mono ?_
    rintro e w1 ⟨n, u, xs, rfl, hn6, hl, hO, hb⟩
    obtain ⟨ua, uc, rfl, _⟩ := id hO
    have z1 := hb.size
    have hb1 := Lib.hid hb
    have hi := im_ShadowOf n _ xs _ w1 hO.row (Nat.le_refl _) (by omega) (hT0.out.below hb htl)
    have hs := fun (W : World) (hW : Below w1.heap.size w1 W) => sp_ShadowOf n _ xs w1.heap.size W (hO.row.below hW (Nat.le_refl _)) hW.size (by omega)
    have RX1 := Lib.hid hO.row
    clear hb hO
    rcases (by cases famB n xs <;> simp : famB n xs = true ∨ famB n xs = false) with hbv | hbv
    · rw [hbv] at hi hs
      replace hi := Lib.hid (show Calls _ _ _ _ (ListPost (sortL (dnL xs)) true w1) from hi)
      replace hs := fun (W : World) (hW : Below w1.heap.size w1 W) => (show Calls _ _ _ _ (ListPost (sortL (dnL xs)) true W) from hs W hW)
      obtain ⟨T, hT⟩ : ∃ T, sortL (dnL xs) = T := ⟨_, rfl⟩
      rw [hT] at hi hs
      have hsame : sameB T T = true := decide_eq_true rfl
      have fx := hbv
      have lx := famB_len fx
      obtain ⟨n1, n2, hss⟩ := famB_all fx
      have n6 : n ≤ 6 := by omega
      have hsx := fun z hz => setB_lt (hss z hz)
      have fT : famB n T = true := hT ▸ dn_fam fx
      have lT := famB_len fT
      have hce := fun (W : World) (v : Value) (h1 : Row W W.heap.size v xs) => im_ShadowEven n v xs W.heap.size W h1 (Nat.le_refl _) (by omega)
      replace hbv := Lib.hid hbv
      replace fx := Lib.hid fx
      replace fT := Lib.hid fT
      replace hss := Lib.hid hss
      replace hs := Lib.hid hs
      replace hT := Lib.hid hT
      go_wp2_with fail
      refine (hi.out).mono ?_
      rintro e w2 ⟨v2, rfl, hN, hbn⟩
      obtain ⟨c2, d2, rfl, _⟩ := id hN
      have zn := hbn.size
      have RX2 := Lib.hid ((RX1.out.below hbn (Nat.le_refl _)).mono zn)
      have RT2 := Lib.hid hN.row
      have hb2 := Lib.hid (hb1.out.trans (hbn.mono hb1.out.size))
      have hbr := Lib.hid hbn
      clear hN hbn zn
      have hcs := Lib.hid (hs.out w2 hbr.out)
      go_wp2_with fail
      refine (hcs.out).mono ?_
      rintro e w3 ⟨v3, rfl, hN, hbn⟩
      obtain ⟨c3, d3, rfl, _⟩ := id hN
      have zn := hbn.size
      have RX3 := Lib.hid ((RX2.out.below hbn (Nat.le_refl _)).mono zn)
      have RT3 := Lib.hid ((RT2.out.below hbn (Nat.le_refl _)).mono zn)
      have RM3 := Lib.hid hN.row
      have hb3 := Lib.hid (hb2.out.trans (hbn.mono hb2.out.size))
      clear hN hbn zn
      have hq3 := same_l _ _ T T w3.heap.size w3 RT3.out RM3.out (by omega) (by omega)
      rw [hsame] at hq3
      replace hq3 := Lib.hid hq3
      go_wp2_with fail
      refine (hq3.out).mono ?_
      rintro e w' ⟨rfl, q3, rfl⟩
      have hb4 := Lib.hid (below_drewN hb3.out q3)
      have RX4 := Lib.hid (show Row (w3.drewN q3) (w3.drewN q3).heap.size _ _ from RX3.out.drewN q3)
      have RT4 := Lib.hid (show Row (w3.drewN q3) (w3.drewN q3).heap.size _ _ from RT3.out.drewN q3)
      have RM4 := Lib.hid (show Row (w3.drewN q3) (w3.drewN q3).heap.size _ _ from RM3.out.drewN q3)
      obtain ⟨w4, hw4⟩ : ∃ w4, w3.drewN q3 = w4 := ⟨_, rfl⟩
      rw [hw4] at hb4 RX4 RT4 RM4 ⊢
      replace hw4 := Lib.hid hw4
      rcases (by cases evB n xs <;> simp : evB n xs = true ∨ evB n xs = false) with hev | hev
      · obtain ⟨x1, x2⟩ := hsx _ (getD_mem (ks_ev hev).2.1)
        have h0 := (ks_ev hev).2.1
        have hkl := ks_least (k := cntI (xs.getD 0 0)) hev n6 rfl
        rw [hT.out] at hkl
        have hc1 := hce w4 _ RX4.out
        rw [hev] at hc1
        obtain ⟨x, hx⟩ : ∃ x, xs.getD 0 0 = x := ⟨_, rfl⟩
        rw [hx] at x1 x2 hkl
        have hsz := law_size x x1 x2
        obtain ⟨kb1, kb2⟩ := ks_cnt x
        obtain ⟨k, hk⟩ : ∃ k, cntI x = k := ⟨_, rfl⟩
        rw [hk] at hsz hkl kb1 kb2
        have hle := fun W => im_ShadowLeast (xs.length : Nat) k W
        obtain ⟨lB, hlB⟩ : ∃ B, leaB (xs.length : Nat) k = B := ⟨_, rfl⟩
        obtain ⟨lV, hlV⟩ : ∃ B, leaV (xs.length : Nat) k = B := ⟨_, rfl⟩
        rw [hlB, hlV] at hkl hle
        replace hc1 := Lib.hid hc1
        replace hsz := Lib.hid hsz
        replace hle := Lib.hid hle
        replace hlB := Lib.hid hlB
        replace hlV := Lib.hid hlV
        replace hev := Lib.hid hev
        replace hk := Lib.hid hk
        replace hsx := Lib.hid hsx
        go_wp2_with fail
        refine (hc1.out).mono ?_
        rintro e w5 ⟨rfl, hbn⟩
        have RX5 := Lib.hid ((RX4.out.below hbn (Nat.le_refl _)).mono hbn.size)
        have hb5 := Lib.hid (hb4.out.trans (hbn.mono hb4.out.size))
        clear hbn
        obtain ⟨ra, rc, re, hcell⟩ := RX5.out
        injection re with r1 r2 r3
        subst r1 r3
        obtain ⟨bb, oo, rfl, t1, c1⟩ := hcell h0
        have e1 := c1 0 h0
        rw [Nat.add_zero, hx] at e1
        have k1 : (0 : Int) < (xs.length : Nat) := by omega
        replace hx := Lib.hid hx
        clear c1 hcell
        by_cases hk1 : k < 1
        · have hd := decide_eq_true hk1
          go_wp2_with (go_at_call 9; (with_reducible refine (hsz.out _).mono ?_); rintro e w' ⟨rfl, rfl⟩)
          go_ret
          exact ⟨rfl, hb5.out⟩
        · have hd := decide_eq_false hk1
          obtain ⟨hl1, hl2⟩ := hkl (by omega)
          subst hl1
          have hd2 : decide (lV ≤ (T.length : Nat)) = true := decide_eq_true hl2
          go_wp2_with (first | (go_at_call 9; (with_reducible refine (hsz.out _).mono ?_); rintro e w' ⟨rfl, rfl⟩) | (go_at_call 10; (with_reducible refine (hle.out _).mono ?_); rintro e w' ⟨rfl, hb6⟩))
          go_ret
          exact ⟨ret_bool (by simp), hb5.out.trans (hb6.mono hb5.out.size)⟩
      · have hc1 := hce w4 _ RX4.out
        rw [hev] at hc1
        replace hc1 := Lib.hid hc1
        replace hev := Lib.hid hev
        replace hsx := Lib.hid hsx
        go_wp2_with fail
        refine (hc1.out).mono ?_
        rintro e w5 ⟨rfl, hbn⟩
        have hb5 := Lib.hid (hb4.out.trans (hbn.mono hb4.out.size))
        clear hbn
        go_wp2_with fail
        go_ret
        exact ⟨rfl, hb5.out⟩
    · rw [hbv] at hi hs
      replace hi := Lib.hid (show Calls _ _ _ _ (ListPost [] false w1) from hi)
      replace hs := Lib.hid (fun (W : World) (hW : Below w1.heap.size w1 W) => (show Calls _ _ _ _ (ListPost [] false W) from hs W hW))
      have hsame : sameB ([] : List Int) [] = true := decide_eq_true rfl
      replace hbv := Lib.hid hbv
      go_wp2_with fail
      refine hi.out.mono ?_
      rintro e w2 ⟨v2, rfl, hO2, hb2⟩
      obtain ⟨va, vc, rfl, _⟩ := id hO2
      have z2 := hb2.size
      have hcs := Lib.hid (hs.out w2 hb2)
      replace hO2 := Lib.hid hO2
      replace hb2 := Lib.hid (hb1.out.trans (hb2.mono z1))
      go_wp2_with fail
      refine hcs.out.mono ?_
      rintro e w3 ⟨v3, rfl, hO3, hb3⟩
      obtain ⟨ya, yc, rfl, _⟩ := id hO3
      have z3 := hb3.size
      have hO23 := Lib.hid (hO2.out.below hb3 (Nat.le_refl _))
      replace hO3 := Lib.hid hO3
      replace hb3 := Lib.hid (hb2.out.trans (hb3.mono hb2.out.size))
      have hq : ∀ W, (∃ q, W = w3.drewN q) → Calls Tryd.prog 7 #[.slice va ([] : List Int).length vc, .slice ya ([] : List Int).length yc] W fun e w' => e = .returned (.bool true) ∧ ∃ n, w' = W.drewN n := by
        rintro W ⟨q, rfl⟩
        have := same_l (.slice va ([] : List Int).length vc) (.slice ya ([] : List Int).length yc) _ _ w3.heap.size (w3.drewN q) ((hO23.out.row.mono z3).drewN q) (hO3.out.row.drewN q) (by simp) (by simp)
        rw [hsame] at this
        exact this
      replace hq := Lib.hid hq
      go_wp2_with fail
      refine (hq.out w3 ⟨0, rfl⟩).mono ?_
      rintro e w4 ⟨rfl, q, rfl⟩
      go_wp2_with fail
      refine (hq.out _ ⟨q, rfl⟩).mono ?_
      rintro e w5 ⟨rfl, q5, rfl⟩
      go_wp2_with fail
      go_ret
      exact ⟨rfl, below_drewN hb3.out _⟩
end Go.Proofs.YtpjapoaagbdlfaaDoor
