/- Laws of chapter 8 over the program: first sets in ball order. -/
import Derived.Test.YtpepcjffolbdcaaDoorFs1
import Derived.Test.YtpepcjffolbdcaaDoorDrawF
import Derived.Test.YtpepcjffolbdcaaDoorAllSL
namespace Go.Proofs.YtpepcjffolbdcaaDoor
open Go.ChangeShapes Go.WideShapes Go.ChangeAt Go.RowKit Go.Proofs

set_option maxRecDepth 100000 in
set_option maxHeartbeats 4000000 in
theorem draw_manyf (v : Value) (a : Option Addr) (len cap : Nat) (w : World) (hv : v = .slice a len cap) (hc : len ≤ cap) (hcap : cap ≤ 9223372036854775807) (hB : Bytes w w.heap.size a len) :
    Calls Tryd.prog 69 #[v] w (OneDraw w) := by
  have h0 := Lib.hid (rd_open v a len cap w hv hc hcap hB)
  clear hv hc hcap hB
  go_enter Tryd.func69, Tryd.ntmps69
  go_wp2_with fail
  refine (h0.out).mono ?_
  rintro e w0 ⟨r, rfl, hr, hR0, hb0, hz0⟩
  have hrw : w.heap.size ≤ r := by omega
  replace hr := Lib.hid hr
  replace hR0 := Lib.hid hR0
  replace hb0 := Lib.hid hb0
  go_wp2_with fail
  refine (rd_points r _ 0 w0 hR0.out (by omega) (by omega)).mono ?_
  rintro e w1 ⟨n, rfl, hn, hR1, hO1⟩
  have hn1 : 0 ≤ n ∧ n ≤ 9 := by unfold drawnPts at hn; omega
  obtain ⟨hn1, hn2⟩ := hn1
  have hcp := Lib.hid (cap_at n hn1 hn2)
  have hb1 := Lib.hid (hO1.below hb0.out hrw hb0.out.size)
  replace hR1 := Lib.hid hR1
  clear hn hO1 hR0
  go_wp2_with fail
  refine (hcp.out _).mono ?_
  rintro e w' ⟨c, rfl, ⟨c1, c2⟩, rfl⟩
  go_wp2_with fail
  refine (rd_pick r _ (0 + 2) (c + 1) w1 hR1.out (by omega) (by omega) (by omega)).mono ?_
  rintro e w2 ⟨x, rfl, ⟨x1, x2, x3, x4⟩, hR2, hO2⟩
  have x5 : x < c + 1 := x3 (by omega)
  have hb2 := Lib.hid (hO2.below hb1.out hrw hb1.out.size)
  replace hR2 := Lib.hid hR2
  clear x3 x4 hO2 hR1
  go_wp2_with fail
  refine (rd_pick r _ (0 + 2 + 1) 20 w2 hR2.out (by omega) (by omega) (by omega)).mono ?_
  rintro e w3 ⟨y, rfl, ⟨y1, y2, y3, y4⟩, hR3, hO3⟩
  have y5 : y < 20 := y3 (by omega)
  have hb3 := Lib.hid (hO3.below hb2.out hrw hb2.out.size)
  clear y3 y4 hO3 hR2 hR3
  go_wp2_with fail
  go_ret2
  exact ⟨_, _, rfl, hb3.out⟩
set_option maxRecDepth 100000 in
set_option maxHeartbeats 4000000 in
theorem draw_firstf (v : Value) (a : Option Addr) (len cap : Nat) (w : World) (hv : v = .slice a len cap) (hc : len ≤ cap) (hcap : cap ≤ 9223372036854775807) (hB : Bytes w w.heap.size a len) :
    Calls Tryd.prog 28 #[v] w (OneDraw w) := by
  have h0 := Lib.hid (draw_manyf v a len cap w hv hc hcap hB)
  clear hv hc hcap hB
  go_enter Tryd.func28, Tryd.ntmps28
  go_wp2_with fail
  refine (h0.out).mono ?_
  rintro e w1 ⟨n, s, rfl, hb⟩
  replace hb := Lib.hid hb
  go_wp2_with fail
  go_ret2
  exact ⟨_, _, rfl, hb.out⟩
set_option maxRecDepth 100000 in
set_option maxHeartbeats 4000000 in
theorem law_FnFirstSets (v : Value) (a : Option Addr) (len cap : Nat) (w : World) (hv : v = .slice a len cap) (hc : len ≤ cap) (hcap : cap ≤ 9223372036854775807) (hB : Bytes w w.heap.size a len) (hT0 : Tab w) :
    Calls Tryd.prog 7 #[v] w fun e w' => e = .returned (.bool true) ∧ Below w.heap.size w w' := by
  have h0 := Lib.hid (draw_firstf v a len cap w hv hc hcap hB)
  have htl := hT0.lt
  replace hT0 := Lib.hid hT0
  subst hv
  clear hB
  by_cases hbig : 1048576 < len
  · go_enter Tryd.func7, Tryd.ntmps7
    go_wp2_with fail
    go_ret
    exact ⟨rfl, Below.refl _ _⟩
  · go_enter Tryd.func7, Tryd.ntmps7
    go_wp2_with fail
    refine (h0.out).mono ?_
    rintro e w1 ⟨n, m, rfl, hb⟩
    have z1 := hb.size
    have hb1 := Lib.hid hb
    have hi := im_BoundaryFirst n m w1 (hT0.out.below hb htl)
    have hs := fun (W : World) (hW : Below w1.heap.size w1 W) => (fun _ => sp_BoundaryFirst n m W) hW
    clear hb 
    rcases (by cases fiB n m <;> simp : fiB n m = true ∨ fiB n m = false) with hbv | hbv
    · rw [hbv] at hi hs
      replace hi := Lib.hid (show Calls _ _ _ _ (ListPost (fiL n m) true w1) from hi)
      replace hs := fun (W : World) (hW : Below w1.heap.size w1 W) => (show Calls _ _ _ _ (ListPost (fiL n m) true W) from hs W hW)
      obtain ⟨T, hT⟩ : ∃ T, fiL n m = T := ⟨_, rfl⟩
      rw [hT] at hi hs
      have hsame : sameB T T = true := decide_eq_true rfl
      obtain ⟨n1, n2, m1, m2⟩ := fiB_yes hbv
      have h256 := pow_le256 n1 n2
      have lU := fi_len hbv
      rw [hT] at lU
      have lT : T.length ≤ 256 := by omega
      have q8 : ((T.length : Nat) : Int) = m := by omega
      have hpts := ptsB_mk n1 n2
      replace q8 := Lib.hid q8
      replace lU := Lib.hid lU
      replace hpts := Lib.hid hpts
      replace hbv := Lib.hid hbv
      replace hs := Lib.hid hs
      replace hT := Lib.hid hT
      go_wp2_with fail
      refine (hi.out).mono ?_
      rintro e w2 ⟨v2, rfl, hN, hbn⟩
      obtain ⟨c2, d2, rfl, _⟩ := id hN
      have zn := hbn.size
      have RT2 := Lib.hid hN.row
      have hb2 := Lib.hid (hb1.out.trans (hbn.mono hb1.out.size))
      have hbr := Lib.hid hbn
      clear hN hbn zn
      have hcs := Lib.hid (hs.out w2 hbr.out)
      go_wp2_with fail
      refine (hcs.out).mono ?_
      rintro e w3 ⟨v3, rfl, hN, hbn⟩
      obtain ⟨c3, d3, rfl, _⟩ := id hN
      have zn := hbn.size
      have RT3 := Lib.hid ((RT2.out.below hbn (Nat.le_refl _)).mono zn)
      have RM3 := Lib.hid hN.row
      have hb3 := Lib.hid (hb2.out.trans (hbn.mono hb2.out.size))
      clear hN hbn zn
      have hq3 := same_l _ _ T T w3.heap.size w3 RT3.out RM3.out (by omega) (by omega)
      rw [hsame] at hq3
      replace hq3 := Lib.hid hq3
      go_wp2_with fail
      refine (hq3.out).mono ?_
      rintro e w' ⟨rfl, q3, rfl⟩
      have hb4 := Lib.hid (below_drewN hb3.out q3)
      have RT4 := Lib.hid (show Row (w3.drewN q3) (w3.drewN q3).heap.size _ _ from RT3.out.drewN q3)
      have RM4 := Lib.hid (show Row (w3.drewN q3) (w3.drewN q3).heap.size _ _ from RM3.out.drewN q3)
      obtain ⟨w4, hw4⟩ : ∃ w4, w3.drewN q3 = w4 := ⟨_, rfl⟩
      rw [hw4] at hb4 RT4 RM4 ⊢
      replace hw4 := Lib.hid hw4
      go_wp2_with fail
      go_loopw [9] (fun i wr => ∃ k : Nat, (k : Int) ≤ n + 1 ∧ i = .int .i64 k ∧ Hid (Below w4.heap.size w4 wr)) (fun i _ => (n + 1 - intOf i).toNat)
      case atStart => exact ⟨0, by omega, rfl, Lib.hid (Below.refl _ _)⟩
      case round =>
      obtain ⟨k, hk, rfl, hbel⟩ := hrel
      have hsz := hbel.out.size
      by_cases hlt : (k : Int) ≤ n
      · have k0 : (0 : Int) ≤ (k : Int) := by omega
        have hd : dimB n (k : Nat) = true := by
          unfold dimB
          rw [hpts.out]
          exact decide_eq_true ⟨by omega, hlt⟩
        have hB1 := im_TraceBound n (k : Nat) wr
        have hM1 := im_TraceMost n (k : Nat) wr
        have hval : bndV n (k : Nat) = bndN n ((k : Int) + 1).toNat := by unfold bndV; rw [hd]; rfl
        have key := fun h => first_most n1 n2 k0 hlt (m := m) h
        rw [← hval] at key
        rw [hd] at hB1 hM1
        obtain ⟨c, hc⟩ : ∃ c, bndV n (k : Nat) = c := ⟨_, rfl⟩
        rw [hc] at hB1 key
        replace hM1 := (show Calls _ _ _ _ (ListPost (sortL ((sortL (upI (2 ^ n.toNat))).filter (fun x => decide (cntI x ≤ (k : Int))))) true wr) from hM1)
        obtain ⟨M, hM⟩ : ∃ M, sortL ((sortL (upI (2 ^ n.toNat))).filter (fun x => decide (cntI x ≤ (k : Int)))) = M := ⟨_, rfl⟩
        rw [hM] at hM1 key
        rw [hT.out] at key
        replace hB1 := Lib.hid hB1
        replace hM1 := Lib.hid hM1
        replace hM := Lib.hid hM
        replace hc := Lib.hid hc
        replace hval := Lib.hid hval
        replace hd := Lib.hid hd
        by_cases hcm : c = m
        · obtain rfl := key hcm
          have hcb : (c == m) = true := by rw [hcm]; simp
          replace hcm := Lib.hid hcm
          clear key
          go_wp2_with fail
          refine (hB1.out).mono ?_
          rintro e w' ⟨rfl, rfl⟩
          go_wp2_with fail
          refine (hM1.out).mono ?_
          rintro e w5 ⟨v5, rfl, hN, hbn⟩
          obtain ⟨c5, d5, rfl, _⟩ := id hN
          have hb5 := Lib.hid (hbel.out.trans (hbn.mono hsz))
          have RT5 := Lib.hid ((RT4.out.below hb5.out (Nat.le_refl _)).mono hb5.out.size)
          have hq5 := same_l _ _ M M w5.heap.size w5 hN.row RT5.out (by omega) (by omega)
          rw [hsame] at hq5
          replace hq5 := Lib.hid hq5
          clear hN hbn
          go_wp2_with fail
          refine (hq5.out).mono ?_
          rintro e w' ⟨rfl, q5, rfl⟩
          have hb6 := Lib.hid (below_drewN hb5.out q5)
          obtain ⟨w6, hw6⟩ : ∃ w6, w5.drewN q5 = w6 := ⟨_, rfl⟩
          rw [hw6] at hb6 ⊢
          replace hw6 := Lib.hid hw6
          go_wp2_with fail
          go_roundw
          case rel => exact ⟨k + 1, by omega, by go_num, hb6⟩
          case measure => simp [intOf]; omega
        · have hcb : (c == m) = false := by simp [hcm]
          clear key
          go_wp2_with fail
          refine (hB1.out).mono ?_
          rintro e w' ⟨rfl, rfl⟩
          go_wp2_with fail
          refine (hM1.out).mono ?_
          rintro e w5 ⟨v5, rfl, hN, hbn⟩
          obtain ⟨c5, d5, rfl, _⟩ := id hN
          have hb5 := Lib.hid (hbel.out.trans (hbn.mono hsz))
          clear hN hbn
          go_wp2_with fail
          go_roundw
          case rel => exact ⟨k + 1, by omega, by go_num, hb5⟩
          case measure => simp [intOf]; omega
      have hfin := Lib.hid (hb4.out.trans (hbel.out.mono hb4.out.size))
      have hq5 := q8.out
      have hq6 : (((T.length : Nat) : Int) == m) = true := by rw [hq5]; simp
      clear hq5
      go_wp2_with fail
      go_ret
      exact ⟨rfl, hfin.out⟩
    · rw [hbv] at hi hs
      replace hi := Lib.hid (show Calls _ _ _ _ (ListPost [] false w1) from hi)
      replace hs := Lib.hid (fun (W : World) (hW : Below w1.heap.size w1 W) => (show Calls _ _ _ _ (ListPost [] false W) from hs W hW))
      have hsame : sameB ([] : List Int) [] = true := decide_eq_true rfl
      replace hbv := Lib.hid hbv
      go_wp2_with fail
      refine hi.out.mono ?_
      rintro e w2 ⟨v2, rfl, hO2, hb2⟩
      obtain ⟨va, vc, rfl, _⟩ := id hO2
      have z2 := hb2.size
      have hcs := Lib.hid (hs.out w2 hb2)
      replace hO2 := Lib.hid hO2
      replace hb2 := Lib.hid (hb1.out.trans (hb2.mono z1))
      go_wp2_with fail
      refine hcs.out.mono ?_
      rintro e w3 ⟨v3, rfl, hO3, hb3⟩
      obtain ⟨ya, yc, rfl, _⟩ := id hO3
      have z3 := hb3.size
      have hO23 := Lib.hid (hO2.out.below hb3 (Nat.le_refl _))
      replace hO3 := Lib.hid hO3
      replace hb3 := Lib.hid (hb2.out.trans (hb3.mono hb2.out.size))
      have hq : ∀ W, (∃ q, W = w3.drewN q) → Calls Tryd.prog 12 #[.slice va ([] : List Int).length vc, .slice ya ([] : List Int).length yc] W fun e w' => e = .returned (.bool true) ∧ ∃ n, w' = W.drewN n := by
        rintro W ⟨q, rfl⟩
        have := same_l (.slice va ([] : List Int).length vc) (.slice ya ([] : List Int).length yc) _ _ w3.heap.size (w3.drewN q) ((hO23.out.row.mono z3).drewN q) (hO3.out.row.drewN q) (by simp) (by simp)
        rw [hsame] at this
        exact this
      replace hq := Lib.hid hq
      go_wp2_with fail
      refine (hq.out w3 ⟨0, rfl⟩).mono ?_
      rintro e w4 ⟨rfl, q, rfl⟩
      go_wp2_with fail
      refine (hq.out _ ⟨q, rfl⟩).mono ?_
      rintro e w5 ⟨rfl, q5, rfl⟩
      go_wp2_with fail
      go_ret
      exact ⟨rfl, below_drewN hb3.out _⟩
end Go.Proofs.YtpepcjffolbdcaaDoor
