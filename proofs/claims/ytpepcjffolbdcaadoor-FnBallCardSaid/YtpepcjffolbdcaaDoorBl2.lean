/- Laws of chapter 8 over the program: balls. -/
import Derived.Test.YtpepcjffolbdcaaDoorBl1
import Derived.Test.YtpepcjffolbdcaaDoorBn2
import Derived.Test.YtpepcjffolbdcaaDoorBp3
import Derived.Test.YtpepcjffolbdcaaDoorDrawF
import Derived.Test.YtpepcjffolbdcaaDoorAllSL
import Derived.Test.YtpepcjffolbdcaaDoorTr1
import Derived.Test.YtpepcjffolbdcaaDoorFams13
namespace Go.Proofs.YtpepcjffolbdcaaDoor
open Go.ChangeShapes Go.WideShapes Go.ChangeAt Go.RowKit Go.Proofs

/-- what a draw of three numbers gives. -/
def BallDraw (w : World) (e : Ending) (w' : World) : Prop := ∃ n s d, e = .returned (.tuple #[.int .i64 n, .int .i64 s, .int .i64 d]) ∧ Below w.heap.size w w'
set_option maxRecDepth 100000 in
set_option maxHeartbeats 1000000 in
theorem draw_BoundaryBall (v : Value) (a : Option Addr) (len cap : Nat) (w : World) (hv : v = .slice a len cap) (hc : len ≤ cap) (hcap : cap ≤ 9223372036854775807) (hB : Bytes w w.heap.size a len) :
    Calls Tryd.prog 22 #[v] w (BallDraw w) := by
  have h0 := Lib.hid (rd_open v a len cap w hv hc hcap hB)
  clear hv hc hcap hB
  go_enter Tryd.func22, Tryd.ntmps22
  go_wp2_with fail
  refine (h0.out).mono ?_
  rintro e w0 ⟨r, rfl, hr, hR0, hb0, hz0⟩
  have hrw : w.heap.size ≤ r := by omega
  replace hr := Lib.hid hr
  replace hR0 := Lib.hid hR0
  replace hb0 := Lib.hid hb0
  go_wp2_with fail
  refine (rd_points r _ 0 w0 hR0.out (by omega) (by omega)).mono ?_
  rintro e w1 ⟨n, rfl, hn, hR1, hO1⟩
  have hn1 : 0 ≤ n ∧ n ≤ 9 := by unfold drawnPts at hn; omega
  obtain ⟨hn1, hn2⟩ := hn1
  have hb1 := Lib.hid (hO1.below hb0.out hrw hb0.out.size)
  replace hR1 := Lib.hid hR1
  clear hn hO1 hR0
  go_wp2_with fail
  refine (draw_set r _ (0 + 2) n w1 hR1.out (by omega) (by omega) hn1 hn2).mono ?_
  rintro e w2 ⟨s, p2, rfl, s1, s2, hR2, q1, q2, hO2⟩
  have hb2 := Lib.hid (hO2.below hb1.out hrw hb1.out.size)
  replace hR2 := Lib.hid hR2
  clear hO2 hR1
  go_wp2_with fail
  refine (rd_pick r _ p2 7 w2 hR2.out (by omega) (by omega) (by omega)).mono ?_
  rintro e w3 ⟨x, rfl, ⟨x1, x2, x3, x4⟩, hR3, hO3⟩
  have x5 : x < 7 := x3 (by omega)
  have hb3 := Lib.hid (hO3.below hb2.out hrw hb2.out.size)
  replace hR3 := Lib.hid hR3
  clear x3 x4 hO3 hR2
  go_wp2_with fail
  refine (rd_pick r _ (p2 + 1) 20 w3 hR3.out (by omega) (by omega) (by omega)).mono ?_
  rintro e w4 ⟨y, rfl, ⟨y1, y2, y3, y4⟩, hR4, hO4⟩
  have y5 : y < 20 := y3 (by omega)
  have hb4 := Lib.hid (hO4.below hb3.out hrw hb3.out.size)
  clear y3 y4 hO4 hR3 hR4
  go_wp2_with fail
  go_ret3
  exact ⟨_, _, _, rfl, hb4.out⟩
set_option maxRecDepth 100000 in
set_option maxHeartbeats 4000000 in
theorem law_FnBall (v : Value) (a : Option Addr) (len cap : Nat) (w : World) (hv : v = .slice a len cap) (hc : len ≤ cap) (hcap : cap ≤ 9223372036854775807) (hB : Bytes w w.heap.size a len) (hT0 : Tab w) :
    Calls Tryd.prog 6 #[v] w fun e w' => e = .returned (.bool true) ∧ Below w.heap.size w w' := by
  have h0 := Lib.hid (draw_BoundaryBall v a len cap w hv hc hcap hB)
  have htl := hT0.lt
  replace hT0 := Lib.hid hT0
  subst hv
  clear hB
  by_cases hbig : 1048576 < len
  · go_enter Tryd.func6, Tryd.ntmps6
    go_wp2_with fail
    go_ret
    exact ⟨rfl, Below.refl _ _⟩
  · go_enter Tryd.func6, Tryd.ntmps6
    go_wp2_with fail
    refine (h0.out).mono ?_
    rintro e w1 ⟨n, s, d, rfl, hb⟩
    have z1 := hb.size
    have hb1 := Lib.hid hb
    have hi := im_BoundaryBall n s d w1
    have hs := fun (W : World) (hW : Below w1.heap.size w1 W) => (fun _ => sp_BoundaryBall n s d W) hW
    clear hb 
    rcases (by cases blB n s d <;> simp : blB n s d = true ∨ blB n s d = false) with hbv | hbv
    · rw [hbv] at hi hs
      replace hi := Lib.hid (show Calls _ _ _ _ (ListPost (blL n s d) true w1) from hi)
      replace hs := fun (W : World) (hW : Below w1.heap.size w1 W) => (show Calls _ _ _ _ (ListPost (blL n s d) true W) from hs W hW)
      obtain ⟨T, hT⟩ : ∃ T, blL n s d = T := ⟨_, rfl⟩
      rw [hT] at hi hs
      have hsame : sameB T T = true := decide_eq_true rfl
      have hsb0 : setB n s = true := by
        unfold blB at hbv
        rw [Bool.and_eq_true] at hbv
        exact hbv.1
      have hd0 : 0 ≤ d ∧ d ≤ n := by
        unfold blB at hbv
        rw [Bool.and_eq_true] at hbv
        exact of_decide_eq_true hbv.2
      obtain ⟨d0, d1⟩ := hd0
      obtain ⟨n1, n2, s1, s2⟩ := setB_yes hsb0
      have fT := bl_fam (n := n) (s := s) (d := d) n1 n2
      have hln := bl_len hsb0 d0 d1
      have hdm : dimB n d = true := by
        unfold dimB
        rw [ptsB_mk n1 n2]
        exact decide_eq_true ⟨by omega, d1⟩
      have hval : bndV n d = bndN n (d + 1).toNat := by unfold bndV; rw [hdm]; rfl
      rw [← hval] at hln
      rw [hT] at fT hln
      have lT := famB_len fT
      have hc1 := fun (W : World) => im_TraceBound n d W
      rw [hdm] at hc1
      obtain ⟨c, hcv⟩ : ∃ c, bndV n d = c := ⟨_, rfl⟩
      rw [hcv] at hc1 hln
      have q8 : c = ((T.length : Nat) : Int) := hln.symm
      have hc2 := fun (W : World) (v : Value) (h1 : Row W W.heap.size v T) (h2 : Tab W) => im_BoundaryOf n v T W.heap.size W h1 (Nat.le_refl _) (by omega) h2
      rw [fT] at hc2
      obtain ⟨B, hB⟩ : ∃ B, bdL n T = B := ⟨_, rfl⟩
      rw [hB] at hc2
      replace hc2 := fun (W : World) (v : Value) (h1 : Row W W.heap.size v T) (h2 : Tab W) => (show Calls _ _ _ _ (ListPost B true W) from hc2 W v h1 h2)
      have lB : B.length ≤ 256 := by
        rw [← hB]
        exact asc_len256 (asc_sortL _) (fun z hz => nbL_lt fT z (List.mem_filter.1 (mem_sortL.1 hz)).1)
      clear hln
      replace hc1 := Lib.hid hc1
      replace hc2 := Lib.hid hc2
      replace q8 := Lib.hid q8
      replace hB := Lib.hid hB
      replace hcv := Lib.hid hcv
      replace hval := Lib.hid hval
      replace hdm := Lib.hid hdm
      replace fT := Lib.hid fT
      replace hsb0 := Lib.hid hsb0
      replace hbv := Lib.hid hbv
      replace hs := Lib.hid hs
      replace hT := Lib.hid hT
      go_wp2_with fail
      refine (hi.out).mono ?_
      rintro e w2 ⟨v2, rfl, hN, hbn⟩
      obtain ⟨c2, d2, rfl, _⟩ := id hN
      have zn := hbn.size
      have RT2 := Lib.hid hN.row
      have hb2 := Lib.hid (hb1.out.trans (hbn.mono hb1.out.size))
      have hbr := Lib.hid hbn
      clear hN hbn zn
      have hcs := Lib.hid (hs.out w2 hbr.out)
      go_wp2_with fail
      refine (hcs.out).mono ?_
      rintro e w3 ⟨v3, rfl, hN, hbn⟩
      obtain ⟨c3, d3, rfl, _⟩ := id hN
      have zn := hbn.size
      have RT3 := Lib.hid ((RT2.out.below hbn (Nat.le_refl _)).mono zn)
      have RM3 := Lib.hid hN.row
      have hb3 := Lib.hid (hb2.out.trans (hbn.mono hb2.out.size))
      clear hN hbn zn
      have hq3 := same_l _ _ T T w3.heap.size w3 RT3.out RM3.out (by omega) (by omega)
      rw [hsame] at hq3
      replace hq3 := Lib.hid hq3
      go_wp2_with fail
      refine (hq3.out).mono ?_
      rintro e w' ⟨rfl, q3, rfl⟩
      have hb4 := Lib.hid (below_drewN hb3.out q3)
      have RT4 := Lib.hid (show Row (w3.drewN q3) (w3.drewN q3).heap.size _ _ from RT3.out.drewN q3)
      have RM4 := Lib.hid (show Row (w3.drewN q3) (w3.drewN q3).heap.size _ _ from RM3.out.drewN q3)
      obtain ⟨w4, hw4⟩ : ∃ w4, w3.drewN q3 = w4 := ⟨_, rfl⟩
      rw [hw4] at hb4 RT4 RM4 ⊢
      replace hw4 := Lib.hid hw4
      go_wp2_with fail
      refine (hc1.out w4).mono ?_
      rintro e w' ⟨rfl, rfl⟩
      go_wp2_with fail
      refine (hc2.out w4 _ RT4.out (hT0.out.below hb4.out htl)).mono ?_
      rintro e w5 ⟨v5, rfl, hN, hbn⟩
      obtain ⟨c5, d5, rfl, _⟩ := id hN
      have zn := hbn.size
      have RT5 := Lib.hid ((RT4.out.below hbn (Nat.le_refl _)).mono zn)
      have RM5 := Lib.hid ((RM4.out.below hbn (Nat.le_refl _)).mono zn)
      have RB5 := Lib.hid hN.row
      have hb5 := Lib.hid (hb4.out.trans (hbn.mono hb4.out.size))
      clear hN hbn zn
      by_cases hdn : d < n
      · have hdb : (d == n) = false := by simp; omega
        have hx : blB n s (d + 1) = true := by
          unfold blB
          rw [hsb0.out]
          exact decide_eq_true ⟨by omega, by omega⟩
        have fN := bl_fam (n := n) (s := s) (d := d + 1) n1 n2
        have hc3 := fun (W : World) => im_BoundaryBall n s (d + 1) W
        rw [hx] at hc3
        have hbd := bl_bd hsb0.out d0
        rw [hT.out] at hbd
        obtain ⟨N, hN⟩ : ∃ N, blL n s (d + 1) = N := ⟨_, rfl⟩
        rw [hN] at hc3 hbd fN
        have lN := famB_len fN
        replace hc3 := fun (W : World) => (show Calls _ _ _ _ (ListPost N true W) from hc3 W)
        have hc4 := fun (W : World) (v u : Value) (h1 : Row W W.heap.size v N) (h2 : Row W W.heap.size u T) => im_FamilyLess n v u N T W.heap.size W h1 h2 (Nat.le_refl _) (by omega) (by omega)
        simp only [fN, fT.out, Bool.and_true] at hc4
        rw [← hbd, hB.out] at hc4
        have hsb : sameB B B = true := decide_eq_true rfl
        replace hc4 := fun (W : World) (v u : Value) (h1 : Row W W.heap.size v N) (h2 : Row W W.heap.size u T) => (show Calls _ _ _ _ (ListPost B true W) from hc4 W v u h1 h2)
        replace hc3 := Lib.hid hc3
        replace hc4 := Lib.hid hc4
        replace hx := Lib.hid hx
        replace hbd := Lib.hid hbd
        replace hN := Lib.hid hN
        replace fN := Lib.hid fN
        go_wp2_with fail
        refine (hc3.out w5).mono ?_
        rintro e w6 ⟨v6, rfl, hN, hbn⟩
        obtain ⟨c6, d6, rfl, _⟩ := id hN
        have zn := hbn.size
        have RT6 := Lib.hid ((RT5.out.below hbn (Nat.le_refl _)).mono zn)
        have RM6 := Lib.hid ((RM5.out.below hbn (Nat.le_refl _)).mono zn)
        have RB6 := Lib.hid ((RB5.out.below hbn (Nat.le_refl _)).mono zn)
        have RN6 := Lib.hid hN.row
        have hb6 := Lib.hid (hb5.out.trans (hbn.mono hb5.out.size))
        clear hN hbn zn
        go_wp2_with fail
        refine (hc4.out w6 _ _ RN6.out RT6.out).mono ?_
        rintro e w7 ⟨v7, rfl, hN, hbn⟩
        obtain ⟨c7, d7, rfl, _⟩ := id hN
        have zn := hbn.size
        have RT7 := Lib.hid ((RT6.out.below hbn (Nat.le_refl _)).mono zn)
        have RM7 := Lib.hid ((RM6.out.below hbn (Nat.le_refl _)).mono zn)
        have RB7 := Lib.hid ((RB6.out.below hbn (Nat.le_refl _)).mono zn)
        have RN7 := Lib.hid ((RN6.out.below hbn (Nat.le_refl _)).mono zn)
        have RL7 := Lib.hid hN.row
        have hb7 := Lib.hid (hb6.out.trans (hbn.mono hb6.out.size))
        clear hN hbn zn
        have hq5 := q8.out
        have hq6 : (c == ((T.length : Nat) : Int)) = true := by rw [hq5]; simp
        clear hq5
        have hq7 := same_l _ _ B B w7.heap.size w7 RB7.out RL7.out (by omega) (by omega)
        rw [hsb] at hq7
        replace hq7 := Lib.hid hq7
        go_wp2_with fail
        refine (hq7.out).mono ?_
        rintro e w' ⟨rfl, q7, rfl⟩
        have hb8 := Lib.hid (below_drewN hb7.out q7)
        have RT8 := Lib.hid (show Row (w7.drewN q7) (w7.drewN q7).heap.size _ _ from RT7.out.drewN q7)
        have RM8 := Lib.hid (show Row (w7.drewN q7) (w7.drewN q7).heap.size _ _ from RM7.out.drewN q7)
        have RB8 := Lib.hid (show Row (w7.drewN q7) (w7.drewN q7).heap.size _ _ from RB7.out.drewN q7)
        have RN8 := Lib.hid (show Row (w7.drewN q7) (w7.drewN q7).heap.size _ _ from RN7.out.drewN q7)
        have RL8 := Lib.hid (show Row (w7.drewN q7) (w7.drewN q7).heap.size _ _ from RL7.out.drewN q7)
        obtain ⟨w8, hw8⟩ : ∃ w8, w7.drewN q7 = w8 := ⟨_, rfl⟩
        rw [hw8] at hb8 RT8 RM8 RB8 RN8 RL8 ⊢
        replace hw8 := Lib.hid hw8
        go_wp2_with fail
        go_ret
        exact ⟨rfl, hb8.out⟩
      have hdn2 : d = n := by omega
      have hdb : (d == n) = true := by rw [hdn2]; simp
      have hx : blB n s (d + 1) = false := by
        unfold blB
        rw [hsb0.out]
        exact decide_eq_false (by omega)
      have hc3 := fun (W : World) => im_BoundaryBall n s (d + 1) W
      rw [hx] at hc3
      replace hc3 := fun (W : World) => (show Calls _ _ _ _ (ListPost [] false W) from hc3 W)
      have fE : famB n [] = true := famB_mk (ptsB_mk n1 n2) (fun z hz => by cases hz) List.Pairwise.nil
      have hc4 := fun (W : World) (v u : Value) (h1 : Row W W.heap.size v []) (h2 : Row W W.heap.size u T) => im_FamilyLess n v u [] T W.heap.size W h1 h2 (Nat.le_refl _) (by simp) (by omega)
      simp only [fE, fT.out, Bool.and_true] at hc4
      replace hc4 := fun (W : World) (v u : Value) (h1 : Row W W.heap.size v []) (h2 : Row W W.heap.size u T) => (show Calls _ _ _ _ (ListPost [] true W) from hc4 W v u h1 h2)
      have hB0 : B = [] := by
        rw [← hB.out, ← hT.out, hdn2]
        exact bl_top hsb0.out
      subst hB0
      replace hc3 := Lib.hid hc3
      replace hc4 := Lib.hid hc4
      replace hx := Lib.hid hx
      replace fE := Lib.hid fE
      replace hdn2 := Lib.hid hdn2
      go_wp2_with fail
      refine (hc3.out w5).mono ?_
      rintro e w6 ⟨v6, rfl, hN, hbn⟩
      obtain ⟨c6, d6, rfl, _⟩ := id hN
      have zn := hbn.size
      have RT6 := Lib.hid ((RT5.out.below hbn (Nat.le_refl _)).mono zn)
      have RM6 := Lib.hid ((RM5.out.below hbn (Nat.le_refl _)).mono zn)
      have RB6 := Lib.hid ((RB5.out.below hbn (Nat.le_refl _)).mono zn)
      have RN6 := Lib.hid hN.row
      have hb6 := Lib.hid (hb5.out.trans (hbn.mono hb5.out.size))
      clear hN hbn zn
      go_wp2_with fail
      refine (hc4.out w6 _ _ RN6.out RT6.out).mono ?_
      rintro e w7 ⟨v7, rfl, hN, hbn⟩
      obtain ⟨c7, d7, rfl, _⟩ := id hN
      have zn := hbn.size
      have RT7 := Lib.hid ((RT6.out.below hbn (Nat.le_refl _)).mono zn)
      have RM7 := Lib.hid ((RM6.out.below hbn (Nat.le_refl _)).mono zn)
      have RB7 := Lib.hid ((RB6.out.below hbn (Nat.le_refl _)).mono zn)
      have RN7 := Lib.hid ((RN6.out.below hbn (Nat.le_refl _)).mono zn)
      have RL7 := Lib.hid hN.row
      have hb7 := Lib.hid (hb6.out.trans (hbn.mono hb6.out.size))
      clear hN hbn zn
      have hq5 := q8.out
      have hq6 : (c == ((T.length : Nat) : Int)) = true := by rw [hq5]; simp
      clear hq5
      go_wp2_with fail
      go_ret
      exact ⟨rfl, hb7.out⟩
    · rw [hbv] at hi hs
      replace hi := Lib.hid (show Calls _ _ _ _ (ListPost [] false w1) from hi)
      replace hs := Lib.hid (fun (W : World) (hW : Below w1.heap.size w1 W) => (show Calls _ _ _ _ (ListPost [] false W) from hs W hW))
      have hsame : sameB ([] : List Int) [] = true := decide_eq_true rfl
      replace hbv := Lib.hid hbv
      go_wp2_with fail
      refine hi.out.mono ?_
      rintro e w2 ⟨v2, rfl, hO2, hb2⟩
      obtain ⟨va, vc, rfl, _⟩ := id hO2
      have z2 := hb2.size
      have hcs := Lib.hid (hs.out w2 hb2)
      replace hO2 := Lib.hid hO2
      replace hb2 := Lib.hid (hb1.out.trans (hb2.mono z1))
      go_wp2_with fail
      refine hcs.out.mono ?_
      rintro e w3 ⟨v3, rfl, hO3, hb3⟩
      obtain ⟨ya, yc, rfl, _⟩ := id hO3
      have z3 := hb3.size
      have hO23 := Lib.hid (hO2.out.below hb3 (Nat.le_refl _))
      replace hO3 := Lib.hid hO3
      replace hb3 := Lib.hid (hb2.out.trans (hb3.mono hb2.out.size))
      have hq : ∀ W, (∃ q, W = w3.drewN q) → Calls Tryd.prog 12 #[.slice va ([] : List Int).length vc, .slice ya ([] : List Int).length yc] W fun e w' => e = .returned (.bool true) ∧ ∃ n, w' = W.drewN n := by
        rintro W ⟨q, rfl⟩
        have := same_l (.slice va ([] : List Int).length vc) (.slice ya ([] : List Int).length yc) _ _ w3.heap.size (w3.drewN q) ((hO23.out.row.mono z3).drewN q) (hO3.out.row.drewN q) (by simp) (by simp)
        rw [hsame] at this
        exact this
      replace hq := Lib.hid hq
      go_wp2_with fail
      refine (hq.out w3 ⟨0, rfl⟩).mono ?_
      rintro e w4 ⟨rfl, q, rfl⟩
      go_wp2_with fail
      refine (hq.out _ ⟨q, rfl⟩).mono ?_
      rintro e w5 ⟨rfl, q5, rfl⟩
      go_wp2_with fail
      go_ret
      exact ⟨rfl, below_drewN hb3.out _⟩
end Go.Proofs.YtpepcjffolbdcaaDoor
