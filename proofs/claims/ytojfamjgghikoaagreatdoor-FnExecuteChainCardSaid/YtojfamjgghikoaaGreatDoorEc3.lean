/- Scripts: the law of chains told. -/
import Derived.Test.YtojfamjgghikoaaGreatDoorEc2
import Derived.Test.YtojfamjgghikoaaGreatDoorAllD
import Derived.Test.YtojfamjgghikoaaGreatDoorSameL
import Derived.BigQuiet
namespace Go.Proofs.YtojfamjgghikoaaGreatDoor
open Go.ChangeShapes Go.WideShapes Go.ChangeAt Go.RowKit Go.Proofs Go.Shelf

/-- what a draw of a number of points and a set gives, and the number's bound. -/
def OneSet6 (w : World) (e : Ending) (w' : World) : Prop := ∃ n s, e = .returned (.tuple #[.int .i64 n, .int .i64 s]) ∧ (n ≤ 6 ∨ n = 9) ∧ Below w.heap.size w w'
set_option maxRecDepth 100000 in
set_option maxHeartbeats 1000000 in
theorem draw_one6 (v : Value) (a : Option Addr) (len cap : Nat) (w : World) (hv : v = .slice a len cap) (hc : len ≤ cap) (hcap : cap ≤ 9223372036854775807) (hB : Bytes w w.heap.size a len) :
    Calls Tryz.prog 42 #[v] w (OneSet6 w) := by
  have h0 := Lib.hid (rd_open v a len cap w hv hc hcap hB)
  clear hv hc hcap hB
  go_enter Tryz.func42, Tryz.ntmps42
  go_wp2_with fail
  refine (h0.out).mono ?_
  rintro e w0 ⟨r, rfl, hr, hR0, hb0, hz0⟩
  have hrw : w.heap.size ≤ r := by omega
  replace hr := Lib.hid hr
  replace hR0 := Lib.hid hR0
  replace hb0 := Lib.hid hb0
  go_wp2_with fail
  refine (rd_points r _ 0 w0 hR0.out (by omega) (by omega)).mono ?_
  rintro e w1 ⟨n, rfl, hn, hR1, hO1⟩
  have hn6 : n ≤ 6 ∨ n = 9 := by unfold drawnPts at hn; omega
  have hn1 : 0 ≤ n ∧ n ≤ 9 := by unfold drawnPts at hn; omega
  obtain ⟨hn1, hn2⟩ := hn1
  have hb1 := Lib.hid (hO1.below hb0.out hrw hb0.out.size)
  replace hR1 := Lib.hid hR1
  clear hn hO1 hR0
  go_wp2_with fail
  refine (draw_set r _ (0 + 2) n w1 hR1.out (by omega) (by omega) hn1 hn2).mono ?_
  rintro e w2 ⟨s, p2, rfl, s1, s2, hR2, q1, q2, hO2⟩
  have hb2 := Lib.hid (hO2.below hb1.out hrw hb1.out.size)
  clear hO2 hR1 hR2
  go_wp2_with fail
  go_ret2
  exact ⟨_, _, rfl, hn6, hb2.out⟩
theorem draw_ChainOf6 (v : Value) (a : Option Addr) (len cap : Nat) (w : World) (hv : v = .slice a len cap) (hc : len ≤ cap) (hcap : cap ≤ 9223372036854775807) (hB : Bytes w w.heap.size a len) :
    Calls Tryz.prog 20 #[v] w (OneSet6 w) := by
  have h0 := Lib.hid (draw_one6 v a len cap w hv hc hcap hB)
  clear hv hc hcap hB
  go_enter Tryz.func20, Tryz.ntmps20
  go_wp2_with fail
  refine (h0.out).mono ?_
  rintro e w1 ⟨n, s, rfl, hn6, hb⟩
  replace hb := Lib.hid hb
  go_wp2_with fail
  go_ret2
  exact ⟨_, _, rfl, hn6, hb.out⟩
set_option maxRecDepth 100000 in
set_option maxHeartbeats 4000000 in
theorem law_FnExecuteChain (v : Value) (a : Option Addr) (len cap : Nat) (w : World) (hv : v = .slice a len cap) (hc : len ≤ cap) (hcap : cap ≤ 9223372036854775807) (hB : Bytes w w.heap.size a len) (hTb : Tab w) :
    Calls Tryz.prog 7 #[v] w fun e w' => e = .returned (.bool true) ∧ Below w.heap.size w w' := by
  have h0 := Lib.hid (draw_ChainOf6 v a len cap w hv hc hcap hB)
  subst hv
  clear hB
  have htl := hTb.lt
  by_cases hbig : 1048576 < len
  · go_enter Tryz.func7, Tryz.ntmps7
    go_wp2_with fail
    go_ret
    exact ⟨rfl, Below.refl _ _⟩
  · go_enter Tryz.func7, Tryz.ntmps7
    go_wp2_with fail
    refine (h0.out).mono ?_
    rintro e w1 ⟨n, s, rfl, hn6, hb⟩
    have z1 := hb.size
    have hb1 := Lib.hid hb
    have hT1 := hTb.below hb htl
    have hi := im_ChainOf n s w1 hT1
    have hs := fun (W : World) (hW : Below w1.heap.size w1 W) => (fun _ => sp_ChainOf n s W) hW
    clear hb
    rcases (by cases setB n s <;> simp : setB n s = true ∨ setB n s = false) with hbv | hbv
    · obtain ⟨n1, n2, _, _⟩ := setB_yes hbv
      obtain ⟨dn, rfl⟩ : ∃ dn : Nat, n = (dn : Int) := ⟨n.toNat, by omega⟩
      have h6 : dn ≤ 6 := by omega
      have hci : chnI (dn : Nat) s = chnL dn s := by unfold chnI; rw [hbv, if_pos rfl, Int.toNat_natCast]
      rw [hci, hbv] at hi hs
      replace hi := Lib.hid (show Calls _ _ _ _ (ListPost (chnL dn s) true w1) from hi)
      replace hs := fun (W : World) (hW : Below w1.heap.size w1 W) => (show Calls _ _ _ _ (ListPost (chnL dn s) true W) from hs W hW)
      obtain ⟨hTx, lT9⟩ := chn6 hbv h6
      have hex := Lib.hid (fun (W : World) (hW : Below w1.heap.size w1 W) => exec_chain dn s W hbv h6 (hT1.below hW hT1.lt))
      have htx := Lib.hid (fun (W : World) (hW : Below w1.heap.size w1 W) => im_text_yes dn s hbv W (hT1.below hW hT1.lt))
      obtain ⟨T, hT⟩ : ∃ T, chnL dn s = T := ⟨_, rfl⟩
      rw [hT] at hi hs hex hTx lT9
      have lT : T.length ≤ 99 := by omega
      have hsame : sameB T T = true := decide_eq_true rfl
      have hd1 := Lib.hid (fun W => law_digits dn W (by omega))
      clear hci
      replace hbv := Lib.hid hbv
      replace hs := Lib.hid hs
      replace hT := Lib.hid hT
      go_wp2_with fail
      refine (hi.out).mono ?_
      rintro e w2 ⟨v2, rfl, hN, hbn⟩
      obtain ⟨c2, d2, rfl, _⟩ := id hN
      have zn := hbn.size
      have RT2 := Lib.hid hN.row
      have hb2 := Lib.hid (hb1.out.trans (hbn.mono hb1.out.size))
      have hbr := Lib.hid hbn
      clear hN hbn zn
      have hcs := Lib.hid (hs.out w2 hbr.out)
      go_wp2_with fail
      refine (hcs.out).mono ?_
      rintro e w3 ⟨v3, rfl, hN, hbn⟩
      obtain ⟨c3, d3, rfl, _⟩ := id hN
      have zn := hbn.size
      have RT3 := Lib.hid ((RT2.out.below hbn (Nat.le_refl _)).mono zn)
      have RM3 := Lib.hid hN.row
      have hb3 := Lib.hid (hb2.out.trans (hbn.mono hb2.out.size))
      have hB13 := Lib.hid (hbr.out.trans (hbn.mono hbr.out.size))
      clear hN hbn zn
      have hq3 := same_l _ _ T T w3.heap.size w3 RT3.out RM3.out (by omega) (by omega)
      rw [hsame] at hq3
      replace hq3 := Lib.hid hq3
      go_wp2_with fail
      refine (hq3.out).mono ?_
      rintro e w' ⟨rfl, q3, rfl⟩
      have hb4 := Lib.hid (below_drewN hb3.out q3)
      have hB14 := Lib.hid (below_drewN hB13.out q3)
      have RT4 := Lib.hid (show Row (w3.drewN q3) (w3.drewN q3).heap.size _ _ from RT3.out.drewN q3)
      have RM4 := Lib.hid (show Row (w3.drewN q3) (w3.drewN q3).heap.size _ _ from RM3.out.drewN q3)
      obtain ⟨w4, hw4⟩ : ∃ w4, w3.drewN q3 = w4 := ⟨_, rfl⟩
      rw [hw4] at hb4 hB14 RT4 RM4 ⊢
      replace hw4 := Lib.hid hw4
      have htxt := Lib.hid (htx.out w4 hB14.out)
      have hsp := Lib.hid (fun W (hW : Below w4.heap.size w4 W) => law_spaced _ T w4.heap.size W (RT4.out.below hW (Nat.le_refl _)) hW.size hTx (by omega))
      have hex4 := Lib.hid (fun W (hW : Below w4.heap.size w4 W) => hex.out W (hB14.out.trans (hW.mono hB14.out.size)))
      obtain ⟨N1, hN1⟩ : ∃ N : ByteArray, (⟨(Lib.decDigits dn).toArray⟩ : ByteArray) = N := ⟨_, rfl⟩
      obtain ⟨X, hX⟩ : ∃ N : ByteArray, txt s dn = N := ⟨_, rfl⟩
      obtain ⟨S, hS⟩ : ∃ N : ByteArray, (⟨(spB T).toArray⟩ : ByteArray) = N := ⟨_, rfl⟩
      obtain ⟨O, hO⟩ : ∃ N : ByteArray, (⟨(ocC T).toArray⟩ : ByteArray) = N := ⟨_, rfl⟩
      rw [hN1] at hd1
      rw [hX] at htxt
      rw [hS] at hsp
      rw [hO] at hex4
      obtain ⟨P1, hP1⟩ : ∃ N : ByteArray, (⟨#[112, 111, 105, 110, 116, 115, 32]⟩ : ByteArray) ++ N1 = N := ⟨_, rfl⟩
      obtain ⟨P2, hP2⟩ : ∃ N : ByteArray, P1 ++ (⟨#[10, 99, 104, 97, 105, 110, 32]⟩ : ByteArray) = N := ⟨_, rfl⟩
      obtain ⟨P3, hP3⟩ : ∃ N : ByteArray, P2 ++ X = N := ⟨_, rfl⟩
      obtain ⟨Q1, hQ1⟩ : ∃ N : ByteArray, (⟨#[111, 107, 10]⟩ : ByteArray) ++ S = N := ⟨_, rfl⟩
      have hA : P3 ++ (⟨#[10]⟩ : ByteArray) = scC dn s := by
        rw [← hP3, ← hP2, ← hP1, ← hN1, ← hX, Lib.decDigits_one (show dn < 10 by omega)]
        apply ByteArray.ext
        simp [scC, txt, dgB]
      have hZ : Q1 ++ (⟨#[10, 115, 101, 116, 115, 32, 48, 10]⟩ : ByteArray) = O := by
        rw [← hQ1, ← hS, ← hO]
        apply ByteArray.ext
        simp [ocC]
      have sN1 : N1.size ≤ 2 := by rw [← hN1]; show (Lib.decDigits dn).toArray.size ≤ 2; rw [List.size_toArray]; exact dec_len (by omega)
      have sX : X.size ≤ 6 := by rw [← hX, txt_size]; omega
      have sS : S.size ≤ 400 := by
        have := join_le T hTx
        rw [← hS]; show (spB T).toArray.size ≤ 400; rw [List.size_toArray]; unfold spB; split
        · simp
        · omega
      have sP1 : P1.size ≤ 9 := by rw [← hP1, ByteArray.size_append]; show 7 + _ ≤ 9; omega
      have sP2 : P2.size ≤ 16 := by rw [← hP2, ByteArray.size_append]; show _ + 7 ≤ 16; omega
      have sP3 : P3.size ≤ 22 := by rw [← hP3, ByteArray.size_append]; omega
      have sQ1 : Q1.size ≤ 403 := by rw [← hQ1, ByteArray.size_append]; show 3 + _ ≤ 403; omega
      obtain ⟨U, hU⟩ : ∃ U, scC dn s = U := ⟨_, rfl⟩
      rw [hU] at hA hex4
      replace hU := Lib.hid hU
      replace hN1 := Lib.hid hN1
      replace hX := Lib.hid hX
      replace hS := Lib.hid hS
      replace hO := Lib.hid hO
      replace hTx := Lib.hid hTx
      have hc4 := Lib.hid (Below.refl w4.heap.size w4)
      go_wp2_with fail
      refine (htxt.out).mono ?_
      rintro e w5 ⟨rfl, hbn⟩
      have hc5 := Lib.hid (hc4.out.trans (hbn.mono hc4.out.size))
      clear hbn
      go_wp2_with fail
      refine (hd1.out _).mono ?_
      rintro e w6 ⟨rfl, hbn⟩
      have hc6 := Lib.hid (hc5.out.trans (hbn.mono hc5.out.size))
      clear hbn
      go_wp2_with fail
      refine (hex4.out _ hc6.out).mono ?_
      rintro e w7 ⟨rfl, hbn⟩
      have hc7 := Lib.hid (hc6.out.trans (hbn.mono hc6.out.size))
      clear hbn
      go_wp2_with fail
      refine (hsp.out _ hc7.out).mono ?_
      rintro e w8 ⟨rfl, hbn⟩
      have hc8 := Lib.hid (hc7.out.trans (hbn.mono hc7.out.size))
      clear hbn
      go_wp2_with fail
      go_ret
      exact ⟨by first | rfl | simp, hb4.out.trans (hc8.out.mono hb4.out.size)⟩
    · have hci : chnI n s = [] := by unfold chnI; rw [hbv, if_neg (by simp)]
      rw [hci, hbv] at hi hs
      replace hi := Lib.hid (show Calls _ _ _ _ (ListPost [] false w1) from hi)
      replace hs := Lib.hid (fun (W : World) (hW : Below w1.heap.size w1 W) => (show Calls _ _ _ _ (ListPost [] false W) from hs W hW))
      have hsame : sameB ([] : List Int) [] = true := decide_eq_true rfl
      replace hbv := Lib.hid hbv
      go_wp2_with fail
      refine hi.out.mono ?_
      rintro e w2 ⟨v2, rfl, hO2, hb2⟩
      obtain ⟨va, vc, rfl, _⟩ := id hO2
      have z2 := hb2.size
      have hcs := Lib.hid (hs.out w2 hb2)
      replace hO2 := Lib.hid hO2
      replace hb2 := Lib.hid (hb1.out.trans (hb2.mono z1))
      go_wp2_with fail
      refine hcs.out.mono ?_
      rintro e w3 ⟨v3, rfl, hO3, hb3⟩
      obtain ⟨ya, yc, rfl, _⟩ := id hO3
      have z3 := hb3.size
      have hO23 := Lib.hid (hO2.out.below hb3 (Nat.le_refl _))
      replace hO3 := Lib.hid hO3
      replace hb3 := Lib.hid (hb2.out.trans (hb3.mono hb2.out.size))
      have hq : ∀ W, (∃ q, W = w3.drewN q) → Calls Tryz.prog 17 #[.slice va ([] : List Int).length vc, .slice ya ([] : List Int).length yc] W fun e w' => e = .returned (.bool true) ∧ ∃ n, w' = W.drewN n := by
        rintro W ⟨q, rfl⟩
        have := same_l (.slice va ([] : List Int).length vc) (.slice ya ([] : List Int).length yc) _ _ w3.heap.size (w3.drewN q) ((hO23.out.row.mono z3).drewN q) (hO3.out.row.drewN q) (by simp) (by simp)
        rw [hsame] at this
        exact this
      replace hq := Lib.hid hq
      go_wp2_with fail
      refine (hq.out w3 ⟨0, rfl⟩).mono ?_
      rintro e w4 ⟨rfl, q, rfl⟩
      go_wp2_with fail
      refine (hq.out _ ⟨q, rfl⟩).mono ?_
      rintro e w5 ⟨rfl, q5, rfl⟩
      go_wp2_with fail
      go_ret
      exact ⟨rfl, below_drewN hb3.out _⟩
end Go.Proofs.YtojfamjgghikoaaGreatDoor
