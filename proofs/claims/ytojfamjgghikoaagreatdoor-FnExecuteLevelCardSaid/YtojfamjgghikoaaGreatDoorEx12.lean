/- Scripts: the law of levels. -/
import Derived.Test.YtojfamjgghikoaaGreatDoorEx11
import Derived.Test.YtojfamjgghikoaaGreatDoorSameL
import Derived.BigQuiet
namespace Go.Proofs.YtojfamjgghikoaaGreatDoor
open Go.ChangeShapes Go.WideShapes Go.ChangeAt Go.RowKit Go.Proofs Go.Shelf

/-- what a draw of a number of points and a size gives, and the number's bound. -/
def OneDraw6 (w : World) (e : Ending) (w' : World) : Prop := ∃ n k, e = .returned (.tuple #[.int .i64 n, .int .i64 k]) ∧ (n ≤ 6 ∨ n = 9) ∧ Below w.heap.size w w'
theorem asc_len99 {n k : Int} {T : List Int} (hT : sortL ((sortL (upI (2 ^ n.toNat))).filter (fun x => cntI x == k)) = T) (hx : ∀ x ∈ T, 0 ≤ x ∧ x < 64) : T.length ≤ 99 := by
  have := asc_len (hT ▸ asc_sortL _ : Asc T) 0 64 (fun z hz => by have := hx z hz; omega)
  omega
set_option maxRecDepth 100000 in
set_option maxHeartbeats 1000000 in
theorem draw_FamilyLevel6 (v : Value) (a : Option Addr) (len cap : Nat) (w : World) (hv : v = .slice a len cap) (hc : len ≤ cap) (hcap : cap ≤ 9223372036854775807) (hB : Bytes w w.heap.size a len) :
    Calls Tryz.prog 14 #[v] w (OneDraw6 w) := by
  have h0 := Lib.hid (rd_open v a len cap w hv hc hcap hB)
  clear hv hc hcap hB
  go_enter Tryz.func14, Tryz.ntmps14
  go_wp2_with fail
  refine (h0.out).mono ?_
  rintro e w0 ⟨r, rfl, hr, hR0, hb0, hz0⟩
  have hrw : w.heap.size ≤ r := by omega
  replace hr := Lib.hid hr
  replace hR0 := Lib.hid hR0
  replace hb0 := Lib.hid hb0
  go_wp2_with fail
  refine (rd_points r _ 0 w0 hR0.out (by omega) (by omega)).mono ?_
  rintro e w1 ⟨n, rfl, hn, hR1, hO1⟩
  have hb1 := Lib.hid (hO1.below hb0.out hrw hb0.out.size)
  replace hR1 := Lib.hid hR1
  have hn6 : n ≤ 6 ∨ n = 9 := by unfold drawnPts at hn; omega
  clear hn hO1 hR0
  go_wp2_with fail
  refine (rd_pick r _ (0 + 2) 8 w1 hR1.out (by omega) (by omega) (by omega)).mono ?_
  rintro e w2 ⟨x, rfl, ⟨x1, x2, x3, x4⟩, hR2, hO2⟩
  have hb2 := Lib.hid (hO2.below hb1.out hrw hb1.out.size)
  replace hR2 := Lib.hid hR2
  clear x3 x4 hO2 hR1
  go_wp2_with fail
  refine (rd_pick r _ (0 + 2 + 1) 20 w2 hR2.out (by omega) (by omega) (by omega)).mono ?_
  rintro e w3 ⟨y, rfl, ⟨y1, y2, y3, y4⟩, hR3, hO3⟩
  have y5 : y < 20 := y3 (by omega)
  have hb3 := Lib.hid (hO3.below hb2.out hrw hb2.out.size)
  clear y3 y4 hO3 hR2 hR3
  go_wp2_with fail
  go_ret2
  exact ⟨_, _, rfl, hn6, hb3.out⟩
set_option maxRecDepth 100000 in
set_option maxHeartbeats 4000000 in
theorem law_FnExecuteLevel (v : Value) (a : Option Addr) (len cap : Nat) (w : World) (hv : v = .slice a len cap) (hc : len ≤ cap) (hcap : cap ≤ 9223372036854775807) (hB : Bytes w w.heap.size a len) :
    Calls Tryz.prog 6 #[v] w fun e w' => e = .returned (.bool true) ∧ Below w.heap.size w w' := by
  have h0 := Lib.hid (draw_FamilyLevel6 v a len cap w hv hc hcap hB)
  subst hv
  clear hB
  by_cases hbig : 1048576 < len
  · go_enter Tryz.func6, Tryz.ntmps6
    go_wp2_with fail
    go_ret
    exact ⟨rfl, Below.refl _ _⟩
  · go_enter Tryz.func6, Tryz.ntmps6
    go_wp2_with fail
    refine (h0.out).mono ?_
    rintro e w1 ⟨n, k, rfl, hn6, hb⟩
    have z1 := hb.size
    have hb1 := Lib.hid hb
    have hi := im_LevelNew n k w1
    have hs := fun (W : World) (hW : Below w1.heap.size w1 W) => (fun _ => sp_FamilyLevel n k W) hW
    clear hb 
    rcases (by cases szB n k <;> simp : szB n k = true ∨ szB n k = false) with hbv | hbv
    · rw [hbv] at hi hs
      replace hi := Lib.hid (show Calls _ _ _ _ (ListPost (sortL ((sortL (upI (2 ^ n.toNat))).filter (fun x => cntI x == k))) true w1) from hi)
      replace hs := fun (W : World) (hW : Below w1.heap.size w1 W) => (show Calls _ _ _ _ (ListPost (sortL ((sortL (upI (2 ^ n.toNat))).filter (fun x => cntI x == k))) true W) from hs W hW)
      obtain ⟨T, hT⟩ : ∃ T, sortL ((sortL (upI (2 ^ n.toNat))).filter (fun x => cntI x == k)) = T := ⟨_, rfl⟩
      rw [hT] at hi hs
      have hsame : sameB T T = true := decide_eq_true rfl
      obtain ⟨n1, n2, k1, k2⟩ := szB_yes hbv
      have hbw := hbv
      obtain ⟨dn, rfl⟩ : ∃ dn : Nat, n = (dn : Int) := ⟨n.toNat, by omega⟩
      obtain ⟨dk, rfl⟩ : ∃ dk : Nat, k = (dk : Int) := ⟨k.toNat, by omega⟩
      have hTy : ∀ x ∈ T, 0 ≤ x ∧ x < 64 := fun x hx => by
        obtain ⟨_, _, h1, h2⟩ := setB_yes (levL_mem n1 n2 (show x ∈ levL (dn : Int) (dk : Int) by unfold levL; rw [hT]; exact hx))
        rw [Int.toNat_natCast] at h2
        have h3 : (2 : Int) ^ dn ≤ 64 := by
          have : ∀ n : Fin 7, (2 : Int) ^ n.val ≤ 64 := by decide
          exact this ⟨dn, by omega⟩
        omega
      have hTx : ∀ x ∈ T, 0 ≤ x ∧ x < 100 := fun x hx => by have := hTy x hx; omega
      have lT : T.length ≤ 99 := asc_len99 hT hTy
      have hex := Lib.hid (fun W => exec_level dn dk W hbv (by omega))
      rw [show levL (dn : Int) (dk : Int) = T from hT] at hex
      have hd1 := Lib.hid (fun W => law_digits dn W (by omega))
      have hd2 := Lib.hid (fun W => law_digits dk W (by omega))
      have hd3 := Lib.hid (fun W => law_digits T.length W (by omega))
      clear hbw
      replace hbv := Lib.hid hbv
      replace hs := Lib.hid hs
      replace hT := Lib.hid hT
      go_wp2_with fail
      refine (hi.out).mono ?_
      rintro e w2 ⟨v2, rfl, hN, hbn⟩
      obtain ⟨c2, d2, rfl, _⟩ := id hN
      have zn := hbn.size
      have RT2 := Lib.hid hN.row
      have hb2 := Lib.hid (hb1.out.trans (hbn.mono hb1.out.size))
      have hbr := Lib.hid hbn
      clear hN hbn zn
      have hcs := Lib.hid (hs.out w2 hbr.out)
      go_wp2_with fail
      refine (hcs.out).mono ?_
      rintro e w3 ⟨v3, rfl, hN, hbn⟩
      obtain ⟨c3, d3, rfl, _⟩ := id hN
      have zn := hbn.size
      have RT3 := Lib.hid ((RT2.out.below hbn (Nat.le_refl _)).mono zn)
      have RM3 := Lib.hid hN.row
      have hb3 := Lib.hid (hb2.out.trans (hbn.mono hb2.out.size))
      clear hN hbn zn
      have hq3 := same_l _ _ T T w3.heap.size w3 RT3.out RM3.out (by omega) (by omega)
      rw [hsame] at hq3
      replace hq3 := Lib.hid hq3
      go_wp2_with fail
      refine (hq3.out).mono ?_
      rintro e w' ⟨rfl, q3, rfl⟩
      have hb4 := Lib.hid (below_drewN hb3.out q3)
      have RT4 := Lib.hid (show Row (w3.drewN q3) (w3.drewN q3).heap.size _ _ from RT3.out.drewN q3)
      have RM4 := Lib.hid (show Row (w3.drewN q3) (w3.drewN q3).heap.size _ _ from RM3.out.drewN q3)
      obtain ⟨w4, hw4⟩ : ∃ w4, w3.drewN q3 = w4 := ⟨_, rfl⟩
      rw [hw4] at hb4 RT4 RM4 ⊢
      replace hw4 := Lib.hid hw4
      have hsp := Lib.hid (fun W (hW : Below w4.heap.size w4 W) => law_spaced _ T w4.heap.size W (RT4.out.below hW (Nat.le_refl _)) hW.size hTx (by omega))
      obtain ⟨N1, hN1⟩ : ∃ N : ByteArray, (⟨(Lib.decDigits dn).toArray⟩ : ByteArray) = N := ⟨_, rfl⟩
      obtain ⟨N2, hN2⟩ : ∃ N : ByteArray, (⟨(Lib.decDigits dk).toArray⟩ : ByteArray) = N := ⟨_, rfl⟩
      obtain ⟨N3, hN3⟩ : ∃ N : ByteArray, (⟨(Lib.decDigits T.length).toArray⟩ : ByteArray) = N := ⟨_, rfl⟩
      obtain ⟨S, hS⟩ : ∃ N : ByteArray, (⟨(spB T).toArray⟩ : ByteArray) = N := ⟨_, rfl⟩
      obtain ⟨O, hO⟩ : ∃ N : ByteArray, (⟨(scO T).toArray⟩ : ByteArray) = N := ⟨_, rfl⟩
      rw [hN1] at hd1
      rw [hN2] at hd2
      rw [hN3] at hd3
      rw [hS] at hsp
      rw [hO] at hex
      obtain ⟨P1, hP1⟩ : ∃ N : ByteArray, (⟨#[112, 111, 105, 110, 116, 115, 32]⟩ : ByteArray) ++ N1 = N := ⟨_, rfl⟩
      obtain ⟨P2, hP2⟩ : ∃ N : ByteArray, P1 ++ (⟨#[10, 108, 101, 118, 101, 108, 32]⟩ : ByteArray) = N := ⟨_, rfl⟩
      obtain ⟨P3, hP3⟩ : ∃ N : ByteArray, P2 ++ N2 = N := ⟨_, rfl⟩
      obtain ⟨Q1, hQ1⟩ : ∃ N : ByteArray, (⟨#[111, 107, 10, 111, 107, 10]⟩ : ByteArray) ++ S = N := ⟨_, rfl⟩
      obtain ⟨Q2, hQ2⟩ : ∃ N : ByteArray, Q1 ++ (⟨#[10, 115, 101, 116, 115, 32]⟩ : ByteArray) = N := ⟨_, rfl⟩
      obtain ⟨Q3, hQ3⟩ : ∃ N : ByteArray, Q2 ++ N3 = N := ⟨_, rfl⟩
      have hA : P3 ++ (⟨#[10, 115, 104, 111, 119, 10]⟩ : ByteArray) = scL dn dk := by
        rw [← hP3, ← hP2, ← hP1, ← hN1, ← hN2, Lib.decDigits_one (show dn < 10 by omega), Lib.decDigits_one (show dk < 10 by omega)]
        rfl
      have hZ : Q3 ++ (⟨#[10]⟩ : ByteArray) = O := by
        rw [← hQ3, ← hQ2, ← hQ1, ← hS, ← hN3, ← hO]
        apply ByteArray.ext
        simp [scO]
      have sN1 : N1.size ≤ 2 := by rw [← hN1]; show (Lib.decDigits dn).toArray.size ≤ 2; rw [List.size_toArray]; exact dec_len (by omega)
      have sN2 : N2.size ≤ 2 := by rw [← hN2]; show (Lib.decDigits dk).toArray.size ≤ 2; rw [List.size_toArray]; exact dec_len (by omega)
      have sN3 : N3.size ≤ 2 := by rw [← hN3]; show (Lib.decDigits T.length).toArray.size ≤ 2; rw [List.size_toArray]; exact dec_len (by omega)
      have sS : S.size ≤ 400 := by
        have := join_le T hTx
        rw [← hS]; show (spB T).toArray.size ≤ 400; rw [List.size_toArray]; unfold spB; split
        · simp
        · omega
      have sP1 : P1.size ≤ 9 := by rw [← hP1, ByteArray.size_append]; show 7 + _ ≤ 9; omega
      have sP2 : P2.size ≤ 16 := by rw [← hP2, ByteArray.size_append]; show _ + 7 ≤ 16; omega
      have sP3 : P3.size ≤ 18 := by rw [← hP3, ByteArray.size_append]; omega
      have sQ1 : Q1.size ≤ 406 := by rw [← hQ1, ByteArray.size_append]; show 6 + _ ≤ 406; omega
      have sQ2 : Q2.size ≤ 412 := by rw [← hQ2, ByteArray.size_append]; show _ + 6 ≤ 412; omega
      have sQ3 : Q3.size ≤ 414 := by rw [← hQ3, ByteArray.size_append]; omega
      obtain ⟨U, hU⟩ : ∃ U, scL dn dk = U := ⟨_, rfl⟩
      rw [hU] at hA hex
      replace hU := Lib.hid hU
      replace hN1 := Lib.hid hN1
      replace hN2 := Lib.hid hN2
      replace hN3 := Lib.hid hN3
      replace hS := Lib.hid hS
      replace hO := Lib.hid hO
      replace hTx := Lib.hid hTx
      replace hTy := Lib.hid hTy
      have hc4 := Lib.hid (Below.refl w4.heap.size w4)
      go_wp2_with fail
      refine (hd1.out _).mono ?_
      rintro e w5 ⟨rfl, hbn⟩
      have hc5 := Lib.hid (hc4.out.trans (hbn.mono hc4.out.size))
      clear hbn
      go_wp2_with fail
      refine (hd2.out _).mono ?_
      rintro e w6 ⟨rfl, hbn⟩
      have hc6 := Lib.hid (hc5.out.trans (hbn.mono hc5.out.size))
      clear hbn
      go_wp2_with fail
      refine (hex.out _).mono ?_
      rintro e w7 ⟨rfl, hbn⟩
      have hc7 := Lib.hid (hc6.out.trans (hbn.mono hc6.out.size))
      clear hbn
      go_wp2_with fail
      refine (hsp.out _ hc7.out).mono ?_
      rintro e w8 ⟨rfl, hbn⟩
      have hc8 := Lib.hid (hc7.out.trans (hbn.mono hc7.out.size))
      clear hbn
      go_wp2_with fail
      refine (hd3.out _).mono ?_
      rintro e w9 ⟨rfl, hbn⟩
      have hc9 := Lib.hid (hc8.out.trans (hbn.mono hc8.out.size))
      clear hbn
      go_wp2_with fail
      go_ret
      exact ⟨by first | rfl | simp, hb4.out.trans (hc9.out.mono hb4.out.size)⟩
    · rw [hbv] at hi hs
      replace hi := Lib.hid (show Calls _ _ _ _ (ListPost [] false w1) from hi)
      replace hs := Lib.hid (fun (W : World) (hW : Below w1.heap.size w1 W) => (show Calls _ _ _ _ (ListPost [] false W) from hs W hW))
      have hsame : sameB ([] : List Int) [] = true := decide_eq_true rfl
      replace hbv := Lib.hid hbv
      go_wp2_with fail
      refine hi.out.mono ?_
      rintro e w2 ⟨v2, rfl, hO2, hb2⟩
      obtain ⟨va, vc, rfl, _⟩ := id hO2
      have z2 := hb2.size
      have hcs := Lib.hid (hs.out w2 hb2)
      replace hO2 := Lib.hid hO2
      replace hb2 := Lib.hid (hb1.out.trans (hb2.mono z1))
      go_wp2_with fail
      refine hcs.out.mono ?_
      rintro e w3 ⟨v3, rfl, hO3, hb3⟩
      obtain ⟨ya, yc, rfl, _⟩ := id hO3
      have z3 := hb3.size
      have hO23 := Lib.hid (hO2.out.below hb3 (Nat.le_refl _))
      replace hO3 := Lib.hid hO3
      replace hb3 := Lib.hid (hb2.out.trans (hb3.mono hb2.out.size))
      have hq : ∀ W, (∃ q, W = w3.drewN q) → Calls Tryz.prog 17 #[.slice va ([] : List Int).length vc, .slice ya ([] : List Int).length yc] W fun e w' => e = .returned (.bool true) ∧ ∃ n, w' = W.drewN n := by
        rintro W ⟨q, rfl⟩
        have := same_l (.slice va ([] : List Int).length vc) (.slice ya ([] : List Int).length yc) _ _ w3.heap.size (w3.drewN q) ((hO23.out.row.mono z3).drewN q) (hO3.out.row.drewN q) (by simp) (by simp)
        rw [hsame] at this
        exact this
      replace hq := Lib.hid hq
      go_wp2_with fail
      refine (hq.out w3 ⟨0, rfl⟩).mono ?_
      rintro e w4 ⟨rfl, q, rfl⟩
      go_wp2_with fail
      refine (hq.out _ ⟨q, rfl⟩).mono ?_
      rintro e w5 ⟨rfl, q5, rfl⟩
      go_wp2_with fail
      go_ret
      exact ⟨rfl, below_drewN hb3.out _⟩
end Go.Proofs.YtojfamjgghikoaaGreatDoor
