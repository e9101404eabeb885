/- Laws of chapter 2 over the program: what is made is a family; the draw of a list of sets. -/
import Derived.Test.YtapijjfhdhkakaaPf1
import Derived.Test.YtapijjfhdhkakaaDrawF
import Derived.Test.YtapijjfhdhkakaaSameL
import Derived.Test.YtapijjfhdhkakaaSpec7
namespace Go.Proofs.Ytapijjfhdhkakaa
open Go.ChangeShapes Go.WideShapes Go.ChangeAt Go.RowKit Go.Proofs

set_option maxRecDepth 100000 in
set_option maxHeartbeats 2000000 in
theorem draw_FamilyOf (v : Value) (a : Option Addr) (len cap : Nat) (w : World) (hv : v = .slice a len cap) (hc : len ≤ cap) (hcap : cap ≤ 9223372036854775807) (hB : Bytes w w.heap.size a len) :
    Calls Try.prog 21 #[v] w (GivenDraw w) := by
  have h0 := Lib.hid (rd_open v a len cap w hv hc hcap hB)
  clear hv hc hcap hB
  go_enter Try.func21, Try.ntmps21
  go_wp2_with fail
  refine (h0.out).mono ?_
  rintro e w0 ⟨r, rfl, hr, hR0, hb0, hz0⟩
  have hrw : w.heap.size ≤ r := by omega
  replace hr := Lib.hid hr
  replace hR0 := Lib.hid hR0
  replace hb0 := Lib.hid hb0
  go_wp2_with fail
  refine (rd_points r _ 0 w0 hR0.out (by omega) (by omega)).mono ?_
  rintro e w1 ⟨n, rfl, hn, hR1, hO1⟩
  have hn1 : 0 ≤ n ∧ n ≤ 9 := by unfold drawnPts at hn; omega
  obtain ⟨hn1, hn2⟩ := hn1
  have hb1 := Lib.hid (hO1.below hb0.out hrw hb0.out.size)
  have hrl1 := hR1.lt
  replace hR1 := Lib.hid hR1
  clear hn hO1 hR0
  go_wp2_with fail
  refine (rd_pick r _ (0 + 2) 7 _ (hR1.out.alloc _) (by omega) (by omega) (by omega)).mono ?_
  rintro e w2 ⟨m, rfl, ⟨m1, m2, m3, m4⟩, hR2, hO2⟩
  have m5 : m < 7 := m3 (by omega)
  have hL2 := Lib.hid ((OwnL.lit w1 (Nat.le_refl w1.heap.size)).only hO2 hrl1)
  have hO12 := Lib.hid (((Only.refl r w1).alloc _).trans hO2)
  replace hR2 := Lib.hid hR2
  clear m3 m4 hO2
  go_wp2_with fail
  go_loopw [6, 8] (fun u i wr => ∃ (k : Nat) (acc : List Int), (k : Int) ≤ m ∧ i = .int .i64 k ∧ acc.length = k ∧ Hid (OwnL wr w1.heap.size u acc) ∧ Hid (∃ p, Rdr wr r w.heap.size p ∧ 0 ≤ p ∧ p ≤ 10 + 100 * (k : Int)) ∧ Hid (Only r w1 wr)) (fun _ i _ => (m - intOf i).toNat)
  case atStart => exact ⟨0, [], by omega, rfl, rfl, hL2, Lib.hid ⟨_, hR2.out, by omega, by omega⟩, hO12⟩
  case round =>
    obtain ⟨k, acc, hk, rfl, hac, hown, hR, hO⟩ := hrel
    have hzz := hO.out.size
    obtain ⟨a', c', rfl⟩ := hown.out.form
    obtain ⟨p, hRp, p0, p1⟩ := hR.out
    clear hR
    replace hac := Lib.hid hac
    by_cases hlt : (k : Int) < m
    · have hset := Lib.hid (draw_set r _ p n wr hRp p0 (by omega) hn1 hn2)
      clear hRp
      go_wp2_with fail
      refine hset.out.mono ?_
      rintro e w4 ⟨z, p', rfl, z1, z2, hR4, q1, q2, hO4⟩
      have hown4 := Lib.hid (hown.out.only hO4 hrl1)
      have hO5 := Lib.hid (hO.out.trans hO4)
      have hlt4 := hO5.out.size
      replace hR4 := Lib.hid hR4
      have hacl : acc.length ≤ 10 := by have := hac.out; omega
      clear hO4
      go_wp2_with (at_builtin; refine app_int rfl _ _ rfl w1.heap.size _ acc rfl (hown4.out.alloc _) z w4.heap.size rfl (cell_new _ _ _) (by omega) (by simp; omega) ?_; intro v' w5 hown5 hb5)
      go_roundw
      case rel => exact ⟨k + 1, acc ++ [z], by omega, by go_num, by rw [List.length_append, hac.out]; rfl, Lib.hid hown5, Lib.hid ⟨p', (hR4.out.alloc _).below hb5 hrl1, q1, by omega⟩, Lib.hid ((hO5.out.alloc _).then hb5 (Nat.le_refl _))⟩
      case measure => simp [intOf]; omega
    · have hbf := Lib.hid (hO.out.below hb1.out hrw hb1.out.size)
      have hz1 := hb1.out.size
      clear hRp
      go_wp2_with fail
      go_ret2
      exact ⟨_, _, acc, rfl, by have := hac.out; omega, hown.out.own.mono (by omega) (Nat.le_refl _), hbf.out⟩
theorem fam_twice {n : Int} {xs : List Int} (h : colB n xs = true) : colB n (xs ++ xs) = true ∧ famOfL n (xs ++ xs) = sortL xs ∧ famOfL n xs = sortL xs ∧ famB n (sortL xs) = true ∧ (sortL xs).length ≤ 256 := by
  obtain ⟨n1, n2, hs⟩ := colB_lt h
  have hc : colB n (xs ++ xs) = true := by
    unfold colB; rw [Bool.and_eq_true]
    exact ⟨ptsB_mk n1 n2, List.all_eq_true.2 fun z hz => hs z ((List.mem_append.1 hz).elim id id)⟩
  refine ⟨hc, ?_, by unfold famOfL; rw [if_pos h], fam_mk n1 n2 hs, colB_len h⟩
  unfold famOfL
  rw [if_pos hc]
  exact asc_ext (asc_sortL _) (asc_sortL _) fun z => by rw [mem_sortL, mem_sortL, List.mem_append, or_self]
-- laws
set_option maxRecDepth 100000 in
set_option maxHeartbeats 4000000 in
theorem law_FnFamilyOf (v : Value) (a : Option Addr) (len cap : Nat) (w : World) (hv : v = .slice a len cap) (hc : len ≤ cap) (hcap : cap ≤ 9223372036854775807) (hB : Bytes w w.heap.size a len) :
    Calls Try.prog 4 #[v] w fun e w' => e = .returned (.bool true) ∧ Below w.heap.size w w' := by
  have h0 := Lib.hid (draw_FamilyOf v a len cap w hv hc hcap hB)
  subst hv
  clear hB
  by_cases hbig : 1048576 < len
  · go_enter Try.func4, Try.ntmps4
    go_wp2_with fail
    go_ret
    exact ⟨rfl, Below.refl _ _⟩
  · go_enter Try.func4, Try.ntmps4
    go_wp2_with fail
    refine (h0.out).mono ?_
    rintro e w1 ⟨n, u, xs, rfl, hl, hO, hb⟩
    obtain ⟨ua, uc, rfl, _⟩ := id hO
    have z1 := hb.size
    have hb1 := Lib.hid hb
    have hi := (show Calls _ _ _ _ (ListPost (ifL (colB n xs) (sortL xs)) (colB n xs) w1) from im_FamilyOf n _ xs _ w1 hO.row (Nat.le_refl _) (by omega))
    have hs := fun (W : World) (hW : Below w1.heap.size w1 W) => (show Calls _ _ _ _ (ListPost (ifL (colB n xs) (sortL xs)) (colB n xs) W) from sp_FamilyOf n _ xs w1.heap.size W (hO.row.below hW (Nat.le_refl _)) hW.size (by omega))
    have RX1 := Lib.hid hO.row
    clear hb hO
    rcases (by cases colB n xs <;> simp : colB n xs = true ∨ colB n xs = false) with hbv | hbv
    · rw [hbv] at hi hs
      replace hi := Lib.hid (show Calls _ _ _ _ (ListPost (sortL xs) true w1) from hi)
      replace hs := fun (W : World) (hW : Below w1.heap.size w1 W) => (show Calls _ _ _ _ (ListPost (sortL xs) true W) from hs W hW)
      obtain ⟨T, hT⟩ : ∃ T, sortL xs = T := ⟨_, rfl⟩
      rw [hT] at hi hs
      have hsame : sameB T T = true := decide_eq_true rfl
      obtain ⟨g1, g2, g3, g4, g5⟩ := fam_twice hbv
      rw [hT] at g2 g4 g5
      have hlen := sort_le' xs
      rw [hT] at hlen
      have hdl : (xs ++ xs).length ≤ 600 := by rw [List.length_append]; omega
      have hc1 := fun (W : World) (v : Value) (h1 : Row W W.heap.size v (xs ++ xs)) => im_FamilyOf n v (xs ++ xs) W.heap.size W h1 (Nat.le_refl _) (by omega)
      have hc2 := fun (W : World) (v : Value) (h1 : Row W W.heap.size v T) => im_FamilyIn n v T W.heap.size W h1 (Nat.le_refl _) (by omega)
      simp only [g1, g2, g4] at hc1 hc2
      obtain ⟨D, hD⟩ : ∃ D, xs ++ xs = D := ⟨_, rfl⟩
      rw [hD] at hc1 hdl
      have hdb := Lib.hid hD
      replace hD := Lib.hid hD
      replace hc1 := Lib.hid (show ∀ (W : World) (v : Value), Row W W.heap.size v D → Calls Try.prog 19 #[.int .i64 n, v] W (ListPost T true W) from hc1)
      replace hc2 := Lib.hid (show ∀ (W : World) (v : Value), Row W W.heap.size v T → Calls Try.prog 17 #[.int .i64 n, v] W (fun e w' => e = .returned (.bool true) ∧ Below W.heap.size W w') from hc2)
      have hfin := Lib.hid hlen
      clear hlen
      replace hbv := Lib.hid hbv
      replace g1 := Lib.hid g1
      replace g2 := Lib.hid g2
      replace g3 := Lib.hid g3
      replace g4 := Lib.hid g4
      replace hs := Lib.hid hs
      replace hT := Lib.hid hT
      go_wp2_with fail
      refine (hi.out).mono ?_
      rintro e w2 ⟨v2, rfl, hN, hbn⟩
      obtain ⟨c2, d2, rfl, _⟩ := id hN
      have zn := hbn.size
      have RX2 := Lib.hid ((RX1.out.below hbn (Nat.le_refl _)).mono zn)
      have RT2 := Lib.hid hN.row
      have hb2 := Lib.hid (hb1.out.trans (hbn.mono hb1.out.size))
      have hbr := Lib.hid hbn
      clear hN hbn zn
      have hcs := Lib.hid (hs.out w2 hbr.out)
      go_wp2_with fail
      refine (hcs.out).mono ?_
      rintro e w3 ⟨v3, rfl, hN, hbn⟩
      obtain ⟨c3, d3, rfl, _⟩ := id hN
      have zn := hbn.size
      have RX3 := Lib.hid ((RX2.out.below hbn (Nat.le_refl _)).mono zn)
      have RT3 := Lib.hid ((RT2.out.below hbn (Nat.le_refl _)).mono zn)
      have RM3 := Lib.hid hN.row
      have hb3 := Lib.hid (hb2.out.trans (hbn.mono hb2.out.size))
      clear hN hbn zn
      have hq3 := same_l _ _ T T w3.heap.size w3 RT3.out RM3.out (by omega) (by omega)
      rw [hsame] at hq3
      replace hq3 := Lib.hid hq3
      go_wp2_with fail
      refine (hq3.out).mono ?_
      rintro e w' ⟨rfl, q3, rfl⟩
      have hb4 := Lib.hid (below_drewN hb3.out q3)
      have RX4 := Lib.hid (show Row (w3.drewN q3) (w3.drewN q3).heap.size _ _ from RX3.out.drewN q3)
      have RT4 := Lib.hid (show Row (w3.drewN q3) (w3.drewN q3).heap.size _ _ from RT3.out.drewN q3)
      have RM4 := Lib.hid (show Row (w3.drewN q3) (w3.drewN q3).heap.size _ _ from RM3.out.drewN q3)
      obtain ⟨w4, hw4⟩ : ∃ w4, w3.drewN q3 = w4 := ⟨_, rfl⟩
      rw [hw4] at hb4 RX4 RT4 RM4 ⊢
      replace hw4 := Lib.hid hw4
      have hl0 := Lib.hid (OwnL.lit w4 (Nat.le_refl w4.heap.size))
      have hbl := Lib.hid ((Below.refl w4.heap.size w4).alloc (Nat.le_refl _) (.cells #[] 3))
      have hrx := Lib.hid (RX4.out.below hbl.out (Nat.le_refl _))
      have hqs : w4.heap.size ≤ (w4.alloc (.cells #[] 3)).heap.size := by rw [World.size_alloc]; exact Nat.le_succ _
      have h0 : ([] : List Int).length ≤ 1073741824 := by simp
      have hl1' : xs.length ≤ 1073741824 := by omega
      go_wp2_with (first
        | (at_builtin; refine app_ints rfl _ _ rfl w4.heap.size _ [] rfl hl0.out ua uc w4.heap.size xs rfl hrx.out h0 hl1' hqs ?_; intro v5 w5 hO5 hb5; rw [List.nil_append] at hO5; obtain ⟨u1, u2, rfl⟩ := hO5.form; have hrx5 := hrx.out.below hb5 (Nat.le_refl _); have hq5 := Nat.le_trans hqs hb5.size; replace hrx5 := Lib.hid hrx5; replace hO5 := Lib.hid hO5; replace hb5 := Lib.hid (hbl.out.trans hb5))
        | (at_builtin; refine app_ints rfl _ _ rfl w4.heap.size _ xs rfl hO5.out ua uc w4.heap.size xs rfl hrx5.out hl1' hl1' hq5 ?_; intro v6 w6 hO6 hb6'; rw [hdb.out] at hO6; obtain ⟨t1, t2, rfl⟩ := hO6.form; replace hO6 := Lib.hid hO6; replace hb6' := Lib.hid (hb5.out.trans hb6')))
      have zn := hb6'.out.size
      have RX5 := Lib.hid ((RX4.out.below hb6'.out (Nat.le_refl _)).mono zn)
      have RT5 := Lib.hid ((RT4.out.below hb6'.out (Nat.le_refl _)).mono zn)
      have RD5 := Lib.hid hO6.out.own.row
      have hb5x := Lib.hid (hb4.out.trans (hb6'.out.mono hb4.out.size))
      obtain ⟨w5x, hw5x⟩ : ∃ w5x, w6 = w5x := ⟨_, rfl⟩
      rw [hw5x] at RX5 RT5 RD5 hb5x ⊢
      replace hw5x := Lib.hid hw5x
      clear hb5 hb6' hO5 hO6 hrx5 hq5 hqs zn
      refine (hc1.out w5x _ RD5.out).mono ?_
      rintro e w6 ⟨v6, rfl, hN, hbn⟩
      obtain ⟨c6, d6, rfl, _⟩ := id hN
      have zn := hbn.size
      have RX6 := Lib.hid ((RX5.out.below hbn (Nat.le_refl _)).mono zn)
      have RT6 := Lib.hid ((RT5.out.below hbn (Nat.le_refl _)).mono zn)
      have RE6 := Lib.hid hN.row
      have hb6 := Lib.hid (hb5x.out.trans (hbn.mono hb5x.out.size))
      clear hN hbn zn
      have hq6 := same_l _ _ T T w6.heap.size w6 RE6.out RT6.out (by omega) (by omega)
      rw [hsame] at hq6
      replace hq6 := Lib.hid hq6
      go_wp2_with fail
      refine (hq6.out).mono ?_
      rintro e w' ⟨rfl, q6, rfl⟩
      have hb7 := Lib.hid (below_drewN hb6.out q6)
      have RX7 := Lib.hid (show Row (w6.drewN q6) (w6.drewN q6).heap.size _ _ from RX6.out.drewN q6)
      have RT7 := Lib.hid (show Row (w6.drewN q6) (w6.drewN q6).heap.size _ _ from RT6.out.drewN q6)
      have RE7 := Lib.hid (show Row (w6.drewN q6) (w6.drewN q6).heap.size _ _ from RE6.out.drewN q6)
      obtain ⟨w7, hw7⟩ : ∃ w7, w6.drewN q6 = w7 := ⟨_, rfl⟩
      rw [hw7] at hb7 RX7 RT7 RE7 ⊢
      replace hw7 := Lib.hid hw7
      go_wp2_with fail
      refine (hc2.out w7 _ RT7.out).mono ?_
      rintro e w8 ⟨rfl, hbn⟩
      have hb8 := Lib.hid (hb7.out.trans (hbn.mono hb7.out.size))
      clear hbn
      go_wp2_with fail
      go_ret
      exact ⟨ret_bool (by have := hfin.out; simp; omega), hb8.out⟩
    · rw [hbv] at hi hs
      replace hi := Lib.hid (show Calls _ _ _ _ (ListPost [] false w1) from hi)
      replace hs := Lib.hid (fun (W : World) (hW : Below w1.heap.size w1 W) => (show Calls _ _ _ _ (ListPost [] false W) from hs W hW))
      have hsame : sameB ([] : List Int) [] = true := decide_eq_true rfl
      replace hbv := Lib.hid hbv
      go_wp2_with fail
      refine hi.out.mono ?_
      rintro e w2 ⟨v2, rfl, hO2, hb2⟩
      obtain ⟨va, vc, rfl, _⟩ := id hO2
      have z2 := hb2.size
      have hcs := Lib.hid (hs.out w2 hb2)
      replace hO2 := Lib.hid hO2
      replace hb2 := Lib.hid (hb1.out.trans (hb2.mono z1))
      go_wp2_with fail
      refine hcs.out.mono ?_
      rintro e w3 ⟨v3, rfl, hO3, hb3⟩
      obtain ⟨ya, yc, rfl, _⟩ := id hO3
      have z3 := hb3.size
      have hO23 := Lib.hid (hO2.out.below hb3 (Nat.le_refl _))
      replace hO3 := Lib.hid hO3
      replace hb3 := Lib.hid (hb2.out.trans (hb3.mono hb2.out.size))
      have hq : ∀ W, (∃ q, W = w3.drewN q) → Calls Try.prog 20 #[.slice va ([] : List Int).length vc, .slice ya ([] : List Int).length yc] W fun e w' => e = .returned (.bool true) ∧ ∃ n, w' = W.drewN n := by
        rintro W ⟨q, rfl⟩
        have := same_l (.slice va ([] : List Int).length vc) (.slice ya ([] : List Int).length yc) _ _ w3.heap.size (w3.drewN q) ((hO23.out.row.mono z3).drewN q) (hO3.out.row.drewN q) (by simp) (by simp)
        rw [hsame] at this
        exact this
      replace hq := Lib.hid hq
      go_wp2_with fail
      refine (hq.out w3 ⟨0, rfl⟩).mono ?_
      rintro e w4 ⟨rfl, q, rfl⟩
      go_wp2_with fail
      refine (hq.out _ ⟨q, rfl⟩).mono ?_
      rintro e w5 ⟨rfl, q5, rfl⟩
      go_wp2_with fail
      go_ret
      exact ⟨rfl, below_drewN hb3.out _⟩
theorem drop_rev' (xs : List Int) (k : Nat) (h : k < xs.length) : (xs.drop k).reverse = (xs.drop (k + 1)).reverse ++ [xs.getD k 0] := by
  have e : xs.drop k = xs.getD k 0 :: xs.drop (k + 1) := by
    rw [List.getD_eq_getElem?_getD, List.getElem?_eq_getElem h]
    exact List.drop_eq_getElem_cons h
  rw [e, List.reverse_cons]
theorem fam_back {n : Int} {xs : List Int} (h : famB n xs = true) : colB n xs.reverse = true ∧ famOfL n xs.reverse = xs := by
  obtain ⟨n1, n2, hs⟩ := famB_all h
  have hc : colB n xs.reverse = true := by
    unfold colB; rw [Bool.and_eq_true]
    exact ⟨ptsB_mk n1 n2, List.all_eq_true.2 fun z hz => hs z (List.mem_reverse.1 hz)⟩
  refine ⟨hc, ?_⟩
  unfold famOfL
  rw [if_pos hc]
  exact asc_ext (asc_sortL _) (famB_asc h) fun z => by rw [mem_sortL, List.mem_reverse]
set_option maxRecDepth 100000 in
set_option maxHeartbeats 4000000 in
theorem law_FnFamily (v : Value) (a : Option Addr) (len cap : Nat) (w : World) (hv : v = .slice a len cap) (hc : len ≤ cap) (hcap : cap ≤ 9223372036854775807) (hB : Bytes w w.heap.size a len) :
    Calls Try.prog 3 #[v] w fun e w' => e = .returned (.bool true) ∧ Below w.heap.size w w' := by
  have h0 := Lib.hid (draw_FamilyIn v a len cap w hv hc hcap hB)
  subst hv
  clear hB
  by_cases hbig : 1048576 < len
  · go_enter Try.func3, Try.ntmps3
    go_wp2_with fail
    go_ret
    exact ⟨rfl, Below.refl _ _⟩
  · go_enter Try.func3, Try.ntmps3
    go_wp2_with fail
    refine (h0.out).mono ?_
    rintro e w1 ⟨n, u, xs, rfl, hl, hO, hb⟩
    obtain ⟨ua, uc, rfl, _⟩ := id hO
    have z1 := hb.size
    have hb1 := Lib.hid hb
    have hi := im_FamilyIn n _ xs _ w1 hO.row (Nat.le_refl _) (by omega)
    have hs := fun (W : World) (hW : Below w1.heap.size w1 W) => sp_FamilyIn n _ xs w1.heap.size W (hO.row.below hW (Nat.le_refl _)) (by omega)
    have RX1 := Lib.hid hO.row
    clear hb hO
    rcases (by cases famB n xs <;> simp : famB n xs = true ∨ famB n xs = false) with hbv | hbv
    · rw [hbv] at hi hs
      obtain ⟨g1, g2⟩ := fam_back hbv
      have lx := famB_len hbv
      have hsx : sameB xs xs = true := decide_eq_true rfl
      have hc1 := fun (W : World) (v : Value) (h1 : Row W W.heap.size v xs.reverse) => im_FamilyOf n v xs.reverse W.heap.size W h1 (Nat.le_refl _) (by rw [List.length_reverse]; omega)
      simp only [g1, g2] at hc1
      replace hc1 := Lib.hid hc1
      replace hi := Lib.hid hi
      replace hs := Lib.hid hs
      replace hbv := Lib.hid hbv
      replace g1 := Lib.hid g1
      replace g2 := Lib.hid g2
      go_wp2_with fail
      refine hi.out.mono ?_
      rintro e w2 ⟨rfl, hbn⟩
      have hcs := Lib.hid (hs.out w2 hbn)
      have zn := hbn.size
      have RX2 := Lib.hid ((RX1.out.below hbn (Nat.le_refl _)).mono zn)
      have hb2 := Lib.hid (hb1.out.trans (hbn.mono z1))
      clear hbn zn
      go_wp2_with fail
      refine hcs.out.mono ?_
      rintro e w' ⟨rfl, q, rfl⟩
      have RX3 := Lib.hid (show Row (w2.drewN q) (w2.drewN q).heap.size _ _ from RX2.out.drewN q)
      have hb3 := Lib.hid (below_drewN hb2.out q)
      obtain ⟨w3, hw3⟩ : ∃ w3, w2.drewN q = w3 := ⟨_, rfl⟩
      rw [hw3] at RX3 hb3 ⊢
      replace hw3 := Lib.hid hw3
      obtain ⟨_, _, e', hcell⟩ := RX3.out
      injection e' with e1 e2 e3
      subst e1 e3
      replace hcell := Lib.hid hcell
      go_wp2_with fail
      go_loopw [7, 8] (fun z i wr => ∃ k : Nat, k ≤ xs.length ∧ i = .int .i64 ((k : Int) - 1) ∧ Hid (OwnL wr w3.heap.size z (xs.drop k).reverse) ∧ Hid (Below w3.heap.size w3 wr)) (fun _ i _ => (intOf i + 1).toNat)
      case atStart => exact ⟨xs.length, Nat.le_refl _, rfl, Lib.hid (by rw [List.drop_length]; exact OwnL.lit w3 (Nat.le_refl _)), Lib.hid ((Below.refl _ _).alloc (Nat.le_refl _) _)⟩
      case round =>
        obtain ⟨k, hk2, rfl, hown, hbel⟩ := hrel
        cases k with
        | zero =>
          have hrow := Lib.hid (show Row wr wr.heap.size _ xs.reverse from by have := hown.out.own.row; simpa using this)
          have hcw := Lib.hid (hc1.out wr _ hrow.out)
          have hz := hbel.out.size
          have RXr := Lib.hid ((RX3.out.below hbel.out (Nat.le_refl _)).mono hz)
          have hbr := Lib.hid (hb3.out.trans (hbel.out.mono hb3.out.size))
          clear hown hbel
          go_wp2_with fail
          refine (hcw.out).mono ?_
          rintro e w5 ⟨v5, rfl, hN, hbn⟩
          obtain ⟨c5, d5, rfl, _⟩ := id hN
          have zn := hbn.size
          have RX5 := Lib.hid ((RXr.out.below hbn (Nat.le_refl _)).mono zn)
          have RE5 := Lib.hid hN.row
          have hb5 := Lib.hid (hbr.out.trans (hbn.mono hbr.out.size))
          clear hN hbn
          have hq := same_l _ _ xs xs w5.heap.size w5 RE5.out RX5.out (by omega) (by omega)
          rw [hsx] at hq
          replace hq := Lib.hid hq
          go_wp2_with fail
          refine (hq.out).mono ?_
          rintro e w' ⟨rfl, q5, rfl⟩
          go_wp2_with fail
          go_ret
          exact ⟨rfl, below_drewN hb5.out q5⟩
        | succ k =>
          have hlt : k < xs.length := by omega
          obtain ⟨b1, o1, rfl, t2, c1⟩ := hcell.out (by omega)
          rw [show ((k + 1 : Nat) : Int) - 1 = (k : Int) by omega]
          have k1 : (0 : Int) ≤ (k : Int) := by omega
          have k2 : (k : Int) < (xs.length : Nat) := by omega
          have e1 : wr.cell? ⟨b1, o1 + k, none⟩ = some (.int .i64 (xs.getD k 0)) := (hbel.out.cell (p := ⟨b1, o1 + k, none⟩) t2).trans (c1 k hlt)
          have hd := Lib.hid (drop_rev' xs k hlt)
          obtain ⟨x, hx⟩ : ∃ x, xs.getD k 0 = x := ⟨_, rfl⟩
          rw [hx] at e1 hd
          clear hx c1
          go_wp2_with (at_builtin; refine app_int rfl _ _ rfl w3.heap.size _ _ rfl (hown.out.alloc _) x wr.heap.size rfl (cell_new _ _ _) (by simp; omega) (by have := hbel.out.size; simp; omega) ?_; intro v' w5 hown5 hb5)
          go_roundw
          case rel => exact ⟨k, by omega, rfl, Lib.hid (hd.out ▸ hown5), Lib.hid ((hbel.out.alloc hbel.out.size _).trans hb5)⟩
          case measure => simp [intOf]
    · rw [hbv] at hi hs
      replace hi := Lib.hid hi
      replace hs := Lib.hid hs
      replace hbv := Lib.hid hbv
      go_wp2_with fail
      refine hi.out.mono ?_
      rintro e w2 ⟨rfl, hbn⟩
      have hcs := Lib.hid (hs.out w2 hbn)
      have hb2 := Lib.hid (hb1.out.trans (hbn.mono z1))
      clear hbn
      go_wp2_with fail
      refine hcs.out.mono ?_
      rintro e w' ⟨rfl, q, rfl⟩
      go_wp2_with fail
      go_ret
      exact ⟨rfl, below_drewN hb2.out q⟩
end Go.Proofs.Ytapijjfhdhkakaa
