/- Laws of chapter 2 over the program: laws that go over what is answered. -/
import Derived.Test.YtapijjfhdhkakaaPf3
import Derived.Test.YtapijjfhdhkakaaSh1
import Derived.Test.YtapijjfhdhkakaaDrawF
import Derived.Test.YtapijjfhdhkakaaSameL
import Derived.Test.YtapijjfhdhkakaaSizeL
import Derived.BigQuiet
namespace Go.Proofs.Ytapijjfhdhkakaa
open Go.ChangeShapes Go.WideShapes Go.ChangeAt Go.RowKit Go.Proofs

theorem cu_bd (j : Nat) (xs : List Int) : 0 ≤ cuP xs j ∧ cuP xs j ≤ xs.length := by
  unfold cuP
  have := List.length_filter_le (fun x => decide (cntI x < ((j : Nat) : Int))) xs
  omega
theorem cntP_bdq (j : Nat) (xs : List Int) : 0 ≤ cntP xs j ∧ cntP xs j ≤ xs.length := by
  unfold cntP
  have := List.length_filter_le (fun x => cntI x == ((j : Nat) : Int)) xs
  omega
theorem mask_dec2 : ∀ n : Fin 9, ∀ p : Fin 8, 1 ≤ n.val → p.val < n.val → 0 ≤ (2 : Int) ^ n.val - 1 - 2 ^ p.val := by decide +kernel
theorem mask_set {n p : Int} (n1 : 1 ≤ n) (n2 : n ≤ 8) (hp : ptB n p = true) : setB n (2 ^ n.toNat - 1 - 2 ^ p.toNat) = true := by
  have h1 := ptB_yes hp
  have h := mask_dec2 ⟨n.toNat, by omega⟩ ⟨p.toNat, by omega⟩ (by show 1 ≤ n.toNat; omega) (by show p.toNat < n.toNat; omega)
  have hq := (pow8 h1.1 (show p ≤ 7 by omega)).2.1
  exact setB_mk ⟨n1, n2, h, by omega⟩
theorem two_yes5 {a b : Bool} (h : (a && b) = true) : a = true ∧ b = true := by cases a <;> cases b <;> simp_all
set_option maxRecDepth 100000 in
set_option maxHeartbeats 4000000 in
theorem law_FnWithout (v : Value) (a : Option Addr) (len cap : Nat) (w : World) (hv : v = .slice a len cap) (hc : len ≤ cap) (hcap : cap ≤ 9223372036854775807) (hB : Bytes w w.heap.size a len) :
    Calls Try.prog 13 #[v] w fun e w' => e = .returned (.bool true) ∧ Below w.heap.size w w' := by
  have h0 := Lib.hid (draw_FamilyWithout v a len cap w hv hc hcap hB)
  subst hv
  clear hB
  by_cases hbig : 1048576 < len
  · go_enter Try.func13, Try.ntmps13
    go_wp2_with fail
    go_ret
    exact ⟨rfl, Below.refl _ _⟩
  · go_enter Try.func13, Try.ntmps13
    go_wp2_with fail
    refine (h0.out).mono ?_
    rintro e w1 ⟨n, u, xs, p, rfl, hl, hO, hb⟩
    obtain ⟨ua, uc, rfl, _⟩ := id hO
    have z1 := hb.size
    have hb1 := Lib.hid hb
    have hi := im_FamilyWithout n p _ xs _ w1 hO.row (Nat.le_refl _) (by omega)
    have hs := fun (W : World) (hW : Below w1.heap.size w1 W) => sp_FamilyWithout n p _ xs w1.heap.size W (hO.row.below hW (Nat.le_refl _)) hW.size (by omega)
    have RX1 := Lib.hid hO.row
    clear hb hO
    rcases (by cases (ptB n p && famB n xs) <;> simp : (ptB n p && famB n xs) = true ∨ (ptB n p && famB n xs) = false) with hbv | hbv
    · rw [hbv] at hi hs
      replace hi := Lib.hid (show Calls _ _ _ _ (ListPost (sortL (xs.filter (fun x => !hasB x p))) true w1) from hi)
      replace hs := fun (W : World) (hW : Below w1.heap.size w1 W) => (show Calls _ _ _ _ (ListPost (sortL (xs.filter (fun x => !hasB x p))) true W) from hs W hW)
      obtain ⟨T, hT⟩ : ∃ T, sortL (xs.filter (fun x => !hasB x p)) = T := ⟨_, rfl⟩
      rw [hT] at hi hs
      have hsame : sameB T T = true := decide_eq_true rfl
      obtain ⟨hp, fx⟩ := two_yes5 hbv
      have lx := famB_len fx
      have fT : famB n T = true := hT ▸ fam_sub _ fx
      have lT := famB_len fT
      obtain ⟨n1, n2, _⟩ := famB_all fx
      obtain ⟨p1, p2⟩ := ptB_yes hp
      have p7 : p ≤ 7 := by omega
      have hin := Lib.hid (fun z (hz : z ∈ T) => show 0 ≤ z ∧ z < 256 ∧ hasB z p = false from by
        have h1 := famB_lt fT z hz
        rw [← hT, mem_sortL, List.mem_filter] at hz
        exact ⟨h1.1, h1.2, by simpa using hz.2⟩)
      have hE := keep_twice (fun x => !hasB x p) xs
      rw [hT] at hE
      have hc1 := fun (W : World) (v : Value) (h1 : Row W W.heap.size v T) => im_FamilyWithout n p v T W.heap.size W h1 (Nat.le_refl _) (by omega)
      simp only [hp, fT, Bool.and_true, hE] at hc1
      replace hc1 := Lib.hid (show ∀ (W : World) (v : Value), Row W W.heap.size v T → Calls Try.prog 49 #[.int .i64 n, v, .int .i64 p] W (ListPost T true W) from hc1)
      replace hE := Lib.hid hE
      replace hbv := Lib.hid hbv
      replace hp := Lib.hid hp
      replace fx := Lib.hid fx
      replace fT := Lib.hid fT
      replace hs := Lib.hid hs
      replace hT := Lib.hid hT
      go_wp2_with fail
      refine (hi.out).mono ?_
      rintro e w2 ⟨v2, rfl, hN, hbn⟩
      obtain ⟨c2, d2, rfl, _⟩ := id hN
      have zn := hbn.size
      have RX2 := Lib.hid ((RX1.out.below hbn (Nat.le_refl _)).mono zn)
      have RT2 := Lib.hid hN.row
      have hb2 := Lib.hid (hb1.out.trans (hbn.mono hb1.out.size))
      have hbr := Lib.hid hbn
      clear hN hbn zn
      have hcs := Lib.hid (hs.out w2 hbr.out)
      go_wp2_with fail
      refine (hcs.out).mono ?_
      rintro e w3 ⟨v3, rfl, hN, hbn⟩
      obtain ⟨c3, d3, rfl, _⟩ := id hN
      have zn := hbn.size
      have RX3 := Lib.hid ((RX2.out.below hbn (Nat.le_refl _)).mono zn)
      have RT3 := Lib.hid ((RT2.out.below hbn (Nat.le_refl _)).mono zn)
      have RM3 := Lib.hid hN.row
      have hb3 := Lib.hid (hb2.out.trans (hbn.mono hb2.out.size))
      clear hN hbn zn
      have hq3 := same_l _ _ T T w3.heap.size w3 RT3.out RM3.out (by omega) (by omega)
      rw [hsame] at hq3
      replace hq3 := Lib.hid hq3
      go_wp2_with fail
      refine (hq3.out).mono ?_
      rintro e w' ⟨rfl, q3, rfl⟩
      have hb4 := Lib.hid (below_drewN hb3.out q3)
      have RX4 := Lib.hid (show Row (w3.drewN q3) (w3.drewN q3).heap.size _ _ from RX3.out.drewN q3)
      have RT4 := Lib.hid (show Row (w3.drewN q3) (w3.drewN q3).heap.size _ _ from RT3.out.drewN q3)
      have RM4 := Lib.hid (show Row (w3.drewN q3) (w3.drewN q3).heap.size _ _ from RM3.out.drewN q3)
      obtain ⟨w4, hw4⟩ : ∃ w4, w3.drewN q3 = w4 := ⟨_, rfl⟩
      rw [hw4] at hb4 RX4 RT4 RM4 ⊢
      replace hw4 := Lib.hid hw4
      go_wp2_with fail
      refine (hc1.out w4 _ RT4.out).mono ?_
      rintro e w5 ⟨v5, rfl, hN, hbn⟩
      obtain ⟨c5, d5, rfl, _⟩ := id hN
      have zn := hbn.size
      have RX5 := Lib.hid ((RX4.out.below hbn (Nat.le_refl _)).mono zn)
      have RT5 := Lib.hid ((RT4.out.below hbn (Nat.le_refl _)).mono zn)
      have RM5 := Lib.hid ((RM4.out.below hbn (Nat.le_refl _)).mono zn)
      have RE5 := Lib.hid hN.row
      have hb5 := Lib.hid (hb4.out.trans (hbn.mono hb4.out.size))
      clear hN hbn zn
      obtain ⟨_, _, e', hcell⟩ := RT5.out
      injection e' with e1 e2 e3
      subst e1 e3
      replace hcell := Lib.hid hcell
      go_wp2_with fail
      go_loopw [12] (fun i wr => ∃ k : Nat, k ≤ T.length ∧ i = .int .i64 k ∧ w5 = wr) (fun i _ => T.length - (intOf i).toNat)
      case atStart => exact ⟨0, by omega, rfl, rfl⟩
      case round =>
      obtain ⟨k, hk, rfl, rfl⟩ := hrel
      by_cases hlt : k < T.length
      · obtain ⟨b1, o1, rfl, t2, c1⟩ := hcell.out (by omega)
        have k1 : (0 : Int) ≤ (k : Int) := by omega
        have k2 : (k : Int) < (T.length : Nat) := by omega
        have e1 := c1 k hlt
        obtain ⟨x, hx⟩ : ∃ x, T.getD k 0 = x := ⟨_, rfl⟩
        rw [hx] at e1
        obtain ⟨x1, x2, x3⟩ := hin.out x (by rw [← hx]; exact getD_mem hlt)
        have hbit := bit_i64 x1 x2 p1 p7
        rw [x3, if_neg (by simp)] at hbit
        replace hx := Lib.hid hx
        replace x3 := Lib.hid x3
        clear c1
        go_wp2_with fail
        go_roundw
        case rel => exact ⟨k + 1, by omega, by go_num, (by first | rfl | trivial)⟩
        case measure => simp [intOf]; omega
      obtain rfl : k = T.length := by omega
      have hq5 := same_l _ _ T T w5.heap.size w5 RE5.out RT5.out (by omega) (by omega)
      rw [hsame] at hq5
      replace hq5 := Lib.hid hq5
      go_wp2_with fail
      refine (hq5.out).mono ?_
      rintro e w' ⟨rfl, q5, rfl⟩
      have hb6 := Lib.hid (below_drewN hb5.out q5)
      have RX6 := Lib.hid (show Row (w5.drewN q5) (w5.drewN q5).heap.size _ _ from RX5.out.drewN q5)
      have RT6 := Lib.hid (show Row (w5.drewN q5) (w5.drewN q5).heap.size _ _ from RT5.out.drewN q5)
      have RM6 := Lib.hid (show Row (w5.drewN q5) (w5.drewN q5).heap.size _ _ from RM5.out.drewN q5)
      have RE6 := Lib.hid (show Row (w5.drewN q5) (w5.drewN q5).heap.size _ _ from RE5.out.drewN q5)
      obtain ⟨w6, hw6⟩ : ∃ w6, w5.drewN q5 = w6 := ⟨_, rfl⟩
      rw [hw6] at hb6 RX6 RT6 RM6 RE6 ⊢
      replace hw6 := Lib.hid hw6
      go_wp2_with fail
      go_ret
      exact ⟨rfl, hb6.out⟩
    · rw [hbv] at hi hs
      replace hi := Lib.hid (show Calls _ _ _ _ (ListPost [] false w1) from hi)
      replace hs := Lib.hid (fun (W : World) (hW : Below w1.heap.size w1 W) => (show Calls _ _ _ _ (ListPost [] false W) from hs W hW))
      have hsame : sameB ([] : List Int) [] = true := decide_eq_true rfl
      replace hbv := Lib.hid hbv
      go_wp2_with fail
      refine hi.out.mono ?_
      rintro e w2 ⟨v2, rfl, hO2, hb2⟩
      obtain ⟨va, vc, rfl, _⟩ := id hO2
      have z2 := hb2.size
      have hcs := Lib.hid (hs.out w2 hb2)
      replace hO2 := Lib.hid hO2
      replace hb2 := Lib.hid (hb1.out.trans (hb2.mono z1))
      go_wp2_with fail
      refine hcs.out.mono ?_
      rintro e w3 ⟨v3, rfl, hO3, hb3⟩
      obtain ⟨ya, yc, rfl, _⟩ := id hO3
      have z3 := hb3.size
      have hO23 := Lib.hid (hO2.out.below hb3 (Nat.le_refl _))
      replace hO3 := Lib.hid hO3
      replace hb3 := Lib.hid (hb2.out.trans (hb3.mono hb2.out.size))
      have hq : ∀ W, (∃ q, W = w3.drewN q) → Calls Try.prog 20 #[.slice va ([] : List Int).length vc, .slice ya ([] : List Int).length yc] W fun e w' => e = .returned (.bool true) ∧ ∃ n, w' = W.drewN n := by
        rintro W ⟨q, rfl⟩
        have := same_l (.slice va ([] : List Int).length vc) (.slice ya ([] : List Int).length yc) _ _ w3.heap.size (w3.drewN q) ((hO23.out.row.mono z3).drewN q) (hO3.out.row.drewN q) (by simp) (by simp)
        rw [hsame] at this
        exact this
      replace hq := Lib.hid hq
      go_wp2_with fail
      refine (hq.out w3 ⟨0, rfl⟩).mono ?_
      rintro e w4 ⟨rfl, q, rfl⟩
      go_wp2_with fail
      refine (hq.out _ ⟨q, rfl⟩).mono ?_
      rintro e w5 ⟨rfl, q5, rfl⟩
      go_wp2_with fail
      go_ret
      exact ⟨rfl, below_drewN hb3.out _⟩
set_option maxRecDepth 100000 in
set_option maxHeartbeats 1000000 in
theorem draw_FamilyLevel (v : Value) (a : Option Addr) (len cap : Nat) (w : World) (hv : v = .slice a len cap) (hc : len ≤ cap) (hcap : cap ≤ 9223372036854775807) (hB : Bytes w w.heap.size a len) :
    Calls Try.prog 23 #[v] w (OneDraw w) := by
  have h0 := Lib.hid (rd_open v a len cap w hv hc hcap hB)
  clear hv hc hcap hB
  go_enter Try.func23, Try.ntmps23
  go_wp2_with fail
  refine (h0.out).mono ?_
  rintro e w0 ⟨r, rfl, hr, hR0, hb0, hz0⟩
  have hrw : w.heap.size ≤ r := by omega
  replace hr := Lib.hid hr
  replace hR0 := Lib.hid hR0
  replace hb0 := Lib.hid hb0
  go_wp2_with fail
  refine (rd_points r _ 0 w0 hR0.out (by omega) (by omega)).mono ?_
  rintro e w1 ⟨n, rfl, hn, hR1, hO1⟩
  have hb1 := Lib.hid (hO1.below hb0.out hrw hb0.out.size)
  replace hR1 := Lib.hid hR1
  clear hn hO1 hR0
  go_wp2_with fail
  refine (rd_pick r _ (0 + 2) 8 w1 hR1.out (by omega) (by omega) (by omega)).mono ?_
  rintro e w2 ⟨x, rfl, ⟨x1, x2, x3, x4⟩, hR2, hO2⟩
  have hb2 := Lib.hid (hO2.below hb1.out hrw hb1.out.size)
  replace hR2 := Lib.hid hR2
  clear x3 x4 hO2 hR1
  go_wp2_with fail
  refine (rd_pick r _ (0 + 2 + 1) 20 w2 hR2.out (by omega) (by omega) (by omega)).mono ?_
  rintro e w3 ⟨y, rfl, ⟨y1, y2, y3, y4⟩, hR3, hO3⟩
  have y5 : y < 20 := y3 (by omega)
  have hb3 := Lib.hid (hO3.below hb2.out hrw hb2.out.size)
  clear y3 y4 hO3 hR2 hR3
  go_wp2_with fail
  go_ret2
  exact ⟨_, _, rfl, hb3.out⟩
set_option maxRecDepth 100000 in
set_option maxHeartbeats 4000000 in
theorem law_FnLevel (v : Value) (a : Option Addr) (len cap : Nat) (w : World) (hv : v = .slice a len cap) (hc : len ≤ cap) (hcap : cap ≤ 9223372036854775807) (hB : Bytes w w.heap.size a len) :
    Calls Try.prog 5 #[v] w fun e w' => e = .returned (.bool true) ∧ Below w.heap.size w w' := by
  have h0 := Lib.hid (draw_FamilyLevel v a len cap w hv hc hcap hB)
  subst hv
  clear hB
  by_cases hbig : 1048576 < len
  · go_enter Try.func5, Try.ntmps5
    go_wp2_with fail
    go_ret
    exact ⟨rfl, Below.refl _ _⟩
  · go_enter Try.func5, Try.ntmps5
    go_wp2_with fail
    refine (h0.out).mono ?_
    rintro e w1 ⟨n, k, rfl, hb⟩
    have z1 := hb.size
    have hb1 := Lib.hid hb
    have hi := im_LevelNew n k w1
    have hs := fun (W : World) (hW : Below w1.heap.size w1 W) => (fun _ => sp_FamilyLevel n k W) hW
    clear hb 
    rcases (by cases szB n k <;> simp : szB n k = true ∨ szB n k = false) with hbv | hbv
    · rw [hbv] at hi hs
      replace hi := Lib.hid (show Calls _ _ _ _ (ListPost (sortL ((sortL (upI (2 ^ n.toNat))).filter (fun x => cntI x == k))) true w1) from hi)
      replace hs := fun (W : World) (hW : Below w1.heap.size w1 W) => (show Calls _ _ _ _ (ListPost (sortL ((sortL (upI (2 ^ n.toNat))).filter (fun x => cntI x == k))) true W) from hs W hW)
      obtain ⟨T, hT⟩ : ∃ T, sortL ((sortL (upI (2 ^ n.toNat))).filter (fun x => cntI x == k)) = T := ⟨_, rfl⟩
      rw [hT] at hi hs
      have hsame : sameB T T = true := decide_eq_true rfl
      obtain ⟨g1, g2, n1, n2, k1, k2⟩ := lv_len hbv
      rw [hT] at g1 g2
      have hin := Lib.hid g2
      have hch := Lib.hid (fun W => im_Choose_yes n k (by unfold chooseOk; omega) W)
      have lT : T.length ≤ 256 := by
        rw [← hT]
        exact asc_len256 (asc_sortL _) (fun z hz => by have := (lv_len hbv).2.1 z hz; exact ⟨this.1, this.2.1⟩)
      rw [← g1] at hch
      clear g1 g2
      replace hbv := Lib.hid hbv
      replace hs := Lib.hid hs
      replace hT := Lib.hid hT
      go_wp2_with fail
      refine (hi.out).mono ?_
      rintro e w2 ⟨v2, rfl, hN, hbn⟩
      obtain ⟨c2, d2, rfl, _⟩ := id hN
      have zn := hbn.size
      have RT2 := Lib.hid hN.row
      have hb2 := Lib.hid (hb1.out.trans (hbn.mono hb1.out.size))
      have hbr := Lib.hid hbn
      clear hN hbn zn
      have hcs := Lib.hid (hs.out w2 hbr.out)
      go_wp2_with fail
      refine (hcs.out).mono ?_
      rintro e w3 ⟨v3, rfl, hN, hbn⟩
      obtain ⟨c3, d3, rfl, _⟩ := id hN
      have zn := hbn.size
      have RT3 := Lib.hid ((RT2.out.below hbn (Nat.le_refl _)).mono zn)
      have RM3 := Lib.hid hN.row
      have hb3 := Lib.hid (hb2.out.trans (hbn.mono hb2.out.size))
      clear hN hbn zn
      have hq3 := same_l _ _ T T w3.heap.size w3 RT3.out RM3.out (by omega) (by omega)
      rw [hsame] at hq3
      replace hq3 := Lib.hid hq3
      go_wp2_with fail
      refine (hq3.out).mono ?_
      rintro e w' ⟨rfl, q3, rfl⟩
      have hb4 := Lib.hid (below_drewN hb3.out q3)
      have RT4 := Lib.hid (show Row (w3.drewN q3) (w3.drewN q3).heap.size _ _ from RT3.out.drewN q3)
      have RM4 := Lib.hid (show Row (w3.drewN q3) (w3.drewN q3).heap.size _ _ from RM3.out.drewN q3)
      obtain ⟨w4, hw4⟩ : ∃ w4, w3.drewN q3 = w4 := ⟨_, rfl⟩
      rw [hw4] at hb4 RT4 RM4 ⊢
      replace hw4 := Lib.hid hw4
      obtain ⟨_, _, e', hcell⟩ := RT4.out
      injection e' with e1 e2 e3
      subst e1 e3
      replace hcell := Lib.hid hcell
      go_wp2_with (go_at_call 26; (with_reducible refine (hch.out _).mono ?_); rintro e w' ⟨rfl, rfl⟩)
      go_loopw [11] (fun i wr => ∃ k : Nat, k ≤ T.length ∧ i = .int .i64 k ∧ w4 = wr) (fun i _ => T.length - (intOf i).toNat)
      case atStart => exact ⟨0, by omega, rfl, rfl⟩
      case round =>
      obtain ⟨j, hk, rfl, rfl⟩ := hrel
      by_cases hlt : j < T.length
      · obtain ⟨b1, o1, rfl, t2, c1⟩ := hcell.out (by omega)
        have k1 : (0 : Int) ≤ (j : Int) := by omega
        have k2 : (j : Int) < (T.length : Nat) := by omega
        have e1 := c1 j hlt
        obtain ⟨x, hx⟩ : ∃ x, T.getD j 0 = x := ⟨_, rfl⟩
        rw [hx] at e1
        obtain ⟨x1, x2, x3⟩ := hin.out x (by rw [← hx]; exact getD_mem hlt)
        have hsz := law_size x x1 x2
        rw [x3] at hsz
        replace hsz := Lib.hid hsz
        replace hx := Lib.hid hx
        replace x3 := Lib.hid x3
        clear c1
        go_wp2_with (go_at_call 27; (with_reducible refine (hsz.out _).mono ?_); rintro e w' ⟨rfl, rfl⟩)
        go_roundw
        case rel => exact ⟨j + 1, by omega, by go_num, (by first | rfl | trivial)⟩
        case measure => simp [intOf]; omega
      obtain rfl : j = T.length := by omega
      go_wp2_with fail
      go_ret
      exact ⟨rfl, hb4.out⟩
    · rw [hbv] at hi hs
      replace hi := Lib.hid (show Calls _ _ _ _ (ListPost [] false w1) from hi)
      replace hs := Lib.hid (fun (W : World) (hW : Below w1.heap.size w1 W) => (show Calls _ _ _ _ (ListPost [] false W) from hs W hW))
      have hsame : sameB ([] : List Int) [] = true := decide_eq_true rfl
      replace hbv := Lib.hid hbv
      go_wp2_with fail
      refine hi.out.mono ?_
      rintro e w2 ⟨v2, rfl, hO2, hb2⟩
      obtain ⟨va, vc, rfl, _⟩ := id hO2
      have z2 := hb2.size
      have hcs := Lib.hid (hs.out w2 hb2)
      replace hO2 := Lib.hid hO2
      replace hb2 := Lib.hid (hb1.out.trans (hb2.mono z1))
      go_wp2_with fail
      refine hcs.out.mono ?_
      rintro e w3 ⟨v3, rfl, hO3, hb3⟩
      obtain ⟨ya, yc, rfl, _⟩ := id hO3
      have z3 := hb3.size
      have hO23 := Lib.hid (hO2.out.below hb3 (Nat.le_refl _))
      replace hO3 := Lib.hid hO3
      replace hb3 := Lib.hid (hb2.out.trans (hb3.mono hb2.out.size))
      have hq : ∀ W, (∃ q, W = w3.drewN q) → Calls Try.prog 20 #[.slice va ([] : List Int).length vc, .slice ya ([] : List Int).length yc] W fun e w' => e = .returned (.bool true) ∧ ∃ n, w' = W.drewN n := by
        rintro W ⟨q, rfl⟩
        have := same_l (.slice va ([] : List Int).length vc) (.slice ya ([] : List Int).length yc) _ _ w3.heap.size (w3.drewN q) ((hO23.out.row.mono z3).drewN q) (hO3.out.row.drewN q) (by simp) (by simp)
        rw [hsame] at this
        exact this
      replace hq := Lib.hid hq
      go_wp2_with fail
      refine (hq.out w3 ⟨0, rfl⟩).mono ?_
      rintro e w4 ⟨rfl, q, rfl⟩
      go_wp2_with fail
      refine (hq.out _ ⟨q, rfl⟩).mono ?_
      rintro e w5 ⟨rfl, q5, rfl⟩
      go_wp2_with fail
      go_ret
      exact ⟨rfl, below_drewN hb3.out _⟩
set_option maxRecDepth 100000 in
set_option maxHeartbeats 4000000 in
theorem law_FnLink (v : Value) (a : Option Addr) (len cap : Nat) (w : World) (hv : v = .slice a len cap) (hc : len ≤ cap) (hcap : cap ≤ 9223372036854775807) (hB : Bytes w w.heap.size a len) :
    Calls Try.prog 12 #[v] w fun e w' => e = .returned (.bool true) ∧ Below w.heap.size w w' := by
  have h0 := Lib.hid (draw_FamilyLink v a len cap w hv hc hcap hB)
  subst hv
  clear hB
  by_cases hbig : 1048576 < len
  · go_enter Try.func12, Try.ntmps12
    go_wp2_with fail
    go_ret
    exact ⟨rfl, Below.refl _ _⟩
  · go_enter Try.func12, Try.ntmps12
    go_wp2_with fail
    refine (h0.out).mono ?_
    rintro e w1 ⟨n, u, xs, p, rfl, hl, hO, hb⟩
    obtain ⟨ua, uc, rfl, _⟩ := id hO
    have z1 := hb.size
    have hb1 := Lib.hid hb
    have hi := im_FamilyLink n p _ xs _ w1 hO.row (Nat.le_refl _) (by omega)
    have hs := fun (W : World) (hW : Below w1.heap.size w1 W) => sp_FamilyLink n p _ xs w1.heap.size W (hO.row.below hW (Nat.le_refl _)) hW.size (by omega)
    have RX1 := Lib.hid hO.row
    clear hb hO
    rcases (by cases (ptB n p && famB n xs) <;> simp : (ptB n p && famB n xs) = true ∨ (ptB n p && famB n xs) = false) with hbv | hbv
    · rw [hbv] at hi hs
      replace hi := Lib.hid (show Calls _ _ _ _ (ListPost (lkL p xs) true w1) from hi)
      replace hs := fun (W : World) (hW : Below w1.heap.size w1 W) => (show Calls _ _ _ _ (ListPost (lkL p xs) true W) from hs W hW)
      obtain ⟨T, hT⟩ : ∃ T, lkL p xs = T := ⟨_, rfl⟩
      rw [hT] at hi hs
      have hsame : sameB T T = true := decide_eq_true rfl
      obtain ⟨hp, fx⟩ := two_yes5 hbv
      have lx := famB_len fx
      obtain ⟨n1, n2, hs0⟩ := famB_all fx
      obtain ⟨p1, p2⟩ := ptB_yes hp
      have p7 : p ≤ 7 := by omega
      have fT : famB n T = true := by
        rw [← hT]
        unfold lkL
        exact fam_mk n1 n2 fun z hz => by
          obtain ⟨y, hy, rfl⟩ := List.mem_map.1 hz
          exact less_set (hs0 y (List.mem_filter.1 (mem_sortL.1 hy)).1) p1 p7
      have lT := famB_len fT
      have fW := fam_sub (fun x => !hasB x p) fx
      have lW := famB_len fW
      have hlen := lk_len (p := p) fx
      have hun := lk_union fx hp
      rw [hT] at hlen hun
      have hc1 := fun (W : World) (v : Value) (h1 : Row W W.heap.size v xs) => im_FamilyWithout n p v xs W.heap.size W h1 (Nat.le_refl _) (by omega)
      obtain ⟨Wt, hW⟩ : ∃ Wt, sortL (xs.filter (fun x => !hasB x p)) = Wt := ⟨_, rfl⟩
      rw [hW] at hlen hun fW lW hc1
      have fU := fam_union fT fW
      have lU := famB_len fU
      have hc2 := fun (W : World) (v u : Value) (h1 : Row W W.heap.size v T) (h2 : Row W W.heap.size u Wt) => im_FamilyUnion n v u T Wt W.heap.size W h1 h2 (Nat.le_refl _) (by omega) (by omega)
      have hm : setB n (2 ^ n.toNat - 1 - 2 ^ p.toNat) = true := mask_set n1 n2 hp
      have hc3 := fun (W : World) (v : Value) (h1 : Row W W.heap.size v xs) => im_FamilyTrace n (2 ^ n.toNat - 1 - 2 ^ p.toNat) v xs W.heap.size W h1 (Nat.le_refl _) (by omega)
      rw [← hun] at hc3
      obtain ⟨U, hU⟩ : ∃ U, sortL (T ++ Wt) = U := ⟨_, rfl⟩
      rw [hU] at hc2 hc3 lU
      simp only [hp, fx, fT, fW, hm, Bool.and_true] at hc1 hc2 hc3
      obtain ⟨pw1, pw2, pw3⟩ := pow_nat n1 n2
      obtain ⟨P, hP⟩ : ∃ P, 2 ^ n.toNat = P := ⟨_, rfl⟩
      have hP2 : (2 : Int) ^ n.toNat = (P : Int) := by rw [← hP]; simp
      rw [hP] at pw1 pw2 pw3
      obtain ⟨q8a, q8b, q8c⟩ := pow8 p1 p7
      obtain ⟨Q, hQ⟩ : ∃ Q : Int, 2 ^ p.toNat = Q := ⟨_, rfl⟩
      rw [hQ] at q8a q8b q8c hc3
      rw [hP2] at hc3
      have hsu : sameB U U = true := decide_eq_true rfl
      replace hc1 := Lib.hid (show ∀ (W : World) (v : Value), Row W W.heap.size v xs → Calls Try.prog 49 #[.int .i64 n, v, .int .i64 p] W (ListPost Wt true W) from hc1)
      replace hc2 := Lib.hid (show ∀ (W : World) (v u : Value), Row W W.heap.size v T → Row W W.heap.size u Wt → Calls Try.prog 29 #[.int .i64 n, v, u] W (ListPost U true W) from hc2)
      replace hc3 := Lib.hid (show ∀ (W : World) (v : Value), Row W W.heap.size v xs → Calls Try.prog 50 #[.int .i64 n, v, .int .i64 ((P : Int) - 1 - Q)] W (ListPost U true W) from hc3)
      have hfin : ((T.length : Nat) : Int) + ((Wt.length : Nat) : Int) = ((xs.length : Nat) : Int) := by omega
      have hwr1 : IntKind.i64.wrap ((P : Int) - 1) = (P : Int) - 1 := by rw [IntKind.wrap_i64]; omega
      have hwr2 : IntKind.i64.wrap ((P : Int) - 1 - Q) = (P : Int) - 1 - Q := by rw [IntKind.wrap_i64]; omega
      have hwr3 : IntKind.i64.wrap (P : Int) = (P : Int) := by rw [IntKind.wrap_i64]; omega
      have hwr4 : IntKind.i64.wrap Q = Q := by rw [IntKind.wrap_i64]; omega
      clear hlen hun hs0
      replace hW := Lib.hid hW
      replace hU := Lib.hid hU
      replace hP := Lib.hid hP
      replace hbv := Lib.hid hbv
      replace hp := Lib.hid hp
      replace fx := Lib.hid fx
      replace fT := Lib.hid fT
      replace fW := Lib.hid fW
      replace fU := Lib.hid fU
      replace hm := Lib.hid hm
      replace hs := Lib.hid hs
      replace hT := Lib.hid hT
      go_wp2_with fail
      refine (hi.out).mono ?_
      rintro e w2 ⟨v2, rfl, hN, hbn⟩
      obtain ⟨c2, d2, rfl, _⟩ := id hN
      have zn := hbn.size
      have RX2 := Lib.hid ((RX1.out.below hbn (Nat.le_refl _)).mono zn)
      have RT2 := Lib.hid hN.row
      have hb2 := Lib.hid (hb1.out.trans (hbn.mono hb1.out.size))
      have hbr := Lib.hid hbn
      clear hN hbn zn
      have hcs := Lib.hid (hs.out w2 hbr.out)
      go_wp2_with fail
      refine (hcs.out).mono ?_
      rintro e w3 ⟨v3, rfl, hN, hbn⟩
      obtain ⟨c3, d3, rfl, _⟩ := id hN
      have zn := hbn.size
      have RX3 := Lib.hid ((RX2.out.below hbn (Nat.le_refl _)).mono zn)
      have RT3 := Lib.hid ((RT2.out.below hbn (Nat.le_refl _)).mono zn)
      have RM3 := Lib.hid hN.row
      have hb3 := Lib.hid (hb2.out.trans (hbn.mono hb2.out.size))
      clear hN hbn zn
      have hq3 := same_l _ _ T T w3.heap.size w3 RT3.out RM3.out (by omega) (by omega)
      rw [hsame] at hq3
      replace hq3 := Lib.hid hq3
      go_wp2_with fail
      refine (hq3.out).mono ?_
      rintro e w' ⟨rfl, q3, rfl⟩
      have hb4 := Lib.hid (below_drewN hb3.out q3)
      have RX4 := Lib.hid (show Row (w3.drewN q3) (w3.drewN q3).heap.size _ _ from RX3.out.drewN q3)
      have RT4 := Lib.hid (show Row (w3.drewN q3) (w3.drewN q3).heap.size _ _ from RT3.out.drewN q3)
      have RM4 := Lib.hid (show Row (w3.drewN q3) (w3.drewN q3).heap.size _ _ from RM3.out.drewN q3)
      obtain ⟨w4, hw4⟩ : ∃ w4, w3.drewN q3 = w4 := ⟨_, rfl⟩
      rw [hw4] at hb4 RX4 RT4 RM4 ⊢
      replace hw4 := Lib.hid hw4
      go_wp2_with fail
      refine (hc1.out w4 _ RX4.out).mono ?_
      rintro e w5 ⟨v5, rfl, hN, hbn⟩
      obtain ⟨c5, d5, rfl, _⟩ := id hN
      have zn := hbn.size
      have RX5 := Lib.hid ((RX4.out.below hbn (Nat.le_refl _)).mono zn)
      have RT5 := Lib.hid ((RT4.out.below hbn (Nat.le_refl _)).mono zn)
      have RM5 := Lib.hid ((RM4.out.below hbn (Nat.le_refl _)).mono zn)
      have RW5 := Lib.hid hN.row
      have hb5 := Lib.hid (hb4.out.trans (hbn.mono hb4.out.size))
      clear hN hbn zn
      go_wp2_with fail
      refine (hc2.out w5 _ _ RT5.out RW5.out).mono ?_
      rintro e w6 ⟨v6, rfl, hN, hbn⟩
      obtain ⟨c6, d6, rfl, _⟩ := id hN
      have zn := hbn.size
      have RX6 := Lib.hid ((RX5.out.below hbn (Nat.le_refl _)).mono zn)
      have RT6 := Lib.hid ((RT5.out.below hbn (Nat.le_refl _)).mono zn)
      have RM6 := Lib.hid ((RM5.out.below hbn (Nat.le_refl _)).mono zn)
      have RW6 := Lib.hid ((RW5.out.below hbn (Nat.le_refl _)).mono zn)
      have RU6 := Lib.hid hN.row
      have hb6 := Lib.hid (hb5.out.trans (hbn.mono hb5.out.size))
      clear hN hbn zn
      have hc3' := Lib.hid (hc3.out w6.drew _ (show Row w6.drew w6.drew.heap.size _ xs from RX6.out))
      have hbd6 := Lib.hid (hb6.out.drew)
      go_wp2_with fail
      go_region_with (go_at_call 50; (with_reducible refine hc3'.out.mono ?_); rintro e w7 ⟨v7, rfl, hN, hbn⟩; obtain ⟨c7, d7, rfl, _⟩ := id hN; have zn : w6.heap.size ≤ w7.heap.size := hbn.size; replace hN := Lib.hid hN; replace hbn := Lib.hid hbn)
      have RU7 := Lib.hid ((Row.below (w := w6.drew) RU6.out hbn.out (Nat.le_refl _)).mono zn)
      have RE7 := Lib.hid hN.out.row
      have hb7 := Lib.hid (hbd6.out.trans (hbn.out.mono hbd6.out.size))
      clear hN hbn
      have hq7 := same_l _ _ U U w7.heap.size w7 RU7.out RE7.out (by omega) (by omega)
      rw [hsu] at hq7
      replace hq7 := Lib.hid hq7
      go_wp2_with fail
      refine (hq7.out).mono ?_
      rintro e w' ⟨rfl, q7, rfl⟩
      have hb8 := Lib.hid (below_drewN hb7.out q7)
      have RU8 := Lib.hid (show Row (w7.drewN q7) (w7.drewN q7).heap.size _ _ from RU7.out.drewN q7)
      have RE8 := Lib.hid (show Row (w7.drewN q7) (w7.drewN q7).heap.size _ _ from RE7.out.drewN q7)
      obtain ⟨w8, hw8⟩ : ∃ w8, w7.drewN q7 = w8 := ⟨_, rfl⟩
      rw [hw8] at hb8 RU8 RE8 ⊢
      replace hw8 := Lib.hid hw8
      go_wp2_with fail
      go_ret
      first | exact ⟨rfl, hb8.out⟩ | exact ⟨ret_bool (by simp), hb8.out⟩
    · rw [hbv] at hi hs
      replace hi := Lib.hid (show Calls _ _ _ _ (ListPost [] false w1) from hi)
      replace hs := Lib.hid (fun (W : World) (hW : Below w1.heap.size w1 W) => (show Calls _ _ _ _ (ListPost [] false W) from hs W hW))
      have hsame : sameB ([] : List Int) [] = true := decide_eq_true rfl
      replace hbv := Lib.hid hbv
      go_wp2_with fail
      refine hi.out.mono ?_
      rintro e w2 ⟨v2, rfl, hO2, hb2⟩
      obtain ⟨va, vc, rfl, _⟩ := id hO2
      have z2 := hb2.size
      have hcs := Lib.hid (hs.out w2 hb2)
      replace hO2 := Lib.hid hO2
      replace hb2 := Lib.hid (hb1.out.trans (hb2.mono z1))
      go_wp2_with fail
      refine hcs.out.mono ?_
      rintro e w3 ⟨v3, rfl, hO3, hb3⟩
      obtain ⟨ya, yc, rfl, _⟩ := id hO3
      have z3 := hb3.size
      have hO23 := Lib.hid (hO2.out.below hb3 (Nat.le_refl _))
      replace hO3 := Lib.hid hO3
      replace hb3 := Lib.hid (hb2.out.trans (hb3.mono hb2.out.size))
      have hq : ∀ W, (∃ q, W = w3.drewN q) → Calls Try.prog 20 #[.slice va ([] : List Int).length vc, .slice ya ([] : List Int).length yc] W fun e w' => e = .returned (.bool true) ∧ ∃ n, w' = W.drewN n := by
        rintro W ⟨q, rfl⟩
        have := same_l (.slice va ([] : List Int).length vc) (.slice ya ([] : List Int).length yc) _ _ w3.heap.size (w3.drewN q) ((hO23.out.row.mono z3).drewN q) (hO3.out.row.drewN q) (by simp) (by simp)
        rw [hsame] at this
        exact this
      replace hq := Lib.hid hq
      go_wp2_with fail
      refine (hq.out w3 ⟨0, rfl⟩).mono ?_
      rintro e w4 ⟨rfl, q, rfl⟩
      go_wp2_with fail
      refine (hq.out _ ⟨q, rfl⟩).mono ?_
      rintro e w5 ⟨rfl, q5, rfl⟩
      go_wp2_with fail
      go_ret
      exact ⟨rfl, below_drewN hb3.out _⟩
set_option maxRecDepth 100000 in
set_option maxHeartbeats 4000000 in
theorem law_FnProfile (v : Value) (a : Option Addr) (len cap : Nat) (w : World) (hv : v = .slice a len cap) (hc : len ≤ cap) (hcap : cap ≤ 9223372036854775807) (hB : Bytes w w.heap.size a len) :
    Calls Try.prog 11 #[v] w fun e w' => e = .returned (.bool true) ∧ Below w.heap.size w w' := by
  have h0 := Lib.hid (draw_FamilyProfile v a len cap w hv hc hcap hB)
  subst hv
  clear hB
  by_cases hbig : 1048576 < len
  · go_enter Try.func11, Try.ntmps11
    go_wp2_with fail
    go_ret
    exact ⟨rfl, Below.refl _ _⟩
  · go_enter Try.func11, Try.ntmps11
    go_wp2_with fail
    refine (h0.out).mono ?_
    rintro e w1 ⟨n, u, xs, rfl, hl, hO, hb⟩
    obtain ⟨ua, uc, rfl, _⟩ := id hO
    have z1 := hb.size
    have hb1 := Lib.hid hb
    have hi := im_FamilyProfile n _ xs _ w1 hO.row (Nat.le_refl _) (by omega)
    have hs := fun (W : World) (hW : Below w1.heap.size w1 W) => sp_FamilyProfile n _ xs w1.heap.size W (hO.row.below hW (Nat.le_refl _)) hW.size (by omega)
    have RX1 := Lib.hid hO.row
    clear hb hO
    rcases (by cases famB n xs <;> simp : famB n xs = true ∨ famB n xs = false) with hbv | hbv
    · rw [hbv] at hi hs
      replace hi := Lib.hid (show Calls _ _ _ _ (ListPost (profL (n.toNat + 1) xs) true w1) from hi)
      replace hs := fun (W : World) (hW : Below w1.heap.size w1 W) => (show Calls _ _ _ _ (ListPost (profL (n.toNat + 1) xs) true W) from hs W hW)
      obtain ⟨T, hT⟩ : ∃ T, profL (n.toNat + 1) xs = T := ⟨_, rfl⟩
      rw [hT] at hi hs
      have hsame : sameB T T = true := decide_eq_true rfl
      have fx := hbv
      have lx := famB_len fx
      obtain ⟨n1, n2, _⟩ := famB_all fx
      have hTl : T.length = n.toNat + 1 := by rw [← hT]; exact profL_lenq _ _
      have hc0 := cu_0 xs
      have hbnd := fun j => cu_bd j xs
      have hst := Lib.hid (fun j (hj : j < T.length) => show T.getD j 0 = cntP xs j ∧ cuP xs (j + 1) = cuP xs j + cntP xs j ∧ (0 ≤ cuP xs j ∧ cuP xs j ≤ 256) ∧ (0 ≤ cntP xs j ∧ cntP xs j ≤ 256) ∧ True from
        ⟨by rw [← hT]; exact profL_get xs (by omega), cu_step j xs, by have := hbnd j; omega, by have := cntP_bdq j xs; omega, trivial⟩)
      have hca := Lib.hid (show cuP xs T.length = xs.length by rw [hTl]; exact cu_all fx)
      have hTn : ((T.length : Nat) : Int) = n + 1 := by omega
      have hfin := Lib.hid hTn
      clear hTn hbnd
      have lT : T.length ≤ 256 := by omega
      replace hTl := Lib.hid hTl
      replace hbv := Lib.hid hbv
      replace fx := Lib.hid fx
      replace hs := Lib.hid hs
      replace hT := Lib.hid hT
      go_wp2_with fail
      refine (hi.out).mono ?_
      rintro e w2 ⟨v2, rfl, hN, hbn⟩
      obtain ⟨c2, d2, rfl, _⟩ := id hN
      have zn := hbn.size
      have RX2 := Lib.hid ((RX1.out.below hbn (Nat.le_refl _)).mono zn)
      have RT2 := Lib.hid hN.row
      have hb2 := Lib.hid (hb1.out.trans (hbn.mono hb1.out.size))
      have hbr := Lib.hid hbn
      clear hN hbn zn
      have hcs := Lib.hid (hs.out w2 hbr.out)
      go_wp2_with fail
      refine (hcs.out).mono ?_
      rintro e w3 ⟨v3, rfl, hN, hbn⟩
      obtain ⟨c3, d3, rfl, _⟩ := id hN
      have zn := hbn.size
      have RX3 := Lib.hid ((RX2.out.below hbn (Nat.le_refl _)).mono zn)
      have RT3 := Lib.hid ((RT2.out.below hbn (Nat.le_refl _)).mono zn)
      have RM3 := Lib.hid hN.row
      have hb3 := Lib.hid (hb2.out.trans (hbn.mono hb2.out.size))
      clear hN hbn zn
      have hq3 := same_l _ _ T T w3.heap.size w3 RT3.out RM3.out (by omega) (by omega)
      rw [hsame] at hq3
      replace hq3 := Lib.hid hq3
      go_wp2_with fail
      refine (hq3.out).mono ?_
      rintro e w' ⟨rfl, q3, rfl⟩
      have hb4 := Lib.hid (below_drewN hb3.out q3)
      have RX4 := Lib.hid (show Row (w3.drewN q3) (w3.drewN q3).heap.size _ _ from RX3.out.drewN q3)
      have RT4 := Lib.hid (show Row (w3.drewN q3) (w3.drewN q3).heap.size _ _ from RT3.out.drewN q3)
      have RM4 := Lib.hid (show Row (w3.drewN q3) (w3.drewN q3).heap.size _ _ from RM3.out.drewN q3)
      obtain ⟨w4, hw4⟩ : ∃ w4, w3.drewN q3 = w4 := ⟨_, rfl⟩
      rw [hw4] at hb4 RX4 RT4 RM4 ⊢
      replace hw4 := Lib.hid hw4
      obtain ⟨_, _, e', hcell⟩ := RT4.out
      injection e' with e1 e2 e3
      subst e1 e3
      replace hcell := Lib.hid hcell
      go_wp2_with fail
      go_loopw [9, 10] (fun s i wr => ∃ k : Nat, k ≤ T.length ∧ i = .int .i64 k ∧ s = .int .i64 (cuP xs k) ∧ w4 = wr) (fun _ i _ => T.length - (intOf i).toNat)
      case atStart => exact ⟨0, by omega, rfl, by rw [hc0], rfl⟩
      case round =>
      obtain ⟨j, hk, rfl, rfl, rfl⟩ := hrel
      by_cases hlt : j < T.length
      · obtain ⟨b1, o1, rfl, t2, c1⟩ := hcell.out (by omega)
        have k1 : (0 : Int) ≤ (j : Int) := by omega
        have k2 : (j : Int) < (T.length : Nat) := by omega
        have e1 := c1 j hlt
        obtain ⟨y1, y2, y3, y4, y5⟩ := hst.out j hlt
        rw [y1] at e1
        obtain ⟨x, hx⟩ : ∃ x, cntP xs j = x := ⟨_, rfl⟩
        obtain ⟨S, hS⟩ : ∃ S, cuP xs j = S := ⟨_, rfl⟩
        rw [hx] at e1 y2 y4
        rw [hS] at y2 y3 ⊢
        obtain ⟨y3a, y3b⟩ := y3
        obtain ⟨y4a, y4b⟩ := y4
        replace hx := Lib.hid hx
        replace hS := Lib.hid hS
        replace y2 := Lib.hid y2
        replace y1 := Lib.hid y1
        clear c1 y5
        go_wp2_with fail
        go_roundw
        case rel => exact ⟨j + 1, by omega, by go_num, by rw [y2.out], (by first | rfl | trivial)⟩
        case measure => simp [intOf]; omega
      obtain rfl : j = T.length := by omega
      have hcl := hca.out
      rw [hcl]
      go_wp2_with fail
      go_ret
      have hfo := hfin.out
      first | exact ⟨rfl, hb4.out⟩ | exact ⟨ret_bool (by simp), hb4.out⟩ | exact ⟨ret_bool (by simp [hfo]), hb4.out⟩ | exact ⟨ret_bool (by simp; omega), hb4.out⟩
    · rw [hbv] at hi hs
      replace hi := Lib.hid (show Calls _ _ _ _ (ListPost [] false w1) from hi)
      replace hs := Lib.hid (fun (W : World) (hW : Below w1.heap.size w1 W) => (show Calls _ _ _ _ (ListPost [] false W) from hs W hW))
      have hsame : sameB ([] : List Int) [] = true := decide_eq_true rfl
      replace hbv := Lib.hid hbv
      go_wp2_with fail
      refine hi.out.mono ?_
      rintro e w2 ⟨v2, rfl, hO2, hb2⟩
      obtain ⟨va, vc, rfl, _⟩ := id hO2
      have z2 := hb2.size
      have hcs := Lib.hid (hs.out w2 hb2)
      replace hO2 := Lib.hid hO2
      replace hb2 := Lib.hid (hb1.out.trans (hb2.mono z1))
      go_wp2_with fail
      refine hcs.out.mono ?_
      rintro e w3 ⟨v3, rfl, hO3, hb3⟩
      obtain ⟨ya, yc, rfl, _⟩ := id hO3
      have z3 := hb3.size
      have hO23 := Lib.hid (hO2.out.below hb3 (Nat.le_refl _))
      replace hO3 := Lib.hid hO3
      replace hb3 := Lib.hid (hb2.out.trans (hb3.mono hb2.out.size))
      have hq : ∀ W, (∃ q, W = w3.drewN q) → Calls Try.prog 20 #[.slice va ([] : List Int).length vc, .slice ya ([] : List Int).length yc] W fun e w' => e = .returned (.bool true) ∧ ∃ n, w' = W.drewN n := by
        rintro W ⟨q, rfl⟩
        have := same_l (.slice va ([] : List Int).length vc) (.slice ya ([] : List Int).length yc) _ _ w3.heap.size (w3.drewN q) ((hO23.out.row.mono z3).drewN q) (hO3.out.row.drewN q) (by simp) (by simp)
        rw [hsame] at this
        exact this
      replace hq := Lib.hid hq
      go_wp2_with fail
      refine (hq.out w3 ⟨0, rfl⟩).mono ?_
      rintro e w4 ⟨rfl, q, rfl⟩
      go_wp2_with fail
      refine (hq.out _ ⟨q, rfl⟩).mono ?_
      rintro e w5 ⟨rfl, q5, rfl⟩
      go_wp2_with fail
      go_ret
      exact ⟨rfl, below_drewN hb3.out _⟩
set_option maxRecDepth 100000 in
set_option maxHeartbeats 4000000 in
theorem law_FnFamilyOther (v : Value) (a : Option Addr) (len cap : Nat) (w : World) (hv : v = .slice a len cap) (hc : len ≤ cap) (hcap : cap ≤ 9223372036854775807) (hB : Bytes w w.heap.size a len) :
    Calls Try.prog 9 #[v] w fun e w' => e = .returned (.bool true) ∧ Below w.heap.size w w' := by
  have h0 := Lib.hid (draw_FamilyOther v a len cap w hv hc hcap hB)
  subst hv
  clear hB
  by_cases hbig : 1048576 < len
  · go_enter Try.func9, Try.ntmps9
    go_wp2_with fail
    go_ret
    exact ⟨rfl, Below.refl _ _⟩
  · go_enter Try.func9, Try.ntmps9
    go_wp2_with fail
    refine (h0.out).mono ?_
    rintro e w1 ⟨n, u, xs, rfl, hl, hO, hb⟩
    obtain ⟨ua, uc, rfl, _⟩ := id hO
    have z1 := hb.size
    have hb1 := Lib.hid hb
    have hi := im_FamilyOther n _ xs _ w1 hO.row (Nat.le_refl _) (by omega)
    have hs := fun (W : World) (hW : Below w1.heap.size w1 W) => sp_FamilyOther n _ xs w1.heap.size W (hO.row.below hW (Nat.le_refl _)) hW.size (by omega)
    have RX1 := Lib.hid hO.row
    clear hb hO
    rcases (by cases famB n xs <;> simp : famB n xs = true ∨ famB n xs = false) with hbv | hbv
    · rw [hbv] at hi hs
      replace hi := Lib.hid (show Calls _ _ _ _ (ListPost (sortL (xs.map (otherI n))) true w1) from hi)
      replace hs := fun (W : World) (hW : Below w1.heap.size w1 W) => (show Calls _ _ _ _ (ListPost (sortL (xs.map (otherI n))) true W) from hs W hW)
      obtain ⟨T, hT⟩ : ∃ T, sortL (xs.map (otherI n)) = T := ⟨_, rfl⟩
      rw [hT] at hi hs
      have hsame : sameB T T = true := decide_eq_true rfl
      have fx := hbv
      have lx := famB_len fx
      obtain ⟨n1, n2, _⟩ := famB_all fx
      have fT : famB n T = true := hT ▸ fam_other fx
      have lT := famB_len fT
      have hE := other_back fx
      rw [hT] at hE
      have hsx : sameB xs xs = true := decide_eq_true rfl
      have hpr := fun (j m : Nat) (hj : j < (profL (n.toNat + 1) xs).length) (h : ((j : Nat) : Int) + ((m : Nat) : Int) = n) => show (profL (n.toNat + 1) xs).getD j 0 = (profL (n.toNat + 1) T).getD m 0 from by
        rw [profL_lenq] at hj
        rw [profL_get xs hj, profL_get T (by omega), ← hT]
        exact (other_prof fx h).symm
      have hc1 := fun (W : World) (v : Value) (h1 : Row W W.heap.size v T) => im_FamilyOther n v T W.heap.size W h1 (Nat.le_refl _) (by omega)
      have hc2 := fun (W : World) (v : Value) (h1 : Row W W.heap.size v xs) => im_FamilyProfile n v xs W.heap.size W h1 (Nat.le_refl _) (by omega)
      have hc3 := fun (W : World) (v : Value) (h1 : Row W W.heap.size v T) => im_FamilyProfile n v T W.heap.size W h1 (Nat.le_refl _) (by omega)
      have hc4 := fun (W : World) (v : Value) (h1 : Row W W.heap.size v T) => im_FamilyIn n v T W.heap.size W h1 (Nat.le_refl _) (by omega)
      simp only [fx, fT, hE] at hc1 hc2 hc3 hc4
      have lA := profL_lenq (n.toNat + 1) xs
      have lD := profL_lenq (n.toNat + 1) T
      obtain ⟨A, hA⟩ : ∃ A, profL (n.toNat + 1) xs = A := ⟨_, rfl⟩
      obtain ⟨D, hD⟩ : ∃ D, profL (n.toNat + 1) T = D := ⟨_, rfl⟩
      rw [hA] at hc2 hpr lA
      rw [hD] at hc3 hpr lD
      replace hc1 := Lib.hid (show ∀ (W : World) (v : Value), Row W W.heap.size v T → Calls Try.prog 38 #[.int .i64 n, v] W (ListPost xs true W) from hc1)
      replace hc2 := Lib.hid (show ∀ (W : World) (v : Value), Row W W.heap.size v xs → Calls Try.prog 40 #[.int .i64 n, v] W (ListPost A true W) from hc2)
      replace hc3 := Lib.hid (show ∀ (W : World) (v : Value), Row W W.heap.size v T → Calls Try.prog 40 #[.int .i64 n, v] W (ListPost D true W) from hc3)
      replace hc4 := Lib.hid (show ∀ (W : World) (v : Value), Row W W.heap.size v T → Calls Try.prog 17 #[.int .i64 n, v] W (fun e w' => e = .returned (.bool true) ∧ Below W.heap.size W w') from hc4)
      have hAn : ((A.length : Nat) : Int) = n + 1 := by omega
      have hDn : ((D.length : Nat) : Int) = n + 1 := by omega
      replace hpr := Lib.hid hpr
      replace hE := Lib.hid hE
      replace hA := Lib.hid hA
      replace hD := Lib.hid hD
      replace lA := Lib.hid lA
      replace lD := Lib.hid lD
      replace hbv := Lib.hid hbv
      replace fx := Lib.hid fx
      replace fT := Lib.hid fT
      replace hs := Lib.hid hs
      replace hT := Lib.hid hT
      go_wp2_with fail
      refine (hi.out).mono ?_
      rintro e w2 ⟨v2, rfl, hN, hbn⟩
      obtain ⟨c2, d2, rfl, _⟩ := id hN
      have zn := hbn.size
      have RX2 := Lib.hid ((RX1.out.below hbn (Nat.le_refl _)).mono zn)
      have RT2 := Lib.hid hN.row
      have hb2 := Lib.hid (hb1.out.trans (hbn.mono hb1.out.size))
      have hbr := Lib.hid hbn
      clear hN hbn zn
      have hcs := Lib.hid (hs.out w2 hbr.out)
      go_wp2_with fail
      refine (hcs.out).mono ?_
      rintro e w3 ⟨v3, rfl, hN, hbn⟩
      obtain ⟨c3, d3, rfl, _⟩ := id hN
      have zn := hbn.size
      have RX3 := Lib.hid ((RX2.out.below hbn (Nat.le_refl _)).mono zn)
      have RT3 := Lib.hid ((RT2.out.below hbn (Nat.le_refl _)).mono zn)
      have RM3 := Lib.hid hN.row
      have hb3 := Lib.hid (hb2.out.trans (hbn.mono hb2.out.size))
      clear hN hbn zn
      have hq3 := same_l _ _ T T w3.heap.size w3 RT3.out RM3.out (by omega) (by omega)
      rw [hsame] at hq3
      replace hq3 := Lib.hid hq3
      go_wp2_with fail
      refine (hq3.out).mono ?_
      rintro e w' ⟨rfl, q3, rfl⟩
      have hb4 := Lib.hid (below_drewN hb3.out q3)
      have RX4 := Lib.hid (show Row (w3.drewN q3) (w3.drewN q3).heap.size _ _ from RX3.out.drewN q3)
      have RT4 := Lib.hid (show Row (w3.drewN q3) (w3.drewN q3).heap.size _ _ from RT3.out.drewN q3)
      have RM4 := Lib.hid (show Row (w3.drewN q3) (w3.drewN q3).heap.size _ _ from RM3.out.drewN q3)
      obtain ⟨w4, hw4⟩ : ∃ w4, w3.drewN q3 = w4 := ⟨_, rfl⟩
      rw [hw4] at hb4 RX4 RT4 RM4 ⊢
      replace hw4 := Lib.hid hw4
      go_wp2_with fail
      refine (hc1.out w4 _ RT4.out).mono ?_
      rintro e w5 ⟨v5, rfl, hN, hbn⟩
      obtain ⟨c5, d5, rfl, _⟩ := id hN
      have zn := hbn.size
      have RX5 := Lib.hid ((RX4.out.below hbn (Nat.le_refl _)).mono zn)
      have RT5 := Lib.hid ((RT4.out.below hbn (Nat.le_refl _)).mono zn)
      have RM5 := Lib.hid ((RM4.out.below hbn (Nat.le_refl _)).mono zn)
      have RE5 := Lib.hid hN.row
      have hb5 := Lib.hid (hb4.out.trans (hbn.mono hb4.out.size))
      clear hN hbn zn
      go_wp2_with fail
      refine (hc2.out w5 _ RX5.out).mono ?_
      rintro e w6 ⟨v6, rfl, hN, hbn⟩
      obtain ⟨c6, d6, rfl, _⟩ := id hN
      have zn := hbn.size
      have RX6 := Lib.hid ((RX5.out.below hbn (Nat.le_refl _)).mono zn)
      have RT6 := Lib.hid ((RT5.out.below hbn (Nat.le_refl _)).mono zn)
      have RM6 := Lib.hid ((RM5.out.below hbn (Nat.le_refl _)).mono zn)
      have RE6 := Lib.hid ((RE5.out.below hbn (Nat.le_refl _)).mono zn)
      have RA6 := Lib.hid hN.row
      have hb6 := Lib.hid (hb5.out.trans (hbn.mono hb5.out.size))
      clear hN hbn zn
      go_wp2_with fail
      refine (hc3.out w6 _ RT6.out).mono ?_
      rintro e w7 ⟨v7, rfl, hN, hbn⟩
      obtain ⟨c7, d7, rfl, _⟩ := id hN
      have zn := hbn.size
      have RX7 := Lib.hid ((RX6.out.below hbn (Nat.le_refl _)).mono zn)
      have RT7 := Lib.hid ((RT6.out.below hbn (Nat.le_refl _)).mono zn)
      have RM7 := Lib.hid ((RM6.out.below hbn (Nat.le_refl _)).mono zn)
      have RE7 := Lib.hid ((RE6.out.below hbn (Nat.le_refl _)).mono zn)
      have RA7 := Lib.hid ((RA6.out.below hbn (Nat.le_refl _)).mono zn)
      have RD7 := Lib.hid hN.row
      have hb7 := Lib.hid (hb6.out.trans (hbn.mono hb6.out.size))
      clear hN hbn zn
      obtain ⟨_, _, e', hcA⟩ := RA7.out
      injection e' with e1 e2 e3
      subst e1 e3
      obtain ⟨_, _, e', hcD⟩ := RD7.out
      injection e' with e1 e2 e3
      subst e1 e3
      replace hcA := Lib.hid hcA
      replace hcD := Lib.hid hcD
      go_wp2_with fail
      go_loopw [15] (fun i wr => ∃ k : Nat, k ≤ A.length ∧ i = .int .i64 k ∧ Hid (∃ q, wr = w7.drewN q)) (fun i _ => A.length - (intOf i).toNat)
      case atStart => exact ⟨0, by omega, rfl, Lib.hid ⟨0, rfl⟩⟩
      case round =>
      obtain ⟨j, hk, rfl, hq⟩ := hrel
      obtain ⟨q, rfl⟩ := hq.out
      clear hq
      by_cases hlt : j < A.length
      · obtain ⟨b1, o1, rfl, t2, cA⟩ := hcA.out (by omega)
        obtain ⟨b3, o3, rfl, t4, cD⟩ := hcD.out (by omega)
        obtain ⟨m, hm⟩ : ∃ m : Nat, A.length - 1 - j = m := ⟨_, rfl⟩
        have hmA : m < D.length := by omega
        have k1 : (0 : Int) ≤ (j : Int) := by omega
        have k2 : (j : Int) < (A.length : Nat) := by omega
        have k3 : (j : Int) ≤ n := by omega
        have k4 : (0 : Int) ≤ (m : Int) := by omega
        have k5 : (m : Int) < (D.length : Nat) := by omega
        have hw : IntKind.i64.wrap (n - (j : Int)) = (m : Int) := by rw [IntKind.wrap_i64]; omega
        have e1 := cA j hlt
        have e2 := cD m hmA
        have heq := hpr.out j m hlt (by omega)
        obtain ⟨x, hx⟩ : ∃ x, A.getD j 0 = x := ⟨_, rfl⟩
        rw [hx] at e1 heq
        rw [← heq] at e2
        have hne : (x != x) = false := by simp
        replace hx := Lib.hid hx
        replace heq := Lib.hid heq
        replace hm := Lib.hid hm
        clear cA cD
        go_wp2_with fail
        go_quiet (fail)
        go_wp2
        go_roundw
        case rel => exact ⟨j + 1, by omega, by go_num, Lib.hid ⟨_, by first | rfl | exact drewN_add _ _ _⟩⟩
        case measure => simp [intOf]; omega
      obtain rfl : j = A.length := by omega
      have k3 : ¬ ((A.length : Nat) : Int) ≤ n := by omega
      have RX8 := Lib.hid (show Row (w7.drewN q) (w7.drewN q).heap.size _ _ from RX7.out.drewN q)
      have RT8 := Lib.hid (show Row (w7.drewN q) (w7.drewN q).heap.size _ _ from RT7.out.drewN q)
      have RE8 := Lib.hid (show Row (w7.drewN q) (w7.drewN q).heap.size _ _ from RE7.out.drewN q)
      have hb8 := Lib.hid (below_drewN hb7.out q)
      obtain ⟨w8, hw8⟩ : ∃ w8, w7.drewN q = w8 := ⟨_, rfl⟩
      rw [hw8] at RX8 RT8 RE8 hb8 ⊢
      replace hw8 := Lib.hid hw8
      have hq8 := same_l _ _ xs xs w8.heap.size w8 RE8.out RX8.out (by omega) (by omega)
      rw [hsx] at hq8
      replace hq8 := Lib.hid hq8
      go_wp2_with fail
      refine (hq8.out).mono ?_
      rintro e w' ⟨rfl, q8, rfl⟩
      have hb9 := Lib.hid (below_drewN hb8.out q8)
      have RX9 := Lib.hid (show Row (w8.drewN q8) (w8.drewN q8).heap.size _ _ from RX8.out.drewN q8)
      have RT9 := Lib.hid (show Row (w8.drewN q8) (w8.drewN q8).heap.size _ _ from RT8.out.drewN q8)
      have RE9 := Lib.hid (show Row (w8.drewN q8) (w8.drewN q8).heap.size _ _ from RE8.out.drewN q8)
      obtain ⟨w9, hw9⟩ : ∃ w9, w8.drewN q8 = w9 := ⟨_, rfl⟩
      rw [hw9] at hb9 RX9 RT9 RE9 ⊢
      replace hw9 := Lib.hid hw9
      go_wp2_with fail
      refine (hc4.out w9 _ RT9.out).mono ?_
      rintro e w10 ⟨rfl, hbn⟩
      have hb10 := Lib.hid (hb9.out.trans (hbn.mono hb9.out.size))
      clear hbn
      go_wp2_with fail
      go_ret
      exact ⟨rfl, hb10.out⟩
    · rw [hbv] at hi hs
      replace hi := Lib.hid (show Calls _ _ _ _ (ListPost [] false w1) from hi)
      replace hs := Lib.hid (fun (W : World) (hW : Below w1.heap.size w1 W) => (show Calls _ _ _ _ (ListPost [] false W) from hs W hW))
      have hsame : sameB ([] : List Int) [] = true := decide_eq_true rfl
      replace hbv := Lib.hid hbv
      go_wp2_with fail
      refine hi.out.mono ?_
      rintro e w2 ⟨v2, rfl, hO2, hb2⟩
      obtain ⟨va, vc, rfl, _⟩ := id hO2
      have z2 := hb2.size
      have hcs := Lib.hid (hs.out w2 hb2)
      replace hO2 := Lib.hid hO2
      replace hb2 := Lib.hid (hb1.out.trans (hb2.mono z1))
      go_wp2_with fail
      refine hcs.out.mono ?_
      rintro e w3 ⟨v3, rfl, hO3, hb3⟩
      obtain ⟨ya, yc, rfl, _⟩ := id hO3
      have z3 := hb3.size
      have hO23 := Lib.hid (hO2.out.below hb3 (Nat.le_refl _))
      replace hO3 := Lib.hid hO3
      replace hb3 := Lib.hid (hb2.out.trans (hb3.mono hb2.out.size))
      have hq : ∀ W, (∃ q, W = w3.drewN q) → Calls Try.prog 20 #[.slice va ([] : List Int).length vc, .slice ya ([] : List Int).length yc] W fun e w' => e = .returned (.bool true) ∧ ∃ n, w' = W.drewN n := by
        rintro W ⟨q, rfl⟩
        have := same_l (.slice va ([] : List Int).length vc) (.slice ya ([] : List Int).length yc) _ _ w3.heap.size (w3.drewN q) ((hO23.out.row.mono z3).drewN q) (hO3.out.row.drewN q) (by simp) (by simp)
        rw [hsame] at this
        exact this
      replace hq := Lib.hid hq
      go_wp2_with fail
      refine (hq.out w3 ⟨0, rfl⟩).mono ?_
      rintro e w4 ⟨rfl, q, rfl⟩
      go_wp2_with fail
      refine (hq.out _ ⟨q, rfl⟩).mono ?_
      rintro e w5 ⟨rfl, q5, rfl⟩
      go_wp2_with fail
      go_ret
      exact ⟨rfl, below_drewN hb3.out _⟩
end Go.Proofs.Ytapijjfhdhkakaa
