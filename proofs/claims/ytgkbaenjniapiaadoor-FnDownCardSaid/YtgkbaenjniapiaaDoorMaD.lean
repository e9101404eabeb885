/- Laws over the program that ask for shadows: FnDown. -/
import Derived.Test.YtgkbaenjniapiaaDoorMa1
import Derived.Test.YtgkbaenjniapiaaDoorAllD
import Derived.Test.YtgkbaenjniapiaaDoorSameL
import Derived.Test.YtgkbaenjniapiaaDoorAllShm
import Derived.Test.YtgkbaenjniapiaaDoorAc2
import Derived.Test.YtgkbaenjniapiaaDoorAs2
namespace Go.Proofs.YtgkbaenjniapiaaDoor
open Go.ChangeShapes Go.WideShapes Go.ChangeAt Go.RowKit Go.Proofs

theorem draw_ClosedDown (v : Value) (a : Option Addr) (len cap : Nat) (w : World) (hv : v = .slice a len cap) (hc : len ≤ cap) (hcap : cap ≤ 9223372036854775807) (hB : Bytes w w.heap.size a len) :
    Calls Tryd.prog 17 #[v] w (GivenDraw w) := by
  have h0 := Lib.hid (draw_given v a len cap w hv hc hcap hB)
  clear hv hc hcap hB
  go_enter Tryd.func17, Tryd.ntmps17
  go_wp2_with fail
  refine (h0.out).mono ?_
  rintro e w1 ⟨n, u, xs, rfl, hl, hO, hb⟩
  obtain ⟨fa, fc, rfl, _⟩ := id hO
  replace hO := Lib.hid hO
  replace hb := Lib.hid hb
  go_wp2_with fail
  go_ret2
  exact ⟨_, _, xs, rfl, hl, hO.out, hb.out⟩
theorem down_eq (N : Nat) (xs : List Int) : sortL ((sortL (upI N)).filter (fun s => xs.any (partB s))) = clL true xs N := by
  rw [sortL_asc (asc_upI N)]; exact sortL_asc (asc_filter (asc_upI N) _)
theorem mem_cl {down : Bool} {xs : List Int} {m : Nat} {z : Int} : z ∈ clL down xs m ↔ (0 ≤ z ∧ z < m) ∧ ∃ y ∈ xs, cloP down z y = true := by
  unfold clL
  rw [List.mem_filter, mem_upI, List.any_eq_true]
theorem set_pow {n z : Int} (n1 : 1 ≤ n) (n2 : n ≤ 8) : setB n z = true ↔ 0 ≤ z ∧ z < (2 ^ n.toNat : Nat) := by
  have e : ((2 ^ n.toNat : Nat) : Int) = 2 ^ n.toNat := by simp
  rw [e]
  constructor
  · intro h
    obtain ⟨_, _, h3, h4⟩ := setB_yes h
    exact ⟨h3, h4⟩
  · rintro ⟨h3, h4⟩
    exact setB_mk ⟨n1, n2, h3, h4⟩
theorem fam_cl {n : Int} {xs : List Int} (down : Bool) (h : famB n xs = true) : famB n (clL down xs (2 ^ n.toNat)) = true := by
  obtain ⟨n1, n2, _⟩ := famB_all h
  have := fam_mk (L := clL down xs (2 ^ n.toNat)) n1 n2 (fun z hz => (set_pow n1 n2).2 (mem_cl.1 hz).1)
  rwa [show sortL (clL down xs (2 ^ n.toNat)) = clL down xs (2 ^ n.toNat) from sortL_asc (asc_filter (asc_upI _) _)] at this
theorem im_Dn (n : Int) (lv : Value) (xs : List Int) (S : Nat) (w : World) (hx : Row w S lv xs) (hS : S ≤ w.heap.size) (hl : xs.length ≤ 100000000) :
    Calls Tryd.prog 18 #[.int .i64 n, lv] w (ListPost (ifL (famB n xs) (clL true xs (2 ^ n.toNat))) (famB n xs) w) := by
  rw [← down_eq]; exact im_ClosedDown n lv xs S w hx hS hl
theorem cl_cl {n : Int} {xs : List Int} (h : famB n xs = true) : clL true (clL true xs (2 ^ n.toNat)) (2 ^ n.toNat) = clL true xs (2 ^ n.toNat) := asc_ext (asc_filter (asc_upI _) _) (asc_filter (asc_upI _) _) fun z => by
  rw [mem_cl, mem_cl]
  constructor
  · rintro ⟨h1, y, hy, h2⟩
    obtain ⟨h3, t, ht, h4⟩ := mem_cl.1 hy
    exact ⟨h1, t, ht, part_trans h1.1 h3.1 h2 h4⟩
  · rintro ⟨h1, y, hy, h2⟩
    have hs := famB_lt h y hy
    obtain ⟨n1, n2, hss⟩ := famB_all h
    exact ⟨h1, y, mem_cl.2 ⟨(set_pow n1 n2).1 (hss y hy), y, hy, part_refl hs.1⟩, h2⟩
theorem cl_has {n : Int} {xs : List Int} (h : famB n xs = true) : ∀ z ∈ xs, z ∈ clL true xs (2 ^ n.toNat) := fun z hz => by
  obtain ⟨n1, n2, hss⟩ := famB_all h
  exact mem_cl.2 ⟨(set_pow n1 n2).1 (hss z hz), z, hz, part_refl (setB_lt (hss z hz)).1⟩
theorem cl_dn {n : Int} {xs : List Int} (h : famB n xs = true) : ∀ z ∈ sortL (dnL (clL true xs (2 ^ n.toNat))), z ∈ clL true xs (2 ^ n.toNat) := fun z hz => by
  obtain ⟨x, hx, p, hp, rfl⟩ := mem_dn.1 hz
  obtain ⟨n1, n2, hss⟩ := famB_all (fam_cl true h)
  have hs := hss x hx
  obtain ⟨x1, x2⟩ := setB_lt hs
  obtain ⟨p1, p2, _⟩ := mem_pts x1 x2 hp
  obtain ⟨h1, t, ht, h2⟩ := mem_cl.1 hx
  have hl := dn_set hs p1 p2
  exact mem_cl.2 ⟨(set_pow n1 n2).1 hl, t, ht, part_trans (setB_lt hl).1 x1 (decide_eq_true (part_less x1 x2 p1 p2)) h2⟩
set_option maxRecDepth 100000 in
set_option maxHeartbeats 4000000 in
theorem law_FnDown (v : Value) (a : Option Addr) (len cap : Nat) (w : World) (hv : v = .slice a len cap) (hc : len ≤ cap) (hcap : cap ≤ 9223372036854775807) (hB : Bytes w w.heap.size a len) (hT0 : Tab w) :
    Calls Tryd.prog 5 #[v] w fun e w' => e = .returned (.bool true) ∧ Below w.heap.size w w' := by
  have h0 := Lib.hid (draw_ClosedDown v a len cap w hv hc hcap hB)
  have htl := hT0.lt
  replace hT0 := Lib.hid hT0
  subst hv
  clear hB
  by_cases hbig : 1048576 < len
  · go_enter Tryd.func5, Tryd.ntmps5
    go_wp2_with fail
    go_ret
    exact ⟨rfl, Below.refl _ _⟩
  · go_enter Tryd.func5, Tryd.ntmps5
    go_wp2_with fail
    refine (h0.out).mono ?_
    rintro e w1 ⟨n, u, xs, rfl, hl, hO, hb⟩
    obtain ⟨ua, uc, rfl, _⟩ := id hO
    have z1 := hb.size
    have hb1 := Lib.hid hb
    have hi := im_Dn n _ xs _ w1 hO.row (Nat.le_refl _) (by omega)
    have hs := fun (W : World) (hW : Below w1.heap.size w1 W) => sp_ClosedDown n _ xs w1.heap.size W (hO.row.below hW (Nat.le_refl _)) hW.size (by omega)
    have RX1 := Lib.hid hO.row
    clear hb hO
    rcases (by cases famB n xs <;> simp : famB n xs = true ∨ famB n xs = false) with hbv | hbv
    · rw [hbv] at hi hs
      replace hi := Lib.hid (show Calls _ _ _ _ (ListPost (clL true xs (2 ^ n.toNat)) true w1) from hi)
      replace hs := fun (W : World) (hW : Below w1.heap.size w1 W) => (show Calls _ _ _ _ (ListPost (clL true xs (2 ^ n.toNat)) true W) from hs W hW)
      obtain ⟨T, hT⟩ : ∃ T, clL true xs (2 ^ n.toNat) = T := ⟨_, rfl⟩
      rw [hT] at hi hs
      have hsame : sameB T T = true := decide_eq_true rfl
      have fx := hbv
      have lx := famB_len fx
      have fT : famB n T = true := hT ▸ fam_cl true fx
      have lT := famB_len fT
      have fS := dn_fam fT
      have lS := famB_len fS
      have hK := cl_cl fx
      have hE := filt_all (famB_asc fx) (cl_has fx)
      have hQ := cl_dn fx
      rw [hT] at hK hE hQ
      have hN := filt_all (asc_sortL _) hQ
      have hsx : sameB xs xs = true := decide_eq_true rfl
      have hc1 := fun (W : World) (v : Value) (h1 : Row W W.heap.size v T) => im_Dn n v T W.heap.size W h1 (Nat.le_refl _) (by omega)
      have hc2 := fun (W : World) (v u : Value) (h1 : Row W W.heap.size v xs) (h2 : Row W W.heap.size u T) => im_FamilyCommon n v u xs T W.heap.size W h1 h2 (Nat.le_refl _) (by omega) (by omega)
      have hc3 := fun (W : World) (v : Value) (h1 : Row W W.heap.size v T) (h2 : Tab W) => im_ShadowOf n v T W.heap.size W h1 (Nat.le_refl _) (by omega) h2
      obtain ⟨S, hS⟩ : ∃ S, sortL (dnL T) = S := ⟨_, rfl⟩
      rw [hS] at hc3 hN fS lS
      have hss : sameB S S = true := decide_eq_true rfl
      have hc4 := fun (W : World) (v u : Value) (h1 : Row W W.heap.size v S) (h2 : Row W W.heap.size u T) => im_FamilyCommon n v u S T W.heap.size W h1 h2 (Nat.le_refl _) (by omega) (by omega)
      rw [hK] at hc1
      rw [hE] at hc2
      rw [hN] at hc4
      simp only [fx, fT, fS, Bool.and_true] at hc1 hc2 hc3 hc4
      replace hc1 := Lib.hid (show ∀ (W : World) (v : Value), Row W W.heap.size v T → Calls Tryd.prog 18 #[.int .i64 n, v] W (ListPost T true W) from hc1)
      replace hc2 := Lib.hid (show ∀ (W : World) (v u : Value), Row W W.heap.size v xs → Row W W.heap.size u T → Calls Tryd.prog 20 #[.int .i64 n, v, u] W (ListPost xs true W) from hc2)
      replace hc3 := Lib.hid (show ∀ (W : World) (v : Value), Row W W.heap.size v T → Tab W → Calls Tryd.prog 13 #[.int .i64 n, v] W (ListPost S true W) from hc3)
      replace hc4 := Lib.hid (show ∀ (W : World) (v u : Value), Row W W.heap.size v S → Row W W.heap.size u T → Calls Tryd.prog 20 #[.int .i64 n, v, u] W (ListPost S true W) from hc4)
      replace hS := Lib.hid hS
      replace hK := Lib.hid hK
      replace hE := Lib.hid hE
      replace hQ := Lib.hid hQ
      replace hN := Lib.hid hN
      replace hbv := Lib.hid hbv
      replace fx := Lib.hid fx
      replace fT := Lib.hid fT
      replace fS := Lib.hid fS
      replace hs := Lib.hid hs
      replace hT := Lib.hid hT
      go_wp2_with fail
      refine (hi.out).mono ?_
      rintro e w2 ⟨v2, rfl, hN, hbn⟩
      obtain ⟨c2, d2, rfl, _⟩ := id hN
      have zn := hbn.size
      have RX2 := Lib.hid ((RX1.out.below hbn (Nat.le_refl _)).mono zn)
      have RT2 := Lib.hid hN.row
      have hb2 := Lib.hid (hb1.out.trans (hbn.mono hb1.out.size))
      have hbr := Lib.hid hbn
      clear hN hbn zn
      have hcs := Lib.hid (hs.out w2 hbr.out)
      go_wp2_with fail
      refine (hcs.out).mono ?_
      rintro e w3 ⟨v3, rfl, hN, hbn⟩
      obtain ⟨c3, d3, rfl, _⟩ := id hN
      have zn := hbn.size
      have RX3 := Lib.hid ((RX2.out.below hbn (Nat.le_refl _)).mono zn)
      have RT3 := Lib.hid ((RT2.out.below hbn (Nat.le_refl _)).mono zn)
      have RM3 := Lib.hid hN.row
      have hb3 := Lib.hid (hb2.out.trans (hbn.mono hb2.out.size))
      clear hN hbn zn
      have hq3 := same_l _ _ T T w3.heap.size w3 RT3.out RM3.out (by omega) (by omega)
      rw [hsame] at hq3
      replace hq3 := Lib.hid hq3
      go_wp2_with fail
      refine (hq3.out).mono ?_
      rintro e w' ⟨rfl, q3, rfl⟩
      have hb4 := Lib.hid (below_drewN hb3.out q3)
      have RX4 := Lib.hid (show Row (w3.drewN q3) (w3.drewN q3).heap.size _ _ from RX3.out.drewN q3)
      have RT4 := Lib.hid (show Row (w3.drewN q3) (w3.drewN q3).heap.size _ _ from RT3.out.drewN q3)
      have RM4 := Lib.hid (show Row (w3.drewN q3) (w3.drewN q3).heap.size _ _ from RM3.out.drewN q3)
      obtain ⟨w4, hw4⟩ : ∃ w4, w3.drewN q3 = w4 := ⟨_, rfl⟩
      rw [hw4] at hb4 RX4 RT4 RM4 ⊢
      replace hw4 := Lib.hid hw4
      go_wp2_with fail
      refine (hc1.out w4 _ RT4.out).mono ?_
      rintro e w5 ⟨v5, rfl, hN, hbn⟩
      obtain ⟨c5, d5, rfl, _⟩ := id hN
      have zn := hbn.size
      have RX5 := Lib.hid ((RX4.out.below hbn (Nat.le_refl _)).mono zn)
      have RT5 := Lib.hid ((RT4.out.below hbn (Nat.le_refl _)).mono zn)
      have RM5 := Lib.hid ((RM4.out.below hbn (Nat.le_refl _)).mono zn)
      have RC5 := Lib.hid hN.row
      have hb5 := Lib.hid (hb4.out.trans (hbn.mono hb4.out.size))
      clear hN hbn zn
      go_wp2_with fail
      refine (hc2.out w5 _ _ RX5.out RT5.out).mono ?_
      rintro e w6 ⟨v6, rfl, hN, hbn⟩
      obtain ⟨c6, d6, rfl, _⟩ := id hN
      have zn := hbn.size
      have RX6 := Lib.hid ((RX5.out.below hbn (Nat.le_refl _)).mono zn)
      have RT6 := Lib.hid ((RT5.out.below hbn (Nat.le_refl _)).mono zn)
      have RM6 := Lib.hid ((RM5.out.below hbn (Nat.le_refl _)).mono zn)
      have RC6 := Lib.hid ((RC5.out.below hbn (Nat.le_refl _)).mono zn)
      have RE6 := Lib.hid hN.row
      have hb6 := Lib.hid (hb5.out.trans (hbn.mono hb5.out.size))
      clear hN hbn zn
      go_wp2_with fail
      refine (hc3.out w6 _ RT6.out (hT0.out.below hb6.out htl)).mono ?_
      rintro e w7 ⟨v7, rfl, hN, hbn⟩
      obtain ⟨c7, d7, rfl, _⟩ := id hN
      have zn := hbn.size
      have RX7 := Lib.hid ((RX6.out.below hbn (Nat.le_refl _)).mono zn)
      have RT7 := Lib.hid ((RT6.out.below hbn (Nat.le_refl _)).mono zn)
      have RM7 := Lib.hid ((RM6.out.below hbn (Nat.le_refl _)).mono zn)
      have RC7 := Lib.hid ((RC6.out.below hbn (Nat.le_refl _)).mono zn)
      have RE7 := Lib.hid ((RE6.out.below hbn (Nat.le_refl _)).mono zn)
      have RS7 := Lib.hid hN.row
      have hb7 := Lib.hid (hb6.out.trans (hbn.mono hb6.out.size))
      clear hN hbn zn
      go_wp2_with fail
      refine (hc4.out w7 _ _ RS7.out RT7.out).mono ?_
      rintro e w8 ⟨v8, rfl, hN, hbn⟩
      obtain ⟨c8, d8, rfl, _⟩ := id hN
      have zn := hbn.size
      have RX8 := Lib.hid ((RX7.out.below hbn (Nat.le_refl _)).mono zn)
      have RT8 := Lib.hid ((RT7.out.below hbn (Nat.le_refl _)).mono zn)
      have RM8 := Lib.hid ((RM7.out.below hbn (Nat.le_refl _)).mono zn)
      have RC8 := Lib.hid ((RC7.out.below hbn (Nat.le_refl _)).mono zn)
      have RE8 := Lib.hid ((RE7.out.below hbn (Nat.le_refl _)).mono zn)
      have RS8 := Lib.hid ((RS7.out.below hbn (Nat.le_refl _)).mono zn)
      have RD8 := Lib.hid hN.row
      have hb8 := Lib.hid (hb7.out.trans (hbn.mono hb7.out.size))
      clear hN hbn zn
      have hq8 := same_l _ _ T T w8.heap.size w8 RC8.out RT8.out (by omega) (by omega)
      rw [hsame] at hq8
      replace hq8 := Lib.hid hq8
      go_wp2_with fail
      refine (hq8.out).mono ?_
      rintro e w' ⟨rfl, q8, rfl⟩
      have hb9 := Lib.hid (below_drewN hb8.out q8)
      have RX9 := Lib.hid (show Row (w8.drewN q8) (w8.drewN q8).heap.size _ _ from RX8.out.drewN q8)
      have RT9 := Lib.hid (show Row (w8.drewN q8) (w8.drewN q8).heap.size _ _ from RT8.out.drewN q8)
      have RM9 := Lib.hid (show Row (w8.drewN q8) (w8.drewN q8).heap.size _ _ from RM8.out.drewN q8)
      have RC9 := Lib.hid (show Row (w8.drewN q8) (w8.drewN q8).heap.size _ _ from RC8.out.drewN q8)
      have RE9 := Lib.hid (show Row (w8.drewN q8) (w8.drewN q8).heap.size _ _ from RE8.out.drewN q8)
      have RS9 := Lib.hid (show Row (w8.drewN q8) (w8.drewN q8).heap.size _ _ from RS8.out.drewN q8)
      have RD9 := Lib.hid (show Row (w8.drewN q8) (w8.drewN q8).heap.size _ _ from RD8.out.drewN q8)
      obtain ⟨w9, hw9⟩ : ∃ w9, w8.drewN q8 = w9 := ⟨_, rfl⟩
      rw [hw9] at hb9 RX9 RT9 RM9 RC9 RE9 RS9 RD9 ⊢
      replace hw9 := Lib.hid hw9
      have hq9 := same_l _ _ xs xs w9.heap.size w9 RE9.out RX9.out (by omega) (by omega)
      rw [hsx] at hq9
      replace hq9 := Lib.hid hq9
      go_wp2_with fail
      refine (hq9.out).mono ?_
      rintro e w' ⟨rfl, q9, rfl⟩
      have hb10 := Lib.hid (below_drewN hb9.out q9)
      have RX10 := Lib.hid (show Row (w9.drewN q9) (w9.drewN q9).heap.size _ _ from RX9.out.drewN q9)
      have RT10 := Lib.hid (show Row (w9.drewN q9) (w9.drewN q9).heap.size _ _ from RT9.out.drewN q9)
      have RM10 := Lib.hid (show Row (w9.drewN q9) (w9.drewN q9).heap.size _ _ from RM9.out.drewN q9)
      have RC10 := Lib.hid (show Row (w9.drewN q9) (w9.drewN q9).heap.size _ _ from RC9.out.drewN q9)
      have RE10 := Lib.hid (show Row (w9.drewN q9) (w9.drewN q9).heap.size _ _ from RE9.out.drewN q9)
      have RS10 := Lib.hid (show Row (w9.drewN q9) (w9.drewN q9).heap.size _ _ from RS9.out.drewN q9)
      have RD10 := Lib.hid (show Row (w9.drewN q9) (w9.drewN q9).heap.size _ _ from RD9.out.drewN q9)
      obtain ⟨w10, hw10⟩ : ∃ w10, w9.drewN q9 = w10 := ⟨_, rfl⟩
      rw [hw10] at hb10 RX10 RT10 RM10 RC10 RE10 RS10 RD10 ⊢
      replace hw10 := Lib.hid hw10
      have hq10 := same_l _ _ S S w10.heap.size w10 RD10.out RS10.out (by omega) (by omega)
      rw [hss] at hq10
      replace hq10 := Lib.hid hq10
      go_wp2_with fail
      refine (hq10.out).mono ?_
      rintro e w' ⟨rfl, q10, rfl⟩
      have hb11 := Lib.hid (below_drewN hb10.out q10)
      have RX11 := Lib.hid (show Row (w10.drewN q10) (w10.drewN q10).heap.size _ _ from RX10.out.drewN q10)
      have RT11 := Lib.hid (show Row (w10.drewN q10) (w10.drewN q10).heap.size _ _ from RT10.out.drewN q10)
      have RM11 := Lib.hid (show Row (w10.drewN q10) (w10.drewN q10).heap.size _ _ from RM10.out.drewN q10)
      have RC11 := Lib.hid (show Row (w10.drewN q10) (w10.drewN q10).heap.size _ _ from RC10.out.drewN q10)
      have RE11 := Lib.hid (show Row (w10.drewN q10) (w10.drewN q10).heap.size _ _ from RE10.out.drewN q10)
      have RS11 := Lib.hid (show Row (w10.drewN q10) (w10.drewN q10).heap.size _ _ from RS10.out.drewN q10)
      have RD11 := Lib.hid (show Row (w10.drewN q10) (w10.drewN q10).heap.size _ _ from RD10.out.drewN q10)
      obtain ⟨w11, hw11⟩ : ∃ w11, w10.drewN q10 = w11 := ⟨_, rfl⟩
      rw [hw11] at hb11 RX11 RT11 RM11 RC11 RE11 RS11 RD11 ⊢
      replace hw11 := Lib.hid hw11
      go_wp2_with fail
      go_ret
      exact ⟨rfl, hb11.out⟩
    · rw [hbv] at hi hs
      replace hi := Lib.hid (show Calls _ _ _ _ (ListPost [] false w1) from hi)
      replace hs := Lib.hid (fun (W : World) (hW : Below w1.heap.size w1 W) => (show Calls _ _ _ _ (ListPost [] false W) from hs W hW))
      have hsame : sameB ([] : List Int) [] = true := decide_eq_true rfl
      replace hbv := Lib.hid hbv
      go_wp2_with fail
      refine hi.out.mono ?_
      rintro e w2 ⟨v2, rfl, hO2, hb2⟩
      obtain ⟨va, vc, rfl, _⟩ := id hO2
      have z2 := hb2.size
      have hcs := Lib.hid (hs.out w2 hb2)
      replace hO2 := Lib.hid hO2
      replace hb2 := Lib.hid (hb1.out.trans (hb2.mono z1))
      go_wp2_with fail
      refine hcs.out.mono ?_
      rintro e w3 ⟨v3, rfl, hO3, hb3⟩
      obtain ⟨ya, yc, rfl, _⟩ := id hO3
      have z3 := hb3.size
      have hO23 := Lib.hid (hO2.out.below hb3 (Nat.le_refl _))
      replace hO3 := Lib.hid hO3
      replace hb3 := Lib.hid (hb2.out.trans (hb3.mono hb2.out.size))
      have hq : ∀ W, (∃ q, W = w3.drewN q) → Calls Tryd.prog 11 #[.slice va ([] : List Int).length vc, .slice ya ([] : List Int).length yc] W fun e w' => e = .returned (.bool true) ∧ ∃ n, w' = W.drewN n := by
        rintro W ⟨q, rfl⟩
        have := same_l (.slice va ([] : List Int).length vc) (.slice ya ([] : List Int).length yc) _ _ w3.heap.size (w3.drewN q) ((hO23.out.row.mono z3).drewN q) (hO3.out.row.drewN q) (by simp) (by simp)
        rw [hsame] at this
        exact this
      replace hq := Lib.hid hq
      go_wp2_with fail
      refine (hq.out w3 ⟨0, rfl⟩).mono ?_
      rintro e w4 ⟨rfl, q, rfl⟩
      go_wp2_with fail
      refine (hq.out _ ⟨q, rfl⟩).mono ?_
      rintro e w5 ⟨rfl, q5, rfl⟩
      go_wp2_with fail
      go_ret
      exact ⟨rfl, below_drewN hb3.out _⟩
end Go.Proofs.YtgkbaenjniapiaaDoor
