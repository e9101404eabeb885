/- Laws of chapter 9 of what is closed, and of up families. -/
import Derived.Test.YthljimmhgpbmbabFx1
import Derived.Test.YthljimmhgpbmbabAllC9
import Derived.Test.YthljimmhgpbmbabUnm
import Derived.Test.YthljimmhgpbmbabCs2
import Derived.Test.YthljimmhgpbmbabAllD
import Derived.Test.YthljimmhgpbmbabSameL
import Derived.Test.YthljimmhgpbmbabAllSp
namespace Go.Proofs.Ythljimmhgpbmbab
open Go.ChangeShapes Go.WideShapes Go.ChangeAt Go.RowKit Go.Proofs

set_option maxRecDepth 100000 in
set_option maxHeartbeats 4000000 in
theorem law_FnUnionIn (v : Value) (a : Option Addr) (len cap : Nat) (w : World) (hv : v = .slice a len cap) (hc : len ≤ cap) (hcap : cap ≤ 9223372036854775807) (hB : Bytes w w.heap.size a len) :
    Calls Try.prog 6 #[v] w fun e w' => e = .returned (.bool true) ∧ Below w.heap.size w w' := by
  have h0 := Lib.hid (draw_UnionIn v a len cap w hv hc hcap hB)
  subst hv
  clear hB
  by_cases hbig : 1048576 < len
  · go_enter Try.func6, Try.ntmps6
    go_wp2_with fail
    go_ret
    exact ⟨rfl, Below.refl _ _⟩
  · go_enter Try.func6, Try.ntmps6
    go_wp2_with fail
    refine (h0.out).mono ?_
    rintro e w1 ⟨n, u, xs, rfl, hl, hO, hb⟩
    obtain ⟨ua, uc, rfl, _⟩ := id hO
    have z1 := hb.size
    have hb1 := Lib.hid hb
    have hi := fun (W : World) (h1 : Row W W.heap.size (.slice ua xs.length uc) xs) => im_UnionIn n _ xs W.heap.size W h1 (Nat.le_refl _) (by omega)
    have hs := fun (W : World) (h1 : Row W W.heap.size (.slice ua xs.length uc) xs) => sp_UnionIn n _ xs W.heap.size W h1 (Nat.le_refl _) (by omega)
    have RX1 := Lib.hid hO.row
    clear hb hO
    rcases (by cases (famB n xs && sameB (ucL orI xs) xs) <;> simp : (famB n xs && sameB (ucL orI xs) xs) = true ∨ (famB n xs && sameB (ucL orI xs) xs) = false) with hbv | hbv
    · simp only [hbv] at hi hs
      replace hi := Lib.hid (show ∀ (W : World), Row W W.heap.size (.slice ua xs.length uc) xs → Calls Try.prog 25 #[.int .i64 n, .slice ua xs.length uc] W (fun e w' => e = .returned (.bool true) ∧ Below W.heap.size W w') from hi)
      replace hs := Lib.hid (show ∀ (W : World), Row W W.heap.size (.slice ua xs.length uc) xs → Calls Try.prog 26 #[.int .i64 n, .slice ua xs.length uc] W (fun e w' => e = .returned (.bool true) ∧ Below W.heap.size W w') from hs)
      have hbb := hbv
      rw [Bool.and_eq_true] at hbb
      have fx := hbb.1
      have hfix : ucL orI xs = xs := of_decide_eq_true hbb.2
      have lx := famB_len fx
      obtain ⟨n1, n2, sx⟩ := famB_all fx
      have h0x : ∀ z ∈ xs, 0 ≤ z := fun z hz => (famB_lt fx z hz).1
      have hsx : sameB xs xs = true := decide_eq_true rfl
      have fO := fam_other fx
      have lO := famB_len fO
      have hdu := ucL_dual semi_or semi_and fx (fun x y => oth_join)
      rw [hfix] at hdu
      obtain ⟨O, hO9⟩ : ∃ O, sortL (xs.map (otherI n)) = O := ⟨_, rfl⟩
      rw [hO9] at fO lO hdu
      have hso : sameB O O = true := decide_eq_true rfl
      have hc1 := fun (W : World) (v : Value) (h1 : Row W W.heap.size v xs) => im_UnionOf n v xs W.heap.size W h1 (Nat.le_refl _) (by omega)
      have hc2 := fun (W : World) (v : Value) (h1 : Row W W.heap.size v xs) => im_FamilyOther n v xs W.heap.size W h1 (Nat.le_refl _) (by omega)
      have hc3 := fun (W : World) (v : Value) (h1 : Row W W.heap.size v O) => im_MeetIn n v O W.heap.size W h1 (Nat.le_refl _) (by omega)
      simp only [fx, fO, hfix, hO9, hdu, hso, Bool.and_true] at hc1 hc2 hc3
      replace hc1 := Lib.hid (show ∀ (W : World) (v : Value), Row W W.heap.size v xs → Calls Try.prog 27 #[.int .i64 n, v] W (ListPost xs true W) from hc1)
      replace hc2 := Lib.hid (show ∀ (W : World) (v : Value), Row W W.heap.size v xs → Calls Try.prog 17 #[.int .i64 n, v] W (ListPost O true W) from hc2)
      replace hc3 := Lib.hid (show ∀ (W : World) (v : Value), Row W W.heap.size v O → Calls Try.prog 28 #[.int .i64 n, v] W (fun e w' => e = .returned (.bool true) ∧ Below W.heap.size W w') from hc3)
      replace hbv := Lib.hid hbv
      replace hbb := Lib.hid hbb
      replace fx := Lib.hid fx
      replace fO := Lib.hid fO
      replace hdu := Lib.hid hdu
      replace hO9 := Lib.hid hO9
      replace sx := Lib.hid sx
      replace h0x := Lib.hid h0x
      replace hfix := Lib.hid hfix
      go_wp2_with fail
      refine (hi.out w1 RX1.out).mono ?_
      rintro e w2 ⟨rfl, hbn⟩
      have zn := hbn.size
      have RX2 := Lib.hid ((RX1.out.below hbn (Nat.le_refl _)).mono zn)
      have hb2 := Lib.hid (hb1.out.trans (hbn.mono hb1.out.size))
      clear hbn zn
      go_wp2_with fail
      refine (hs.out w2 RX2.out).mono ?_
      rintro e w3 ⟨rfl, hbn⟩
      have zn := hbn.size
      have RX3 := Lib.hid ((RX2.out.below hbn (Nat.le_refl _)).mono zn)
      have hb3 := Lib.hid (hb2.out.trans (hbn.mono hb2.out.size))
      clear hbn zn
      go_wp2_with fail
      refine (hc1.out w3 _ RX3.out).mono ?_
      rintro e w4 ⟨v4, rfl, hN, hbn⟩
      obtain ⟨c4, d4, rfl, _⟩ := id hN
      have zn := hbn.size
      have RX4 := Lib.hid ((RX3.out.below hbn (Nat.le_refl _)).mono zn)
      have RY4 := Lib.hid hN.row
      have hb4 := Lib.hid (hb3.out.trans (hbn.mono hb3.out.size))
      clear hN hbn zn
      go_wp2_with fail
      refine (hc2.out w4 _ RX4.out).mono ?_
      rintro e w5 ⟨v5, rfl, hN, hbn⟩
      obtain ⟨c5, d5, rfl, _⟩ := id hN
      have zn := hbn.size
      have RX5 := Lib.hid ((RX4.out.below hbn (Nat.le_refl _)).mono zn)
      have RY5 := Lib.hid ((RY4.out.below hbn (Nat.le_refl _)).mono zn)
      have RO5 := Lib.hid hN.row
      have hb5 := Lib.hid (hb4.out.trans (hbn.mono hb4.out.size))
      clear hN hbn zn
      have hq5 := same_l _ _ xs xs w5.heap.size w5 RY5.out RX5.out (by omega) (by omega)
      rw [hsx] at hq5
      replace hq5 := Lib.hid hq5
      go_wp2_with fail
      refine (hq5.out).mono ?_
      rintro e w' ⟨rfl, q5, rfl⟩
      have hb6 := Lib.hid (below_drewN hb5.out q5)
      have RX6 := Lib.hid (show Row (w5.drewN q5) (w5.drewN q5).heap.size _ _ from RX5.out.drewN q5)
      have RY6 := Lib.hid (show Row (w5.drewN q5) (w5.drewN q5).heap.size _ _ from RY5.out.drewN q5)
      have RO6 := Lib.hid (show Row (w5.drewN q5) (w5.drewN q5).heap.size _ _ from RO5.out.drewN q5)
      obtain ⟨w6, hw6⟩ : ∃ w6, w5.drewN q5 = w6 := ⟨_, rfl⟩
      rw [hw6] at hb6 RX6 RY6 RO6 ⊢
      replace hw6 := Lib.hid hw6
      go_wp2_with fail
      refine (hc3.out w6 _ RO6.out).mono ?_
      rintro e w7 ⟨rfl, hbn⟩
      have zn := hbn.size
      have RX7 := Lib.hid ((RX6.out.below hbn (Nat.le_refl _)).mono zn)
      have RY7 := Lib.hid ((RY6.out.below hbn (Nat.le_refl _)).mono zn)
      have RO7 := Lib.hid ((RO6.out.below hbn (Nat.le_refl _)).mono zn)
      have hb7 := Lib.hid (hb6.out.trans (hbn.mono hb6.out.size))
      clear hbn zn
      go_wp2_with fail
      go_ret
      exact ⟨rfl, hb7.out⟩
    · simp only [hbv] at hi hs
      replace hi := Lib.hid (show ∀ (W : World), Row W W.heap.size (.slice ua xs.length uc) xs → Calls Try.prog 25 #[.int .i64 n, .slice ua xs.length uc] W (fun e w' => e = .returned (.bool false) ∧ Below W.heap.size W w') from hi)
      replace hs := Lib.hid (show ∀ (W : World), Row W W.heap.size (.slice ua xs.length uc) xs → Calls Try.prog 26 #[.int .i64 n, .slice ua xs.length uc] W (fun e w' => e = .returned (.bool false) ∧ Below W.heap.size W w') from hs)
      replace hbv := Lib.hid hbv
      go_wp2_with fail
      refine (hi.out w1 RX1.out).mono ?_
      rintro e w2 ⟨rfl, hbn⟩
      have zn := hbn.size
      have RX2 := Lib.hid ((RX1.out.below hbn (Nat.le_refl _)).mono zn)
      have hb2 := Lib.hid (hb1.out.trans (hbn.mono hb1.out.size))
      clear hbn zn
      go_wp2_with fail
      refine (hs.out w2 RX2.out).mono ?_
      rintro e w3 ⟨rfl, hbn⟩
      have zn := hbn.size
      have RX3 := Lib.hid ((RX2.out.below hbn (Nat.le_refl _)).mono zn)
      have hb3 := Lib.hid (hb2.out.trans (hbn.mono hb2.out.size))
      clear hbn zn
      go_wp2_with fail
      go_ret
      exact ⟨rfl, hb3.out⟩
set_option maxRecDepth 100000 in
set_option maxHeartbeats 4000000 in
theorem law_FnMeetIn (v : Value) (a : Option Addr) (len cap : Nat) (w : World) (hv : v = .slice a len cap) (hc : len ≤ cap) (hcap : cap ≤ 9223372036854775807) (hB : Bytes w w.heap.size a len) :
    Calls Try.prog 7 #[v] w fun e w' => e = .returned (.bool true) ∧ Below w.heap.size w w' := by
  have h0 := Lib.hid (draw_MeetIn v a len cap w hv hc hcap hB)
  subst hv
  clear hB
  by_cases hbig : 1048576 < len
  · go_enter Try.func7, Try.ntmps7
    go_wp2_with fail
    go_ret
    exact ⟨rfl, Below.refl _ _⟩
  · go_enter Try.func7, Try.ntmps7
    go_wp2_with fail
    refine (h0.out).mono ?_
    rintro e w1 ⟨n, u, xs, rfl, hl, hO, hb⟩
    obtain ⟨ua, uc, rfl, _⟩ := id hO
    have z1 := hb.size
    have hb1 := Lib.hid hb
    have hi := fun (W : World) (h1 : Row W W.heap.size (.slice ua xs.length uc) xs) => im_MeetIn n _ xs W.heap.size W h1 (Nat.le_refl _) (by omega)
    have hs := fun (W : World) (h1 : Row W W.heap.size (.slice ua xs.length uc) xs) => sp_MeetIn n _ xs W.heap.size W h1 (Nat.le_refl _) (by omega)
    have RX1 := Lib.hid hO.row
    clear hb hO
    rcases (by cases (famB n xs && sameB (ucL andI xs) xs) <;> simp : (famB n xs && sameB (ucL andI xs) xs) = true ∨ (famB n xs && sameB (ucL andI xs) xs) = false) with hbv | hbv
    · simp only [hbv] at hi hs
      replace hi := Lib.hid (show ∀ (W : World), Row W W.heap.size (.slice ua xs.length uc) xs → Calls Try.prog 28 #[.int .i64 n, .slice ua xs.length uc] W (fun e w' => e = .returned (.bool true) ∧ Below W.heap.size W w') from hi)
      replace hs := Lib.hid (show ∀ (W : World), Row W W.heap.size (.slice ua xs.length uc) xs → Calls Try.prog 30 #[.int .i64 n, .slice ua xs.length uc] W (fun e w' => e = .returned (.bool true) ∧ Below W.heap.size W w') from hs)
      have hbb := hbv
      rw [Bool.and_eq_true] at hbb
      have fx := hbb.1
      have hfix : ucL andI xs = xs := of_decide_eq_true hbb.2
      have lx := famB_len fx
      obtain ⟨n1, n2, sx⟩ := famB_all fx
      have h0x : ∀ z ∈ xs, 0 ≤ z := fun z hz => (famB_lt fx z hz).1
      have hsx : sameB xs xs = true := decide_eq_true rfl
      have fO := fam_other fx
      have lO := famB_len fO
      have hdu := ucL_dual semi_and semi_or fx (fun x y => oth_meet)
      rw [hfix] at hdu
      obtain ⟨O, hO9⟩ : ∃ O, sortL (xs.map (otherI n)) = O := ⟨_, rfl⟩
      rw [hO9] at fO lO hdu
      have hso : sameB O O = true := decide_eq_true rfl
      have hc1 := fun (W : World) (v : Value) (h1 : Row W W.heap.size v xs) => im_MeetOf n v xs W.heap.size W h1 (Nat.le_refl _) (by omega)
      have hc2 := fun (W : World) (v : Value) (h1 : Row W W.heap.size v xs) => im_FamilyOther n v xs W.heap.size W h1 (Nat.le_refl _) (by omega)
      have hc3 := fun (W : World) (v : Value) (h1 : Row W W.heap.size v O) => im_UnionIn n v O W.heap.size W h1 (Nat.le_refl _) (by omega)
      simp only [fx, fO, hfix, hO9, hdu, hso, Bool.and_true] at hc1 hc2 hc3
      replace hc1 := Lib.hid (show ∀ (W : World) (v : Value), Row W W.heap.size v xs → Calls Try.prog 31 #[.int .i64 n, v] W (ListPost xs true W) from hc1)
      replace hc2 := Lib.hid (show ∀ (W : World) (v : Value), Row W W.heap.size v xs → Calls Try.prog 17 #[.int .i64 n, v] W (ListPost O true W) from hc2)
      replace hc3 := Lib.hid (show ∀ (W : World) (v : Value), Row W W.heap.size v O → Calls Try.prog 25 #[.int .i64 n, v] W (fun e w' => e = .returned (.bool true) ∧ Below W.heap.size W w') from hc3)
      replace hbv := Lib.hid hbv
      replace hbb := Lib.hid hbb
      replace fx := Lib.hid fx
      replace fO := Lib.hid fO
      replace hdu := Lib.hid hdu
      replace hO9 := Lib.hid hO9
      replace sx := Lib.hid sx
      replace h0x := Lib.hid h0x
      replace hfix := Lib.hid hfix
      go_wp2_with fail
      refine (hi.out w1 RX1.out).mono ?_
      rintro e w2 ⟨rfl, hbn⟩
      have zn := hbn.size
      have RX2 := Lib.hid ((RX1.out.below hbn (Nat.le_refl _)).mono zn)
      have hb2 := Lib.hid (hb1.out.trans (hbn.mono hb1.out.size))
      clear hbn zn
      go_wp2_with fail
      refine (hs.out w2 RX2.out).mono ?_
      rintro e w3 ⟨rfl, hbn⟩
      have zn := hbn.size
      have RX3 := Lib.hid ((RX2.out.below hbn (Nat.le_refl _)).mono zn)
      have hb3 := Lib.hid (hb2.out.trans (hbn.mono hb2.out.size))
      clear hbn zn
      go_wp2_with fail
      refine (hc1.out w3 _ RX3.out).mono ?_
      rintro e w4 ⟨v4, rfl, hN, hbn⟩
      obtain ⟨c4, d4, rfl, _⟩ := id hN
      have zn := hbn.size
      have RX4 := Lib.hid ((RX3.out.below hbn (Nat.le_refl _)).mono zn)
      have RY4 := Lib.hid hN.row
      have hb4 := Lib.hid (hb3.out.trans (hbn.mono hb3.out.size))
      clear hN hbn zn
      go_wp2_with fail
      refine (hc2.out w4 _ RX4.out).mono ?_
      rintro e w5 ⟨v5, rfl, hN, hbn⟩
      obtain ⟨c5, d5, rfl, _⟩ := id hN
      have zn := hbn.size
      have RX5 := Lib.hid ((RX4.out.below hbn (Nat.le_refl _)).mono zn)
      have RY5 := Lib.hid ((RY4.out.below hbn (Nat.le_refl _)).mono zn)
      have RO5 := Lib.hid hN.row
      have hb5 := Lib.hid (hb4.out.trans (hbn.mono hb4.out.size))
      clear hN hbn zn
      have hq5 := same_l _ _ xs xs w5.heap.size w5 RY5.out RX5.out (by omega) (by omega)
      rw [hsx] at hq5
      replace hq5 := Lib.hid hq5
      go_wp2_with fail
      refine (hq5.out).mono ?_
      rintro e w' ⟨rfl, q5, rfl⟩
      have hb6 := Lib.hid (below_drewN hb5.out q5)
      have RX6 := Lib.hid (show Row (w5.drewN q5) (w5.drewN q5).heap.size _ _ from RX5.out.drewN q5)
      have RY6 := Lib.hid (show Row (w5.drewN q5) (w5.drewN q5).heap.size _ _ from RY5.out.drewN q5)
      have RO6 := Lib.hid (show Row (w5.drewN q5) (w5.drewN q5).heap.size _ _ from RO5.out.drewN q5)
      obtain ⟨w6, hw6⟩ : ∃ w6, w5.drewN q5 = w6 := ⟨_, rfl⟩
      rw [hw6] at hb6 RX6 RY6 RO6 ⊢
      replace hw6 := Lib.hid hw6
      go_wp2_with fail
      refine (hc3.out w6 _ RO6.out).mono ?_
      rintro e w7 ⟨rfl, hbn⟩
      have zn := hbn.size
      have RX7 := Lib.hid ((RX6.out.below hbn (Nat.le_refl _)).mono zn)
      have RY7 := Lib.hid ((RY6.out.below hbn (Nat.le_refl _)).mono zn)
      have RO7 := Lib.hid ((RO6.out.below hbn (Nat.le_refl _)).mono zn)
      have hb7 := Lib.hid (hb6.out.trans (hbn.mono hb6.out.size))
      clear hbn zn
      go_wp2_with fail
      go_ret
      exact ⟨rfl, hb7.out⟩
    · simp only [hbv] at hi hs
      replace hi := Lib.hid (show ∀ (W : World), Row W W.heap.size (.slice ua xs.length uc) xs → Calls Try.prog 28 #[.int .i64 n, .slice ua xs.length uc] W (fun e w' => e = .returned (.bool false) ∧ Below W.heap.size W w') from hi)
      replace hs := Lib.hid (show ∀ (W : World), Row W W.heap.size (.slice ua xs.length uc) xs → Calls Try.prog 30 #[.int .i64 n, .slice ua xs.length uc] W (fun e w' => e = .returned (.bool false) ∧ Below W.heap.size W w') from hs)
      replace hbv := Lib.hid hbv
      go_wp2_with fail
      refine (hi.out w1 RX1.out).mono ?_
      rintro e w2 ⟨rfl, hbn⟩
      have zn := hbn.size
      have RX2 := Lib.hid ((RX1.out.below hbn (Nat.le_refl _)).mono zn)
      have hb2 := Lib.hid (hb1.out.trans (hbn.mono hb1.out.size))
      clear hbn zn
      go_wp2_with fail
      refine (hs.out w2 RX2.out).mono ?_
      rintro e w3 ⟨rfl, hbn⟩
      have zn := hbn.size
      have RX3 := Lib.hid ((RX2.out.below hbn (Nat.le_refl _)).mono zn)
      have hb3 := Lib.hid (hb2.out.trans (hbn.mono hb2.out.size))
      clear hbn zn
      go_wp2_with fail
      go_ret
      exact ⟨rfl, hb3.out⟩
set_option maxRecDepth 100000 in
set_option maxHeartbeats 4000000 in
theorem law_FnUpIn (v : Value) (a : Option Addr) (len cap : Nat) (w : World) (hv : v = .slice a len cap) (hc : len ≤ cap) (hcap : cap ≤ 9223372036854775807) (hB : Bytes w w.heap.size a len) :
    Calls Try.prog 10 #[v] w fun e w' => e = .returned (.bool true) ∧ Below w.heap.size w w' := by
  have h0 := Lib.hid (draw_UpIn v a len cap w hv hc hcap hB)
  subst hv
  clear hB
  by_cases hbig : 1048576 < len
  · go_enter Try.func10, Try.ntmps10
    go_wp2_with fail
    go_ret
    exact ⟨rfl, Below.refl _ _⟩
  · go_enter Try.func10, Try.ntmps10
    go_wp2_with fail
    refine (h0.out).mono ?_
    rintro e w1 ⟨n, u, xs, rfl, hl, hO, hb⟩
    obtain ⟨ua, uc, rfl, _⟩ := id hO
    have z1 := hb.size
    have hb1 := Lib.hid hb
    have hi := fun (W : World) (h1 : Row W W.heap.size (.slice ua xs.length uc) xs) => im_UpIn n _ xs W.heap.size W h1 (Nat.le_refl _) (by omega)
    have hs := fun (W : World) (h1 : Row W W.heap.size (.slice ua xs.length uc) xs) => sp_UpIn n _ xs W.heap.size W h1 (Nat.le_refl _) (by omega)
    have RX1 := Lib.hid hO.row
    clear hb hO
    rcases (by cases (famB n xs && sameB (upF n xs) xs) <;> simp : (famB n xs && sameB (upF n xs) xs) = true ∨ (famB n xs && sameB (upF n xs) xs) = false) with hbv | hbv
    · simp only [hbv] at hi hs
      replace hi := Lib.hid (show ∀ (W : World), Row W W.heap.size (.slice ua xs.length uc) xs → Calls Try.prog 38 #[.int .i64 n, .slice ua xs.length uc] W (fun e w' => e = .returned (.bool true) ∧ Below W.heap.size W w') from hi)
      replace hs := Lib.hid (show ∀ (W : World), Row W W.heap.size (.slice ua xs.length uc) xs → Calls Try.prog 39 #[.int .i64 n, .slice ua xs.length uc] W (fun e w' => e = .returned (.bool true) ∧ Below W.heap.size W w') from hs)
      have hbb := hbv
      rw [Bool.and_eq_true] at hbb
      have fx := hbb.1
      have hfix : upF n xs = xs := of_decide_eq_true hbb.2
      have lx := famB_len fx
      obtain ⟨n1, n2, sx⟩ := famB_all fx
      have h0x : ∀ z ∈ xs, 0 ≤ z := fun z hz => (famB_lt fx z hz).1
      have hsx : sameB xs xs = true := decide_eq_true rfl
      have fO : famB n (restL n xs) = true := rest_famq fx
      have lO := famB_len fO
      have hdn := rest_down fx hfix
      have hun := up_closed fx hfix
      have hre : sortL ((sortL (upI (2 ^ n.toNat))).filter (fun x => !memB x xs)) = restL n xs := rest_eqq n xs
      have hup : sortL ((sortL (upI (2 ^ n.toNat))).filter (fun s => xs.any (fun x => partB x s))) = xs := hfix
      obtain ⟨O, hO9⟩ : ∃ O, restL n xs = O := ⟨_, rfl⟩
      rw [hO9] at fO lO hdn hre
      have hso : sameB O O = true := decide_eq_true rfl
      have hc1 := fun (W : World) (v : Value) (h1 : Row W W.heap.size v xs) => im_ClosedUp n v xs W.heap.size W h1 (Nat.le_refl _) (by omega)
      have hc2 := fun (W : World) (v : Value) (h1 : Row W W.heap.size v xs) => im_FamilyRest n v xs W.heap.size W h1 (Nat.le_refl _) (by omega)
      have hc3 := fun (W : World) (v : Value) (h1 : Row W W.heap.size v O) => im_DownIn n v O W.heap.size W h1 (Nat.le_refl _) (by omega)
      have hc4 := fun (W : World) (v : Value) (h1 : Row W W.heap.size v xs) => im_UnionIn n v xs W.heap.size W h1 (Nat.le_refl _) (by omega)
      simp only [fx, fO, hup, hre, hdn, hun, hso, hsx, Bool.and_true] at hc1 hc2 hc3 hc4
      replace hc1 := Lib.hid (show ∀ (W : World) (v : Value), Row W W.heap.size v xs → Calls Try.prog 40 #[.int .i64 n, v] W (ListPost xs true W) from hc1)
      replace hc2 := Lib.hid (show ∀ (W : World) (v : Value), Row W W.heap.size v xs → Calls Try.prog 41 #[.int .i64 n, v] W (ListPost O true W) from hc2)
      replace hc3 := Lib.hid (show ∀ (W : World) (v : Value), Row W W.heap.size v O → Calls Try.prog 42 #[.int .i64 n, v] W (fun e w' => e = .returned (.bool true) ∧ Below W.heap.size W w') from hc3)
      replace hc4 := Lib.hid (show ∀ (W : World) (v : Value), Row W W.heap.size v xs → Calls Try.prog 25 #[.int .i64 n, v] W (fun e w' => e = .returned (.bool true) ∧ Below W.heap.size W w') from hc4)
      replace hbv := Lib.hid hbv
      replace hbb := Lib.hid hbb
      replace fx := Lib.hid fx
      replace fO := Lib.hid fO
      replace hdn := Lib.hid hdn
      replace hun := Lib.hid hun
      replace hre := Lib.hid hre
      replace hup := Lib.hid hup
      replace hO9 := Lib.hid hO9
      replace sx := Lib.hid sx
      replace h0x := Lib.hid h0x
      replace hfix := Lib.hid hfix
      go_wp2_with fail
      refine (hi.out w1 RX1.out).mono ?_
      rintro e w2 ⟨rfl, hbn⟩
      have zn := hbn.size
      have RX2 := Lib.hid ((RX1.out.below hbn (Nat.le_refl _)).mono zn)
      have hb2 := Lib.hid (hb1.out.trans (hbn.mono hb1.out.size))
      clear hbn zn
      go_wp2_with fail
      refine (hs.out w2 RX2.out).mono ?_
      rintro e w3 ⟨rfl, hbn⟩
      have zn := hbn.size
      have RX3 := Lib.hid ((RX2.out.below hbn (Nat.le_refl _)).mono zn)
      have hb3 := Lib.hid (hb2.out.trans (hbn.mono hb2.out.size))
      clear hbn zn
      go_wp2_with fail
      refine (hc1.out w3 _ RX3.out).mono ?_
      rintro e w4 ⟨v4, rfl, hN, hbn⟩
      obtain ⟨c4, d4, rfl, _⟩ := id hN
      have zn := hbn.size
      have RX4 := Lib.hid ((RX3.out.below hbn (Nat.le_refl _)).mono zn)
      have RY4 := Lib.hid hN.row
      have hb4 := Lib.hid (hb3.out.trans (hbn.mono hb3.out.size))
      clear hN hbn zn
      go_wp2_with fail
      refine (hc2.out w4 _ RX4.out).mono ?_
      rintro e w5 ⟨v5, rfl, hN, hbn⟩
      obtain ⟨c5, d5, rfl, _⟩ := id hN
      have zn := hbn.size
      have RX5 := Lib.hid ((RX4.out.below hbn (Nat.le_refl _)).mono zn)
      have RY5 := Lib.hid ((RY4.out.below hbn (Nat.le_refl _)).mono zn)
      have RO5 := Lib.hid hN.row
      have hb5 := Lib.hid (hb4.out.trans (hbn.mono hb4.out.size))
      clear hN hbn zn
      have hq5 := same_l _ _ xs xs w5.heap.size w5 RY5.out RX5.out (by omega) (by omega)
      rw [hsx] at hq5
      replace hq5 := Lib.hid hq5
      go_wp2_with fail
      refine (hq5.out).mono ?_
      rintro e w' ⟨rfl, q5, rfl⟩
      have hb6 := Lib.hid (below_drewN hb5.out q5)
      have RX6 := Lib.hid (show Row (w5.drewN q5) (w5.drewN q5).heap.size _ _ from RX5.out.drewN q5)
      have RY6 := Lib.hid (show Row (w5.drewN q5) (w5.drewN q5).heap.size _ _ from RY5.out.drewN q5)
      have RO6 := Lib.hid (show Row (w5.drewN q5) (w5.drewN q5).heap.size _ _ from RO5.out.drewN q5)
      obtain ⟨w6, hw6⟩ : ∃ w6, w5.drewN q5 = w6 := ⟨_, rfl⟩
      rw [hw6] at hb6 RX6 RY6 RO6 ⊢
      replace hw6 := Lib.hid hw6
      go_wp2_with fail
      refine (hc3.out w6 _ RO6.out).mono ?_
      rintro e w7 ⟨rfl, hbn⟩
      have zn := hbn.size
      have RX7 := Lib.hid ((RX6.out.below hbn (Nat.le_refl _)).mono zn)
      have RY7 := Lib.hid ((RY6.out.below hbn (Nat.le_refl _)).mono zn)
      have RO7 := Lib.hid ((RO6.out.below hbn (Nat.le_refl _)).mono zn)
      have hb7 := Lib.hid (hb6.out.trans (hbn.mono hb6.out.size))
      clear hbn zn
      go_wp2_with fail
      refine (hc4.out w7 _ RX7.out).mono ?_
      rintro e w8 ⟨rfl, hbn⟩
      have zn := hbn.size
      have RX8 := Lib.hid ((RX7.out.below hbn (Nat.le_refl _)).mono zn)
      have RY8 := Lib.hid ((RY7.out.below hbn (Nat.le_refl _)).mono zn)
      have RO8 := Lib.hid ((RO7.out.below hbn (Nat.le_refl _)).mono zn)
      have hb8 := Lib.hid (hb7.out.trans (hbn.mono hb7.out.size))
      clear hbn zn
      go_wp2_with fail
      go_ret
      exact ⟨rfl, hb8.out⟩
    · simp only [hbv] at hi hs
      replace hi := Lib.hid (show ∀ (W : World), Row W W.heap.size (.slice ua xs.length uc) xs → Calls Try.prog 38 #[.int .i64 n, .slice ua xs.length uc] W (fun e w' => e = .returned (.bool false) ∧ Below W.heap.size W w') from hi)
      replace hs := Lib.hid (show ∀ (W : World), Row W W.heap.size (.slice ua xs.length uc) xs → Calls Try.prog 39 #[.int .i64 n, .slice ua xs.length uc] W (fun e w' => e = .returned (.bool false) ∧ Below W.heap.size W w') from hs)
      replace hbv := Lib.hid hbv
      go_wp2_with fail
      refine (hi.out w1 RX1.out).mono ?_
      rintro e w2 ⟨rfl, hbn⟩
      have zn := hbn.size
      have RX2 := Lib.hid ((RX1.out.below hbn (Nat.le_refl _)).mono zn)
      have hb2 := Lib.hid (hb1.out.trans (hbn.mono hb1.out.size))
      clear hbn zn
      go_wp2_with fail
      refine (hs.out w2 RX2.out).mono ?_
      rintro e w3 ⟨rfl, hbn⟩
      have zn := hbn.size
      have RX3 := Lib.hid ((RX2.out.below hbn (Nat.le_refl _)).mono zn)
      have hb3 := Lib.hid (hb2.out.trans (hbn.mono hb2.out.size))
      clear hbn zn
      go_wp2_with fail
      go_ret
      exact ⟨rfl, hb3.out⟩
end Go.Proofs.Ythljimmhgpbmbab
