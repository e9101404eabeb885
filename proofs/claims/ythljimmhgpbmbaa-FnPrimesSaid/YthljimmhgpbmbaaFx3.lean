/- Laws of chapter 9: primes, what is closed, up families. -/
import Derived.Test.YthljimmhgpbmbaaFx1
import Derived.Test.YthljimmhgpbmbaaFm1
import Derived.Test.YthljimmhgpbmbaaCs3
import Derived.Test.YthljimmhgpbmbaaPm2
import Derived.Test.YthljimmhgpbmbaaDf
import Derived.Test.YthljimmhgpbmbaaAllD
import Derived.Test.YthljimmhgpbmbaaSameL
import Derived.Test.YthljimmhgpbmbaaAllSp
namespace Go.Proofs.Ythljimmhgpbmbaa
open Go.ChangeShapes Go.WideShapes Go.ChangeAt Go.RowKit Go.Proofs

set_option maxRecDepth 100000 in
set_option maxHeartbeats 4000000 in
theorem law_FnPrimes (v : Value) (a : Option Addr) (len cap : Nat) (w : World) (hv : v = .slice a len cap) (hc : len ≤ cap) (hcap : cap ≤ 9223372036854775807) (hB : Bytes w w.heap.size a len) :
    Calls Try.prog 3 #[v] w fun e w' => e = .returned (.bool true) ∧ Below w.heap.size w w' := by
  have h0 := Lib.hid (draw_UnionPrimes v a len cap w hv hc hcap hB)
  subst hv
  clear hB
  by_cases hbig : 1048576 < len
  · go_enter Try.func3, Try.ntmps3
    go_wp2_with fail
    go_ret
    exact ⟨rfl, Below.refl _ _⟩
  · go_enter Try.func3, Try.ntmps3
    go_wp2_with fail
    refine (h0.out).mono ?_
    rintro e w1 ⟨n, u, xs, rfl, hl, hO, hb⟩
    obtain ⟨ua, uc, rfl, _⟩ := id hO
    have z1 := hb.size
    have hb1 := Lib.hid hb
    have hi := im_UnionPrimes n _ xs _ w1 hO.row (Nat.le_refl _) (by omega)
    have hs := fun (W : World) (hW : Below w1.heap.size w1 W) => sp_UnionPrimes n _ xs w1.heap.size W (hO.row.below hW (Nat.le_refl _)) hW.size (by omega)
    have RX1 := Lib.hid hO.row
    clear hb hO
    rcases (by cases (famB n xs && sameB (ucL orI xs) xs) <;> simp : (famB n xs && sameB (ucL orI xs) xs) = true ∨ (famB n xs && sameB (ucL orI xs) xs) = false) with hbv | hbv
    · rw [hbv] at hi hs
      replace hi := Lib.hid (show Calls _ _ _ _ (ListPost (sortL (primL xs)) true w1) from hi)
      replace hs := fun (W : World) (hW : Below w1.heap.size w1 W) => (show Calls _ _ _ _ (ListPost (sortL (primL xs)) true W) from hs W hW)
      obtain ⟨T, hT⟩ : ∃ T, sortL (primL xs) = T := ⟨_, rfl⟩
      rw [hT] at hi hs
      have hsame : sameB T T = true := decide_eq_true rfl
      have hbb := hbv
      rw [Bool.and_eq_true] at hbb
      have fx := hbb.1
      have hfix : ucL orI xs = xs := of_decide_eq_true hbb.2
      have lx := famB_len fx
      obtain ⟨n1, n2, sx⟩ := famB_all fx
      have h0x : ∀ z ∈ xs, 0 ≤ z := fun z hz => (famB_lt fx z hz).1
      have hmk := primes_make (famB_asc fx) h0x ((ucL_fix semi_or (famB_asc fx) h0x).1 hfix)
      have fT : famB n T = true := hT ▸ fam_sub _ fx
      have lT := famB_len fT
      rw [hT] at hmk
      have lU : (xs.filter (fun z => z != 0)).length ≤ 256 := Nat.le_trans (List.length_filter_le _ _) lx
      have hc1 := fun (W : World) (v : Value) (h1 : Row W W.heap.size v T) => im_UnionOf n v T W.heap.size W h1 (Nat.le_refl _) (by omega)
      obtain ⟨U, hU⟩ : ∃ U, xs.filter (fun z => z != 0) = U := ⟨_, rfl⟩
      rw [hU] at hmk lU
      have hsu : sameB U U = true := decide_eq_true rfl
      simp only [fT, hmk] at hc1
      replace hc1 := Lib.hid (show ∀ (W : World) (v : Value), Row W W.heap.size v T → Calls Try.prog 19 #[.int .i64 n, v] W (ListPost U true W) from hc1)
      replace hbv := Lib.hid hbv
      replace hbb := Lib.hid hbb
      replace fx := Lib.hid fx
      replace hfix := Lib.hid hfix
      replace fT := Lib.hid fT
      replace hmk := Lib.hid hmk
      replace hU := Lib.hid hU
      replace sx := Lib.hid sx
      replace h0x := Lib.hid h0x
      replace hs := Lib.hid hs
      replace hT := Lib.hid hT
      go_wp2_with fail
      refine (hi.out).mono ?_
      rintro e w2 ⟨v2, rfl, hN, hbn⟩
      obtain ⟨c2, d2, rfl, _⟩ := id hN
      have zn := hbn.size
      have RX2 := Lib.hid ((RX1.out.below hbn (Nat.le_refl _)).mono zn)
      have RT2 := Lib.hid hN.row
      have hb2 := Lib.hid (hb1.out.trans (hbn.mono hb1.out.size))
      have hbr := Lib.hid hbn
      clear hN hbn zn
      have hcs := Lib.hid (hs.out w2 hbr.out)
      go_wp2_with fail
      refine (hcs.out).mono ?_
      rintro e w3 ⟨v3, rfl, hN, hbn⟩
      obtain ⟨c3, d3, rfl, _⟩ := id hN
      have zn := hbn.size
      have RX3 := Lib.hid ((RX2.out.below hbn (Nat.le_refl _)).mono zn)
      have RT3 := Lib.hid ((RT2.out.below hbn (Nat.le_refl _)).mono zn)
      have RM3 := Lib.hid hN.row
      have hb3 := Lib.hid (hb2.out.trans (hbn.mono hb2.out.size))
      clear hN hbn zn
      have hq3 := same_l _ _ T T w3.heap.size w3 RT3.out RM3.out (by omega) (by omega)
      rw [hsame] at hq3
      replace hq3 := Lib.hid hq3
      go_wp2_with fail
      refine (hq3.out).mono ?_
      rintro e w' ⟨rfl, q3, rfl⟩
      have hb4 := Lib.hid (below_drewN hb3.out q3)
      have RX4 := Lib.hid (show Row (w3.drewN q3) (w3.drewN q3).heap.size _ _ from RX3.out.drewN q3)
      have RT4 := Lib.hid (show Row (w3.drewN q3) (w3.drewN q3).heap.size _ _ from RT3.out.drewN q3)
      have RM4 := Lib.hid (show Row (w3.drewN q3) (w3.drewN q3).heap.size _ _ from RM3.out.drewN q3)
      obtain ⟨w4, hw4⟩ : ∃ w4, w3.drewN q3 = w4 := ⟨_, rfl⟩
      rw [hw4] at hb4 RX4 RT4 RM4 ⊢
      replace hw4 := Lib.hid hw4
      go_wp2_with fail
      refine (hc1.out w4 _ RT4.out).mono ?_
      rintro e w5 ⟨v5, rfl, hN, hbn⟩
      obtain ⟨c5, d5, rfl, _⟩ := id hN
      have zn := hbn.size
      have RX5 := Lib.hid ((RX4.out.below hbn (Nat.le_refl _)).mono zn)
      have RT5 := Lib.hid ((RT4.out.below hbn (Nat.le_refl _)).mono zn)
      have RM5 := Lib.hid ((RM4.out.below hbn (Nat.le_refl _)).mono zn)
      have RU5 := Lib.hid hN.row
      have hb5 := Lib.hid (hb4.out.trans (hbn.mono hb4.out.size))
      clear hN hbn zn
      clear RT5 RM5
      go_wp2_with fail
      go_loopw [11, 12] (fun v q wr => ∃ k : Nat, k ≤ xs.length ∧ q = .int .i64 k ∧ Hid (OwnL wr w5.heap.size v ((xs.take k).filter (fun z => z != 0))) ∧ Hid (Below w5.heap.size w5 wr)) (fun _ q _ => xs.length - (intOf q).toNat)
      case atStart => exact ⟨0, by omega, rfl, Lib.hid (OwnL.lit w5 (Nat.le_refl _)), Lib.hid ((Below.refl _ _).alloc (Nat.le_refl _) _)⟩
      case round =>
        obtain ⟨k, hk, rfl, hown, hbel⟩ := hrel
        have hsz := hbel.out.size
        by_cases hlt : k < xs.length
        · obtain ⟨ra, rc, re, rh⟩ := RX5.out
          injection re with re1 re2 re3
          subst re1 re3
          obtain ⟨b1, o1, rfl, t1, c1⟩ := rh (by omega)
          have k1 : (0 : Int) ≤ (k : Int) := by omega
          have k2 : (k : Int) < (xs.length : Nat) := by omega
          have e1 : wr.cell? ⟨b1, o1 + k, none⟩ = some (.int .i64 (xs.getD k 0)) := (hbel.out.cell (p := ⟨b1, o1 + k, none⟩) (show b1 < w5.heap.size by omega)).trans (c1 k hlt)
          have hlen : ((xs.take k).filter (fun z => z != 0)).length ≤ 1073741824 := by have h := List.length_filter_le (fun z : Int => z != 0) (xs.take k); rw [List.length_take] at h; omega
          obtain ⟨x, hx0⟩ : ∃ x, xs.getD k 0 = x := ⟨_, rfl⟩
          rw [hx0] at e1
          have hst := filter_take hlt hx0 (fun z => z != 0)
          obtain ⟨ys, hys⟩ : ∃ ys, (xs.take k).filter (fun z => z != 0) = ys := ⟨_, rfl⟩
          rw [hys] at hown hlen hst
          obtain ⟨a', c', rfl⟩ := hown.out.form
          replace hx0 := Lib.hid hx0
          replace hys := Lib.hid hys
          clear c1 rh
          rcases (by cases (x != 0) <;> simp : (x != 0) = true ∨ (x != 0) = false) with hp | hp
          · rw [hp, if_pos rfl] at hst
            have hB1 : w5.heap.size ≤ (wr.alloc (.cells #[.int .i64 x] 3)).heap.size := by rw [World.size_alloc]; omega
            replace hst := Lib.hid hst.symm
            go_wp2_with (at_builtin; refine app_int rfl _ _ rfl w5.heap.size _ ys rfl (hown.out.alloc _) x wr.heap.size rfl (cell_new _ _ _) hlen hB1 ?_; intro v' w' hown1 hbx)
            rw [hst.out] at hown1
            replace hown1 := Lib.hid hown1
            have hb2 := Lib.hid ((hbel.out.alloc hsz _).trans hbx)
            go_roundw
            case rel => exact ⟨k + 1, by omega, by go_num, hown1, hb2⟩
            case measure => simp [intOf]; omega
          · rw [hp, if_neg (by simp), List.append_nil] at hst
            replace hst := Lib.hid hst
            go_wp2_with fail
            go_roundw
            case rel => exact ⟨k + 1, by omega, by go_num, by rw [hst.out]; exact hown, hbel⟩
            case measure => simp [intOf]; omega
        · have hO := hown.out
          rw [List.take_of_length_le (by omega), hU.out] at hO
          obtain ⟨a', c', rfl⟩ := hO.form
          have hq5 := same_l _ _ U U wr.heap.size wr ((RU5.out.below hbel.out (Nat.le_refl _)).mono hsz) hO.own.row (by omega) (by omega)
          rw [hsu] at hq5
          replace hq5 := Lib.hid hq5
          have hb6 := Lib.hid (hb5.out.trans (hbel.out.mono hb5.out.size))
          clear hO hown
          go_wp2_with fail
          refine hq5.out.mono ?_
          rintro e w' ⟨rfl, q5, rfl⟩
          go_wp2_with fail
          go_ret
          exact ⟨rfl, below_drewN hb6.out q5⟩
    · rw [hbv] at hi hs
      replace hi := Lib.hid (show Calls _ _ _ _ (ListPost [] false w1) from hi)
      replace hs := Lib.hid (fun (W : World) (hW : Below w1.heap.size w1 W) => (show Calls _ _ _ _ (ListPost [] false W) from hs W hW))
      have hsame : sameB ([] : List Int) [] = true := decide_eq_true rfl
      replace hbv := Lib.hid hbv
      go_wp2_with fail
      refine hi.out.mono ?_
      rintro e w2 ⟨v2, rfl, hO2, hb2⟩
      obtain ⟨va, vc, rfl, _⟩ := id hO2
      have z2 := hb2.size
      have hcs := Lib.hid (hs.out w2 hb2)
      replace hO2 := Lib.hid hO2
      replace hb2 := Lib.hid (hb1.out.trans (hb2.mono z1))
      go_wp2_with fail
      refine hcs.out.mono ?_
      rintro e w3 ⟨v3, rfl, hO3, hb3⟩
      obtain ⟨ya, yc, rfl, _⟩ := id hO3
      have z3 := hb3.size
      have hO23 := Lib.hid (hO2.out.below hb3 (Nat.le_refl _))
      replace hO3 := Lib.hid hO3
      replace hb3 := Lib.hid (hb2.out.trans (hb3.mono hb2.out.size))
      have hq : ∀ W, (∃ q, W = w3.drewN q) → Calls Try.prog 18 #[.slice va ([] : List Int).length vc, .slice ya ([] : List Int).length yc] W fun e w' => e = .returned (.bool true) ∧ ∃ n, w' = W.drewN n := by
        rintro W ⟨q, rfl⟩
        have := same_l (.slice va ([] : List Int).length vc) (.slice ya ([] : List Int).length yc) _ _ w3.heap.size (w3.drewN q) ((hO23.out.row.mono z3).drewN q) (hO3.out.row.drewN q) (by simp) (by simp)
        rw [hsame] at this
        exact this
      replace hq := Lib.hid hq
      go_wp2_with fail
      refine (hq.out w3 ⟨0, rfl⟩).mono ?_
      rintro e w4 ⟨rfl, q, rfl⟩
      go_wp2_with fail
      refine (hq.out _ ⟨q, rfl⟩).mono ?_
      rintro e w5 ⟨rfl, q5, rfl⟩
      go_wp2_with fail
      go_ret
      exact ⟨rfl, below_drewN hb3.out _⟩
end Go.Proofs.Ythljimmhgpbmbaa
