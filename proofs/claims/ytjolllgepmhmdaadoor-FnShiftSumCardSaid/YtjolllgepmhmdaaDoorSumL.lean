/- The law FnShiftSum over the program: sums are those of degrees. -/
import Derived.Test.YtjolllgepmhmdaaDoorSumB
import Derived.Test.YtjolllgepmhmdaaDoorDrawF
namespace Go.Proofs.YtjolllgepmhmdaaDoor
open Go.ChangeShapes Go.WideShapes Go.ChangeAt Go.RowKit Go.Proofs

set_option maxRecDepth 100000 in
set_option maxHeartbeats 4000000 in
theorem law_FnShiftSum (v : Value) (a : Option Addr) (len cap : Nat) (w : World) (hv : v = .slice a len cap) (hc : len ≤ cap) (hcap : cap ≤ 9223372036854775807) (hB : Bytes w w.heap.size a len) (hT0 : Tab w) :
    Calls Tryd.prog 3 #[v] w fun e w' => e = .returned (.bool true) ∧ Below w.heap.size w w' := by
  have h0 := Lib.hid (draw_ShiftSum v a len cap w hv hc hcap hB)
  have htl := hT0.lt
  replace hT0 := Lib.hid hT0
  subst hv
  clear hB
  by_cases hbig : 1048576 < len
  · go_enter Tryd.func3, Tryd.ntmps3
    go_wp2_with fail
    go_ret
    exact ⟨rfl, Below.refl _ _⟩
  · go_enter Tryd.func3, Tryd.ntmps3
    go_wp2_with fail
    refine (h0.out).mono ?_
    rintro e w1 ⟨n, u, xs, rfl, hl, hO, hb⟩
    obtain ⟨ua, uc, rfl, _⟩ := id hO
    have z1 := hb.size
    have hb1 := Lib.hid hb
    have hT1 := Lib.hid (hT0.out.below hb htl)
    have htl1 : _ := hT1.out.lt
    have hi := im_ShiftSum n _ xs _ w1 hO.row (Nat.le_refl _) (by omega) hT1.out
    have hs := fun (W : World) (hW : Below w1.heap.size w1 W) => sp_ShiftSum n _ xs w1.heap.size W (hO.row.below hW (Nat.le_refl _)) hW.size (by omega)
    have RX1 := Lib.hid hO.row
    have hd := fun (W : World) (hW : Below w1.heap.size w1 W) => im_FamilyDegrees n _ xs w1.heap.size W (RX1.out.below hW (Nat.le_refl _)) hW.size (by omega) (hT1.out.below hW htl1)
    clear hb hO
    obtain ⟨c, hcv⟩ : ∃ c, ssV n xs = c := ⟨_, rfl⟩
    rcases (by cases famB n xs <;> simp : famB n xs = true ∨ famB n xs = false) with hbv | hbv
    · have hV : sumP xs n.toNat = c := by rw [← hcv]; unfold ssV; rw [if_pos hbv]
      rw [hbv, hcv] at hi hs
      rw [hbv] at hd
      replace hd := Lib.hid (fun (W : World) (hW : Below w1.heap.size w1 W) => (show Calls _ _ _ _ (ListPost (degL n.toNat xs) true W) from hd W hW))
      obtain ⟨n1, n2, _⟩ := famB_all hbv
      have l1 := famB_len hbv
      obtain ⟨N, hN⟩ : ∃ N : Nat, n.toNat = N := ⟨_, rfl⟩
      rw [hN] at hd hV
      obtain rfl : n = (N : Nat) := by omega
      have hN8 : N ≤ 8 := by omega
      replace hi := Lib.hid hi
      replace hs := Lib.hid hs
      replace hV := Lib.hid hV
      replace hN := Lib.hid hN
      replace hcv := Lib.hid hcv
      replace hbv := Lib.hid hbv
      go_wp2_with fail
      refine (hi.out).mono ?_
      rintro e w2 ⟨rfl, hbn⟩
      have hb2 := Lib.hid (hb1.out.trans (hbn.mono hb1.out.size))
      have hcs := Lib.hid (hs.out w2 hbn)
      have hw2 := Lib.hid hbn
      clear hbn
      go_wp2_with fail
      refine (hcs.out).mono ?_
      rintro e w3 ⟨rfl, hbn⟩
      have hb3 := Lib.hid (hb2.out.trans (hbn.mono hb2.out.size))
      have hcd := Lib.hid (hd.out w3 (hw2.out.trans (hbn.mono hw2.out.size)))
      clear hbn
      have hcc : (c != c) = false := by simp
      have hce : (c == c) = true := by simp
      go_wp2_with fail
      refine (hcd.out).mono ?_
      rintro e w4 ⟨v4, rfl, hO, hbn⟩
      have hb4 := Lib.hid (hb3.out.trans (hbn.mono hb3.out.size))
      obtain ⟨_, _, rfl, hcell⟩ := hO.row
      have hd0 : (degL N xs).length = N := degL_len _ _
      rw [hd0] at hcell ⊢
      replace hcell := Lib.hid hcell
      clear hbn hO
      go_wp2_with fail
      go_loop [11, 12] (fun v q => ∃ k : Nat, k ≤ N ∧ q = .int .i64 k ∧ v = .int .i64 (sumP xs k)) (fun _ q => N - (intOf q).toNat)
      case atStart => exact ⟨0, by omega, rfl, rfl⟩
      case round =>
      obtain ⟨k, hk, rfl, rfl⟩ := hrel
      by_cases hlt : k < N
      · obtain ⟨b1, o1, rfl, t2, c1⟩ := hcell.out (by omega)
        have k1 : (0 : Int) ≤ (k : Int) := by omega
        have k2 : (k : Int) < (N : Nat) := by omega
        have e1 := c1 k (by rw [degL_len]; exact hlt)
        have hg : (degL N xs).getD k 0 = dgP xs k := by unfold degL; rw [List.getD_eq_getElem?_getD, List.getElem?_map, List.getElem?_range hlt]; rfl
        rw [hg] at e1
        have hss : sumP xs (k + 1) = sumP xs k + k * dgP xs k := rfl
        have hbd := sumP_bd l1 k (by omega)
        have hdb := dgP_bd xs k
        obtain ⟨d, hdd⟩ : ∃ d, dgP xs k = d := ⟨_, rfl⟩
        rw [hdd] at e1 hss hdb
        obtain ⟨s, hsv⟩ : ∃ s, sumP xs k = s := ⟨_, rfl⟩
        rw [hsv] at hss hbd ⊢
        have m1 : 0 ≤ (k : Int) * d := Int.mul_nonneg (by omega) hdb.1
        have m2 : (k : Int) * d ≤ 8 * 256 := Int.mul_le_mul (by omega) (by omega) hdb.1 (by omega)
        have d1 : 0 ≤ d := hdb.1
        have d2 : d ≤ 256 := by omega
        have t1 : 0 ≤ s := hbd.1
        have t2 : s ≤ 100000 := by omega
        have w1' : wrap64 ((k : Int) * d) = (k : Int) * d := by unfold wrap64; omega
        have w2' : wrap64 (s + (k : Int) * d) = s + (k : Int) * d := by unfold wrap64; omega
        replace hss := Lib.hid hss
        replace hsv := Lib.hid hsv
        replace hdd := Lib.hid hdd
        replace hg := Lib.hid hg
        clear c1 hbd hdb
        go_wp2_with fail
        go_round
        case rel => exact ⟨k + 1, by omega, by go_num, by rw [hss.out]⟩
        case measure => simp [intOf]; omega
      obtain rfl : k = N := by omega
      rw [hV.out]
      go_wp2_with fail
      go_ret
      first | exact ⟨rfl, hb4.out⟩ | exact ⟨ret_bool (by simp), hb4.out⟩
    · have hV : ssV n xs = 0 := by unfold ssV; rw [hbv]; rfl
      obtain rfl : c = 0 := by omega
      rw [hbv, hcv] at hi hs
      replace hi := Lib.hid hi
      replace hs := Lib.hid hs
      replace hV := Lib.hid hV
      replace hcv := Lib.hid hcv
      replace hbv := Lib.hid hbv
      clear hd
      go_wp2_with fail
      refine (hi.out).mono ?_
      rintro e w2 ⟨rfl, hbn⟩
      have hb2 := Lib.hid (hb1.out.trans (hbn.mono hb1.out.size))
      have hcs := Lib.hid (hs.out w2 hbn)
      clear hbn
      go_wp2_with fail
      refine (hcs.out).mono ?_
      rintro e w3 ⟨rfl, hbn⟩
      have hb3 := Lib.hid (hb2.out.trans (hbn.mono hb2.out.size))
      clear hbn
      go_wp2_with fail
      go_ret
      first | exact ⟨rfl, hb3.out⟩ | exact ⟨ret_bool (by simp), hb3.out⟩
end Go.Proofs.YtjolllgepmhmdaaDoor
