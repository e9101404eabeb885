/- The law of chains. -/
import Derived.Test.YtffnpignkimkhaaDoorCh5
namespace Go.Proofs.YtffnpignkimkhaaDoor
open Go.ChangeShapes Go.WideShapes Go.ChangeAt Go.RowKit

theorem cnt8 (s : Int) : 0 ≤ cntI s ∧ cntI s ≤ 8 := by
  have := cnt_le s 8
  unfold cntI
  omega
theorem any_one {xs : List Int} {k : Nat} {z : Int} (hk : k < xs.length) (hz : xs.getD k 0 = z) (s : Int) {b : Bool} (hb : (xs.take k).any (fun z => z == s) = b) : (xs.take (k + 1)).any (fun z => z == s) = (b || (z == s)) := by
  rw [take_snoc hk, hz, List.any_append, hb]; simp
set_option maxRecDepth 100000 in
set_option maxHeartbeats 8000000 in
theorem law_FnChain (v : Value) (a : Option Addr) (len cap : Nat) (w : World) (hv : v = .slice a len cap) (hc : len ≤ cap) (hcap : cap ≤ 9223372036854775807) (hB : Bytes w w.heap.size a len) (hT : Tab w) :
    Calls Tryd.prog 3 #[v] w fun e w' => e = .returned (.bool true) ∧ Below w.heap.size w w' := by
  have h0 := Lib.hid (draw_ChainOf v a len cap w hv hc hcap hB)
  have htl := hT.lt
  replace hT := Lib.hid hT
  subst hv
  clear hB
  by_cases hbig : 1048576 < len
  · go_enter Tryd.func3, Tryd.ntmps3
    go_wp2_with fail
    go_ret
    exact ⟨rfl, Below.refl _ _⟩
  · go_enter Tryd.func3, Tryd.ntmps3
    go_wp2_with fail
    refine (h0.out).mono ?_
    rintro e w1 ⟨n, s, rfl, hb⟩
    have hz := hb.size
    have hT1 := Lib.hid (hT.out.below hb htl)
    replace hb := Lib.hid hb
    have c1 := Lib.hid (fun x W hW => im_ChainOf n x W hW)
    have c2 := Lib.hid (sp_ChainOf n s)
    obtain ⟨xs, hxs⟩ : ∃ xs, chnI n s = xs := ⟨_, rfl⟩
    have hxl : xs.length ≤ 1000000 := by rw [← hxs]; exact chnI_len n s
    have hsame : sameB xs xs = true := decide_eq_true rfl
    have d1 := c1.out s w1 hT1.out
    rw [hxs] at d1
    replace d1 := Lib.hid d1
    replace c2 := Lib.hid (by have h := c2.out; rw [hxs] at h; exact h)
    rcases (by cases setB n s <;> simp : setB n s = true ∨ setB n s = false) with h | h
    · obtain ⟨n1, n2, s1, s2⟩ := setB_yes h
      obtain ⟨N, rfl⟩ := Int.eq_ofNat_of_zero_le (show 0 ≤ n by omega)
      rw [Int.toNat_natCast] at s2
      have hL : xs = chnL N s := by rw [← hxs, chnI, if_pos h, Int.toNat_natCast]
      obtain ⟨f1, f2, f3, f4, f5⟩ := chn_law (N := N) (by omega) s1 s2
      rw [← hL] at f1 f2 f3 f4 f5
      rw [h] at d1 c2
      replace f1 := Lib.hid f1
      replace f2 := Lib.hid f2
      replace f3 := Lib.hid f3
      replace f4 := Lib.hid f4
      replace hL := Lib.hid hL
      replace hxs := Lib.hid hxs
      replace h := Lib.hid h
      go_wp2_with fail
      refine d1.out.mono ?_
      rintro e w2 ⟨v2, rfl, hO2, hb2⟩
      obtain ⟨va, vc, rfl, _⟩ := id hO2
      have z2 := hb2.size
      replace hO2 := Lib.hid hO2
      have hb21 := Lib.hid hb2
      replace hb2 := Lib.hid (hb.out.trans (hb2.mono hz))
      go_wp2_with fail
      refine (c2.out _).mono ?_
      rintro e w3 ⟨v3, rfl, hO3, hb3⟩
      obtain ⟨ya, yc, rfl, _⟩ := id hO3
      have z3 := hb3.size
      have hO23 := Lib.hid (hO2.out.below hb3 (Nat.le_refl _))
      have hb13 := Lib.hid (hb21.out.trans (hb3.mono hb21.out.size))
      replace hb3 := Lib.hid (hb2.out.trans (hb3.mono hb2.out.size))
      have hq := same_l (.slice va xs.length vc) (.slice ya xs.length yc) _ _ w3.heap.size w3 (hO23.out.row.mono z3) hO3.row (by omega) (by omega)
      rw [hsame] at hq
      replace hq := Lib.hid hq
      clear hO3
      go_wp2_with fail
      refine hq.out.mono ?_
      rintro e w4 ⟨rfl, q, rfl⟩
      have hR4 : Row (w3.drewN q) w3.heap.size (.slice va xs.length vc) xs := (hO23.out.row.mono z3).drewN q
      have hb4 := Lib.hid (below_drewN hb3.out q)
      have hbT := Lib.hid (below_drewN ((Below.refl w1.heap.size w1).trans (hb13.out)) q)
      have hz4 : w3.heap.size = (w3.drewN q).heap.size := rfl
      obtain ⟨w4, hw4⟩ : ∃ w4, w3.drewN q = w4 := ⟨_, rfl⟩
      rw [hw4] at hb4 hR4 hz4 hbT ⊢
      rw [hz4] at hR4
      have hT4 := Lib.hid (hT1.out.below hbT.out (by omega))
      have htl4 := hT4.out.lt
      obtain ⟨ra, rc, hre, hrow⟩ := hR4
      cases hre
      replace hrow := Lib.hid hrow
      replace hw4 := Lib.hid hw4
      clear hO23 hq hb3 hbT hb13 hT1
      go_wp2_with fail
      go_loopw [9, 10] (fun b i wr => ∃ k : Nat, k ≤ xs.length ∧ i = .int .i64 (k : Nat) ∧ b = .bool ((xs.take k).any (fun z => z == s)) ∧ Hid (Below w4.heap.size w4 wr)) (fun _ i _ => xs.length - (intOf i).toNat)
      case atStart => exact ⟨0, by omega, rfl, rfl, Lib.hid (Below.refl _ _)⟩
      case round =>
        obtain ⟨k, hk, rfl, rfl, hbel⟩ := hrel
        have hsz := hbel.out.size
        obtain ⟨b1, o1, rfl, t1, cc⟩ := hrow.out (by omega)
        by_cases hlt : k < xs.length
        · have k1 : (0 : Int) ≤ (k : Int) := by omega
          have k2 : (k : Int) < (xs.length : Nat) := by omega
          have e1 := (hbel.out.cell (p := ⟨b1, o1 + k, none⟩) (show b1 < w4.heap.size by omega)).trans (cc k hlt)
          obtain ⟨z, hzk⟩ : ∃ z, xs.getD k 0 = z := ⟨_, rfl⟩
          rw [hzk] at e1
          obtain ⟨z1, z2', hzc⟩ := f1.out z (by rw [← hzk]; exact getD_mem hlt)
          have hsb : setB (N : Nat) z = true := setB_mk ⟨n1, n2, z1, by rw [Int.toNat_natCast]; exact z2'⟩
          have d2 := c1.out z wr (hT4.out.below hbel.out htl4)
          rw [hsb, chnI, if_pos hsb, Int.toNat_natCast, hzc] at d2
          replace d2 := Lib.hid d2
          clear hzc hsb
          have hzb : z < 256 := Int.lt_of_lt_of_le z2' (by have : 2 ^ N ≤ 2 ^ 8 := Nat.pow_le_pow_right (by omega) (show N ≤ 8 by omega); have h := Int.ofNat_le.2 this; simpa using h)
          have hsz1 := fun W => law_size z z1 hzb W
          have hcz := cnt8 z
          obtain ⟨cz, hcz2⟩ : ∃ cz, cntI z = cz := ⟨_, rfl⟩
          rw [hcz2] at hsz1 hcz
          replace hsz1 := Lib.hid hsz1
          obtain ⟨bb, hbb⟩ : ∃ bb, (xs.take k).any (fun z => z == s) = bb := ⟨_, rfl⟩
          have hnx := any_one hlt hzk s hbb
          rw [hbb]
          replace hbb := Lib.hid hbb
          replace hzc2 := Lib.hid hcz2
          clear hcz2
          go_wp2_with fail
          refine d2.out.mono ?_
          rintro e w5 ⟨v5, rfl, hO5, hb5⟩
          obtain ⟨a5, c5, rfl, _⟩ := id hO5
          have z5 := hb5.size
          have hbel5 := Lib.hid (hbel.out.trans (hb5.mono hsz))
          have e5 := (hbel5.out.cell (p := ⟨b1, o1 + k, none⟩) (show b1 < w4.heap.size by omega)).trans (cc k hlt)
          rw [hzk] at e5
          have hR5 : Row w5 w5.heap.size (.slice (some ⟨b1, o1, none⟩) xs.length vc) xs := ⟨_, _, rfl, fun _ => ⟨b1, o1, rfl, by have := hbel5.out.size; omega, fun i hi => (hbel5.out.cell (p := ⟨b1, o1 + i, none⟩) (show b1 < w4.heap.size by omega)).trans (cc i hi)⟩⟩
          have hq5 := fun m => same_l (.slice a5 xs.length c5) (.slice (some ⟨b1, o1, none⟩) xs.length vc) _ _ w5.heap.size (w5.drewN m) (hO5.row.drewN m) (hR5.drewN m) (by omega) (by omega)
          rw [hsame] at hq5
          replace hq5 := Lib.hid hq5
          replace hzk := Lib.hid hzk
          clear hO5 hR5 hb5 hbel d2
          have hfin := Lib.hid (fun m => below_drewN hbel5.out m)
          by_cases hk0 : k = 0
          · subst hk0
            have e6 : w5.cell? ⟨b1, o1, none⟩ = some (.int .i64 z) := e5
            clear cc
            rcases (by cases bb <;> simp : bb = true ∨ bb = false) with rfl | rfl
            · have hv := Lib.hid (show Value.bool true = Value.bool ((xs.take (0 + 1)).any (fun z => z == s)) by rw [hnx]; simp)
              replace hnx := Lib.hid hnx
              go_wp2_with fail
              refine wp_region_quiet_lit (by kernel_rfl) (by kernel_rfl) ?_
              iterate 40 (open BigFrame in go_big_quiet_step ((first | (go_at_call 9; exact Calls.quiet_of (hq5.out _)) | (go_at_call 10; with_reducible exact Calls.quiet_of_same ((hsz1.out _).mono fun _ _ h => ⟨h.1, h.2.symm⟩)))))
              refine wpQuiet_nil ?_
              intro _ hw'
              obtain ⟨nq, hw''⟩ := hw'
              subst hw''
              go_wp2_with fail
              go_roundw
              case rel => exact ⟨1, by omega, by first | rfl | go_num, hv.out, hfin.out _⟩
              case measure => simp [intOf]; omega
            · have hv := Lib.hid (show Value.bool (z == s) = Value.bool ((xs.take (0 + 1)).any (fun z => z == s)) by rw [hnx]; simp)
              replace hnx := Lib.hid hnx
              go_wp2_with fail
              refine wp_region_quiet_lit (by kernel_rfl) (by kernel_rfl) ?_
              iterate 40 (open BigFrame in go_big_quiet_step ((first | (go_at_call 9; exact Calls.quiet_of (hq5.out _)) | (go_at_call 10; with_reducible exact Calls.quiet_of_same ((hsz1.out _).mono fun _ _ h => ⟨h.1, h.2.symm⟩)))))
              refine wpQuiet_nil ?_
              intro _ hw'
              obtain ⟨nq, hw''⟩ := hw'
              subst hw''
              go_wp2_with fail
              go_roundw
              case rel => exact ⟨1, by omega, by first | rfl | go_num, hv.out, hfin.out _⟩
              case measure => simp [intOf]; omega
          · obtain ⟨j, hj⟩ : ∃ j, k - 1 = j := ⟨_, rfl⟩
            have hjk : j + 1 = k := by omega
            have e0 := (hbel5.out.cell (p := ⟨b1, o1 + j, none⟩) (show b1 < w4.heap.size by omega)).trans (cc j (by omega))
            obtain ⟨f2a, f2b⟩ := f2.out j (by omega)
            obtain ⟨x, hxj⟩ : ∃ x, xs.getD j 0 = x := ⟨_, rfl⟩
            rw [hxj] at e0 f2a f2b
            rw [hjk, hzk.out] at f2a f2b
            rw [hzc2.out] at f2b
            obtain ⟨x1, x2', -⟩ := f1.out x (by rw [← hxj]; exact getD_mem (by omega))
            have hxb : x < 256 := Int.lt_of_lt_of_le x2' (by have : 2 ^ N ≤ 2 ^ 8 := Nat.pow_le_pow_right (by omega) (show N ≤ 8 by omega); have h := Int.ofNat_le.2 this; simpa using h)
            have hsx1 := fun W => law_size x x1 hxb W
            have hcx := cnt8 x
            obtain ⟨cx, hcx2⟩ : ∃ cx, cntI x = cx := ⟨_, rfl⟩
            rw [hcx2] at hsx1 hcx f2b
            subst f2b
            replace hsx1 := Lib.hid hsx1
            replace hcx2 := Lib.hid hcx2
            replace hxj := Lib.hid hxj
            have g0 : decide ((0 : Int) < (k : Int)) = true := decide_eq_true (by omega)
            have g1 : 0 < k := by omega
            have g2 : (0 : Int) < (k : Int) := by omega
            have g3 : decide (0 < k) = true := decide_eq_true g1
            have k4 : (0 : Int) ≤ (j : Int) := by omega
            have k5 : (j : Int) < (xs.length : Nat) := by omega
            have hw : IntKind.i64.wrap ((k : Int) - 1) = (j : Int) := by rw [IntKind.wrap_i64]; omega
            have hwc : IntKind.i64.wrap (cx + 1) = cx + 1 := by rw [IntKind.wrap_i64]; omega
            replace hjk := Lib.hid hjk
            replace hj := Lib.hid hj
            clear cc
            rcases (by cases bb <;> simp : bb = true ∨ bb = false) with rfl | rfl
            · have hv := Lib.hid (show Value.bool true = Value.bool ((xs.take (k + 1)).any (fun z => z == s)) by rw [hnx]; simp)
              replace hnx := Lib.hid hnx
              go_wp2_with fail
              refine wp_region_quiet_lit (by kernel_rfl) (by kernel_rfl) ?_
              iterate 40 (open BigFrame in go_big_quiet_step ((first | (go_at_call 9; exact Calls.quiet_of (hq5.out _)) | (go_at_call 10; with_reducible exact Calls.quiet_of_same ((hsz1.out _).mono fun _ _ h => ⟨h.1, h.2.symm⟩)) | (go_at_call 10; with_reducible exact Calls.quiet_of_same ((hsx1.out _).mono fun _ _ h => ⟨h.1, h.2.symm⟩)))))
              refine wpQuiet_nil ?_
              intro _ hw'
              obtain ⟨nq, hw''⟩ := hw'
              subst hw''
              go_wp2_with fail
              go_roundw
              case rel => exact ⟨k + 1, by omega, by first | rfl | go_num, hv.out, hfin.out _⟩
              case measure => simp [intOf]; omega
            · have hv := Lib.hid (show Value.bool (z == s) = Value.bool ((xs.take (k + 1)).any (fun z => z == s)) by rw [hnx]; simp)
              replace hnx := Lib.hid hnx
              go_wp2_with fail
              refine wp_region_quiet_lit (by kernel_rfl) (by kernel_rfl) ?_
              iterate 40 (open BigFrame in go_big_quiet_step ((first | (go_at_call 9; exact Calls.quiet_of (hq5.out _)) | (go_at_call 10; with_reducible exact Calls.quiet_of_same ((hsz1.out _).mono fun _ _ h => ⟨h.1, h.2.symm⟩)) | (go_at_call 10; with_reducible exact Calls.quiet_of_same ((hsx1.out _).mono fun _ _ h => ⟨h.1, h.2.symm⟩)))))
              refine wpQuiet_nil ?_
              intro _ hw'
              obtain ⟨nq, hw''⟩ := hw'
              subst hw''
              go_wp2_with fail
              go_roundw
              case rel => exact ⟨k + 1, by omega, by first | rfl | go_num, hv.out, hfin.out _⟩
              case measure => simp [intOf]; omega
        · obtain rfl : k = xs.length := by omega
          have hany : ((xs.take xs.length).any (fun z => z == s)) = true := by rw [List.take_length]; exact f3.out
          rw [hany]
          obtain ⟨t, ht⟩ : ∃ t, xs.length - 1 = t := ⟨_, rfl⟩
          have htl2 : t < xs.length := by omega
          have e0 := (hbel.out.cell (p := ⟨b1, o1 + 0, none⟩) (show b1 < w4.heap.size by omega)).trans (cc 0 (by omega))
          have e1 := (hbel.out.cell (p := ⟨b1, o1 + t, none⟩) (show b1 < w4.heap.size by omega)).trans (cc t htl2)
          have hs4 := f4.out
          rw [ht] at hs4
          obtain ⟨x, hx⟩ : ∃ x, xs.getD 0 0 = x := ⟨_, rfl⟩
          obtain ⟨y, hy⟩ : ∃ y, xs.getD t 0 = y := ⟨_, rfl⟩
          rw [hx] at e0 hs4
          rw [hy] at e1 hs4
          have e2 : wr.cell? ⟨b1, o1, none⟩ = some (.int .i64 x) := e0
          have hp2 : (2 : Int) ^ N ≤ 256 := by have : 2 ^ N ≤ 2 ^ 8 := Nat.pow_le_pow_right (by omega) (show N ≤ 8 by omega); have h := Int.ofNat_le.2 this; simpa using h
          obtain ⟨x1, x2', -⟩ := f1.out x (by rw [← hx]; exact getD_mem (by omega))
          obtain ⟨y1, y2', -⟩ := f1.out y (by rw [← hy]; exact getD_mem htl2)
          have hsx1 := fun W => law_size x x1 (by omega) W
          have hsy1 := fun W => law_size y y1 (by omega) W
          have hcx := cnt8 x
          have hcy := cnt8 y
          obtain ⟨cx, hcx2⟩ : ∃ cx, cntI x = cx := ⟨_, rfl⟩
          obtain ⟨cy, hcy2⟩ : ∃ cy, cntI y = cy := ⟨_, rfl⟩
          rw [hcx2] at hsx1 hcx hs4
          rw [hcy2] at hsy1 hcy hs4
          replace hsx1 := Lib.hid hsx1
          replace hsy1 := Lib.hid hsy1
          replace hcx2 := Lib.hid hcx2
          replace hcy2 := Lib.hid hcy2
          replace hx := Lib.hid hx
          replace hy := Lib.hid hy
          have hw : IntKind.i64.wrap ((xs.length : Int) - 1) = (t : Int) := by rw [IntKind.wrap_i64]; omega
          have t0 : (0 : Int) ≤ (t : Int) := by omega
          have t1' : (t : Int) < (xs.length : Nat) := by omega
          have t2 : (0 : Int) < (xs.length : Nat) := by omega
          have hfin := Lib.hid (fun m => below_drewN (hb4.out.trans (hbel.out.mono hb4.out.size)) m)
          replace hany := Lib.hid hany
          replace ht := Lib.hid ht
          clear cc
          go_wp2_with fail
          refine wp_region_quiet_lit (by kernel_rfl) (by kernel_rfl) ?_
          iterate 18 (open BigFrame in go_big_quiet_step ((first | (go_at_call 10; with_reducible exact Calls.quiet_of_same ((hsx1.out _).mono fun _ _ h => ⟨h.1, h.2.symm⟩)) | (go_at_call 10; with_reducible exact Calls.quiet_of_same ((hsy1.out _).mono fun _ _ h => ⟨h.1, h.2.symm⟩)))))
          refine wpQuiet_nil ?_
          intro _ hw'
          obtain ⟨nq, hw''⟩ := hw'
          subst hw''
          go_wp2_with fail
          go_ret
          exact ⟨rfl, hfin.out _⟩
    · have hx0 : xs = [] := by rw [← hxs, chnI, h, if_neg (by simp)]
      subst hx0
      rw [h] at d1
      have c3 := c2.out
      rw [h] at c3
      replace c3 := Lib.hid c3
      clear c2
      replace h := Lib.hid h
      replace hxs := Lib.hid hxs
      go_wp2_with fail
      refine d1.out.mono ?_
      rintro e w2 ⟨v2, rfl, hO2, hb2⟩
      obtain ⟨va, vc, rfl, _⟩ := id hO2
      have z2 := hb2.size
      replace hO2 := Lib.hid hO2
      replace hb2 := Lib.hid (hb.out.trans (hb2.mono hz))
      go_wp2_with fail
      refine (c3.out _).mono ?_
      rintro e w3 ⟨v3, rfl, hO3, hb3⟩
      obtain ⟨ya, yc, rfl, _⟩ := id hO3
      have z3 := hb3.size
      have hO23 := Lib.hid (hO2.out.below hb3 (Nat.le_refl _))
      replace hb3 := Lib.hid (hb2.out.trans (hb3.mono hb2.out.size))
      have hq : ∀ W, (∃ q, W = w3.drewN q) → Calls Tryd.prog 9 #[.slice va ([] : List Int).length vc, .slice ya ([] : List Int).length yc] W fun e w' => e = .returned (.bool true) ∧ ∃ n, w' = W.drewN n := by
        rintro W ⟨q, rfl⟩
        have := same_l (.slice va ([] : List Int).length vc) (.slice ya ([] : List Int).length yc) _ _ w3.heap.size (w3.drewN q) ((hO23.out.row.mono z3).drewN q) (hO3.row.drewN q) (by simp) (by simp)
        rw [hsame] at this
        exact this
      replace hq := Lib.hid hq
      go_wp2_with fail
      refine (hq.out w3 ⟨0, rfl⟩).mono ?_
      rintro e w4 ⟨rfl, q, rfl⟩
      go_wp2_with fail
      refine (hq.out _ ⟨q, rfl⟩).mono ?_
      rintro e w5 ⟨rfl, q5, rfl⟩
      go_wp2_with fail
      go_ret
      exact ⟨rfl, below_drewN hb3.out _⟩
end Go.Proofs.YtffnpignkimkhaaDoor
