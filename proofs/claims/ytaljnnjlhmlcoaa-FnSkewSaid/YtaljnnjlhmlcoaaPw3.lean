/- The pairs as they are drawn. -/
import Derived.Test.YtaljnnjlhmlcoaaPw2
import Derived.Deep.RegionHeld
namespace Go.Proofs.Ytaljnnjlhmlcoaa
open Go.ChangeShapes Go.WideShapes Go.ChangeAt Go.RowKit Go.Proofs

set_option maxRecDepth 20000 in
set_option maxHeartbeats 16000000 in
theorem draw_SkewC (v : Value) (a : Option Addr) (len cap : Nat) (w : World) (hv : v = .slice a len cap) (hc : len ≤ cap) (hcap : cap ≤ 9223372036854775807) (hB : Bytes w w.heap.size a len) :
    Calls Try.prog 39 #[v] w (DrawnPairsC w) := by
  have h0 := Lib.hid (rd_open v a len cap w hv hc hcap hB)
  clear hv hc hcap hB
  go_enter Try.func39, Try.ntmps39
  go_wp2_with fail
  refine (h0.out).mono ?_
  rintro e w0 ⟨r, rfl, hr, hR0, hb0, hz0⟩
  replace hr := Lib.hid hr
  replace hz0 := Lib.hid hz0
  have hR0 := Lib.hid hR0
  have hb0 := Lib.hid hb0
  go_wp2_with fail
  refine (rd_pick r _ 0 6 w0 hR0.out (by omega) (by omega) (by omega)).mono ?_
  rintro e w1 ⟨x0, rfl, ⟨x1, x2, x3, x4⟩, hR1, hO1⟩
  have x5 : x0 < 6 := x3 (by omega)
  clear x3 x4 x2
  have hR1 := Lib.hid hR1
  have hb1 := Lib.hid (hO1.below hb0.out (by rw [hr.out]; exact Nat.le_refl _) hb0.out.size)
  have s1 := Lib.hid (show r < w1.heap.size from hR1.out.lt)
  have hla := Lib.hid (OwnL.lit w1 (B := r + 1) s1.out)
  have hlb := Lib.hid (OwnL.lit (w1.alloc (.cells #[] 3)) (B := r + 1) (by have := s1.out; rw [World.size_alloc]; omega))
  have hR1a := Lib.hid ((hR1.out.alloc (.cells #[] 3)).alloc (.cells #[] 3))
  have hb1a := Lib.hid ((hb1.out.alloc hb1.out.size (.cells #[] 3)).alloc (by have := hb1.out.size; rw [World.size_alloc]; omega) (.cells #[] 3))
  go_wp2_with fail
  obtain ⟨n, hn⟩ : ∃ n, 1 + x0 = n := ⟨_, rfl⟩
  rw [hn]
  have n1 : 1 ≤ n := by omega
  have n6 : n ≤ 6 := by omega
  replace hn := Lib.hid hn
  clear x1 x5
  refine (rd_pick r _ (0 + 1) _ _ hR1a.out (by omega) (by omega) (by omega)).mono ?_
  rintro e w2 ⟨k0, rfl, ⟨y1, _, y3, _⟩, hR2, hO2⟩
  have y5 : k0 < n + 1 := y3 (by omega)
  clear y3
  obtain ⟨K, rfl⟩ : ∃ K : Nat, k0 = (K : Nat) := ⟨k0.toNat, by omega⟩
  obtain ⟨p1, p2, p3⟩ := pow_nat n1 (show n ≤ 8 by omega)
  have hlv := level_at n (K : Nat) w2 n1 (by omega)
  have hEq : mkL (fun j => cntI (j : Nat) == (K : Nat)) (2 ^ n.toNat) = lvN n.toNat K := by
    have h1 : mkL (fun j => cntI (j : Nat) == (K : Nat)) (2 ^ n.toNat) = levL n (K : Nat) := level_eq _ _
    rw [h1]
    have h2 := lv_lev n.toNat K
    rwa [Int.toNat_of_nonneg (by omega)] at h2
  rw [hEq] at hlv
  have hallm : ∀ z ∈ lvN n.toNat K, 0 ≤ z ∧ z < ((2 ^ n.toNat : Nat) : Int) := fun z hz => ⟨(mem_lv hz).1, (mem_lv hz).2.1⟩
  have hall64 : (lvN n.toNat K).length ≤ 256 := by
    have := List.length_filter_le (fun x => cntI x == (K : Nat)) (upI (2 ^ n.toNat))
    rw [upI_len] at this
    unfold lvN; omega
  obtain ⟨all, hall⟩ : ∃ all, lvN n.toNat K = all := ⟨_, rfl⟩
  rw [hall] at hlv hallm hall64
  have hA2 := Lib.hid ((hla.out.alloc (.cells #[] 3)).only hO2 (Nat.lt_succ_self r))
  have hB2 := hlb.out.only hO2 (Nat.lt_succ_self r)
  rw [World.size_alloc] at hB2
  replace hB2 := Lib.hid hB2
  have hb2 := Lib.hid (hO2.below hb1a.out (by rw [hr.out]; exact Nat.le_refl _) (by have := hb1.out.size; rw [World.size_alloc, World.size_alloc]; omega))
  have s2 : w1.heap.size + 2 ≤ w2.heap.size := by have := hO2.size; rw [World.size_alloc, World.size_alloc] at this; omega
  have hR2 := Lib.hid hR2
  replace hlv := Lib.hid hlv
  replace hEq := Lib.hid hEq
  replace hall := Lib.hid hall
  replace hallm := Lib.hid hallm
  clear hO2
  go_wp2_with fail
  refine hlv.out.mono ?_
  rintro e w3 ⟨v9, rfl, hO9, hb9⟩
  obtain ⟨a9, c9, e9, hc9⟩ := hO9.own
  subst e9
  have s3 := hb9.size
  have hr1 := s1.out
  have hA3 := Lib.hid (hA2.out.below hb9 (Nat.le_refl _))
  have hB3 := Lib.hid (hB2.out.below hb9 (Nat.le_refl _))
  have hR3 := Lib.hid (hR2.out.below hb9 hR2.out.lt)
  have hb3 := Lib.hid (hb2.out.trans (hb9.mono hb2.out.size))
  have hTwo := Lib.hid (show Two (.slice (some ⟨w1.heap.size, 0, none⟩) 0 0) (.slice (some ⟨w1.heap.size + 1, 0, none⟩) 0 0) from fun g e1 e2 => by
    injection e1 with e1
    injection e2 with e2
    dsimp only at e1 e2
    omega)
  obtain ⟨b0, o0, hap1, hap2, hb0r⟩ : ∃ b0 o0, Apart w3 a9 (.slice (some ⟨w1.heap.size, 0, none⟩) 0 0) b0 o0 all ∧ Apart w3 a9 (.slice (some ⟨w1.heap.size + 1, 0, none⟩) 0 0) b0 o0 all ∧ (0 < all.length → b0 ≠ r) := by
    by_cases h : 0 < all.length
    · obtain ⟨b0, o0, ea, t1, t2, cc, _⟩ := hc9 h
      refine ⟨b0, o0, fun _ => ⟨ea, ?_, t2, cc⟩, fun _ => ⟨ea, ?_, t2, cc⟩, fun _ => by omega⟩
      · intro e; injection e with e; dsimp only at e; omega
      · intro e; injection e with e; dsimp only at e; omega
    · exact ⟨0, 0, fun h2 => absurd h2 h, fun h2 => absurd h2 h, fun h2 => absurd h2 h⟩
  replace hap1 := Lib.hid hap1
  replace hap2 := Lib.hid hap2
  replace hb0r := Lib.hid hb0r
  replace hb9 := Lib.hid hb9
  replace s3 := Lib.hid s3
  replace s2 := Lib.hid s2
  replace hr1 := Lib.hid hr1
  replace hall64 := Lib.hid hall64
  have hNi : (2 : Int) ^ n.toNat = ((2 ^ n.toNat : Nat) : Int) := by simp
  obtain ⟨N2, hN2⟩ : ∃ N2 : Nat, 2 ^ n.toNat = N2 := ⟨_, rfl⟩
  rw [hN2] at p1 p2 p3 hNi hallm
  replace hN2 := Lib.hid hN2
  replace hNi := Lib.hid hNi
  have hn0 : (0 : Int) ≤ n := by omega
  have hn64 : n < 64 := by omega
  clear hO9 hc9 hla hlb hA2 hB2 hR1a hb1a
  go_wp2_with fail
  go_loopw [7, 8, 10] (fun va vb s wr => ∃ (j : Nat) (acc bs : List Int), j ≤ all.length ∧ s = .int .i64 j ∧ Hid (acc.Sublist (all.take j)) ∧ Hid (bs = acc.map (otherI n)) ∧ Hid (OwnL wr (r + 1) va acc) ∧ Hid (OwnL wr (r + 1) vb bs) ∧ Hid (Two va vb) ∧ Hid (Apart wr a9 va b0 o0 all) ∧ Hid (Apart wr a9 vb b0 o0 all) ∧ Hid (Rdr wr r w.heap.size (2 + (j : Int))) ∧ Hid (Below w.heap.size w wr)) (fun _ _ s _ => all.length - (intOf s).toNat)
  case atStart => exact ⟨0, [], [], by omega, rfl, Lib.hid (by simp), Lib.hid rfl, hA3, hB3, hTwo, hap1, hap2, hR3, hb3⟩
  case round =>
    obtain ⟨j, acc, bs, hj, rfl, hsub, hbs, hA, hB, hT, hpa, hpb, hR, hbel⟩ := hrel
    have hszr := hbel.out.size
    have hrw := hr.out
    by_cases hlt : j < all.length
    · have k1 : (0 : Int) ≤ (j : Int) := by omega
      have k2 : (j : Int) < (all.length : Nat) := by omega
      have j256 : j ≤ 256 := by have := hall64.out; omega
      replace hszr := Lib.hid hszr
      replace hrw := Lib.hid hrw
      go_wp2_with fail
      refine (rd_pick r _ (2 + (j : Int)) 3 wr hR.out (by omega) (by omega) (by omega)).mono ?_
      rintro e w4 ⟨y, rfl, ⟨z1, z2, _, _⟩, hR4, hO4⟩
      have ew : 2 + (j : Int) + 1 = 2 + ((j + 1 : Nat) : Int) := by omega
      rw [ew] at hR4
      replace hR4 := Lib.hid hR4
      have hA4 := Lib.hid (hA.out.only hO4 (Nat.lt_succ_self r))
      have hB4 := Lib.hid (hB.out.only hO4 (Nat.lt_succ_self r))
      have hpa4 := Lib.hid (hpa.out.only hO4 hb0r.out)
      have hpb4 := Lib.hid (hpb.out.only hO4 hb0r.out)
      have hb4 := Lib.hid (hO4.below hbel.out (by rw [hrw.out]; exact Nat.le_refl _) hszr.out)
      clear hO4 ew
      by_cases hy : 0 < y
      · obtain ⟨ua, ca, rfl⟩ := hA4.out.form
        obtain ⟨ea, qa, ta, ca4⟩ := hpa4.out (by omega)
        subst ea
        have e1 := ca4 j hlt
        obtain ⟨x, hx⟩ : ∃ x, all.getD j 0 = x := ⟨_, rfl⟩
        have hxm := hallm.out x (by rw [← hx]; exact getD_mem hlt)
        rw [hx] at e1
        have hst : (all.take (j + 1)) = all.take j ++ [x] := by rw [take_snoc hlt, hx]
        have hsub2 := Lib.hid (show (acc ++ [x]).Sublist (all.take (j + 1)) by rw [hst]; exact hsub.out.append (List.Sublist.refl _))
        have hbs2 := Lib.hid (show bs ++ [otherI n x] = (acc ++ [x]).map (otherI n) by rw [hbs.out]; simp)
        have hal : acc.length ≤ 1000 := by have := hsub.out.length_le; rw [List.length_take] at this; omega
        have hbl : bs.length ≤ 1000 := by rw [hbs.out]; simpa using hal
        have hB1 : r + 1 ≤ (w4.alloc (.cells #[.int .i64 x] 3)).heap.size := by have := hR4.out.lt; rw [World.size_alloc]; omega
        obtain ⟨hx0, hx1⟩ := hxm
        have e2 : ∀ W, Apart W (some ⟨b0, o0, none⟩) u8 b0 o0 all → W.cell? ⟨b0, o0 + j, none⟩ = some (.int .i64 x) := fun W h => by rw [← hx]; exact (h (by omega)).2.2.2 j hlt
        replace e2 := Lib.hid e2
        replace hx := Lib.hid hx
        replace hst := Lib.hid hst
        replace qa := Lib.hid qa
        replace ca4 := Lib.hid ca4
        have hbp := Lib.hid (Below.refl (r + 1) (w4.alloc (.cells #[.int .i64 x] 3)))
        have hV : IntKind.i64.wrap (IntKind.i64.wrap (IntKind.i64.wrap (2 ^ n.toNat) - 1) - x) = otherI n x := by
          have q0 : IntKind.i64.wrap (N2 : Int) = N2 := by rw [IntKind.wrap_i64]; omega
          have q1 : IntKind.i64.wrap ((N2 : Int) - 1) = (N2 : Int) - 1 := by rw [IntKind.wrap_i64]; omega
          have q2 : IntKind.i64.wrap ((N2 : Int) - 1 - x) = (N2 : Int) - 1 - x := by rw [IntKind.wrap_i64]; omega
          unfold otherI
          rw [hNi.out, q0, q1, q2]
        replace hV := Lib.hid hV
        go_wp2_with (at_builtin; refine app_int_at rfl _ _ rfl (r + 1) _ acc rfl (hA4.out.alloc _) x w4.heap.size rfl (cell_new _ _ _) (by omega) hB1 ?_; intro va5 w5 hA5 hg5 hat5; have hal5 := (Below.refl w4.heap.size w4).alloc (Nat.le_refl _) (.cells #[.int .i64 x] 3); have hB5 := own_kept (hB4.out.alloc (.cells #[.int .i64 x] 3)) hg5 hT.out.symm; have hpa5 := (hpa4.out.below hal5 (Nat.le_refl _)).grown hg5 hat5; have hpb5 := (hpb4.out.below hal5 (Nat.le_refl _)).other (hpa4.out.below hal5 (Nat.le_refl _)) hg5; have hT5 := (Two.grown hT.out.symm (hB4.out.alloc (.cells #[.int .i64 x] 3)) hat5).symm; have hbb5 := below_own hbp.out hg5 (hA4.out.alloc _) hB1; have hR5 := (hR4.out.alloc (.cells #[.int .i64 x] 3)).below hbb5 (Nat.lt_succ_self r); have hb5 := (hb4.out.alloc hb4.out.size (.cells #[.int .i64 x] 3)).trans (hbb5.mono (by rw [hrw.out]; exact Nat.le_succ _)); replace hA5 := Lib.hid hA5; replace hB5 := Lib.hid hB5; replace hpa5 := Lib.hid hpa5; have e5 := e2.out w5 hpb5; replace hpb5 := Lib.hid hpb5; replace hT5 := Lib.hid hT5; replace hR5 := Lib.hid hR5; replace hb5 := Lib.hid hb5; clear hg5 hat5 hal5 hbb5)
        obtain ⟨ub, cb, rfl⟩ := hB5.out.form
        have hr5 := hR5.out.lt
        have hB6 := Lib.hid (fun o => (show r + 1 ≤ (w5.alloc o).heap.size by rw [World.size_alloc]; omega))
        have hc6 := Lib.hid (cell_new w5 (.int .i64 (IntKind.i64.wrap (IntKind.i64.wrap (IntKind.i64.wrap (2 ^ n.toNat) - 1) - x))) 3)
        have hbl2 : bs.length ≤ 1073741824 := by omega
        replace hr5 := Lib.hid hr5
        go_wp2_with fail
        go_region_law (refine step_app_int_at rfl _ _ rfl (r + 1) _ bs rfl (OwnL.alloc (w := w5.drew) hB5.out _) (IntKind.i64.wrap (IntKind.i64.wrap (IntKind.i64.wrap (2 ^ n.toNat) - 1) - x)) w5.heap.size rfl hc6.out hbl2 (hB6.out _) ?_; intro vb6 w6 hB7 hg6 hat6)
        all_goals
          obtain ⟨W5, hW5⟩ : ∃ W5, w5.drew.alloc (.cells #[.int .i64 (IntKind.i64.wrap (IntKind.i64.wrap (IntKind.i64.wrap (2 ^ n.toNat) - 1) - x))] 3) = W5 := ⟨_, rfl⟩
          have hal6 : Below w5.heap.size w5 W5 := by rw [← hW5]; exact (Below.refl w5.heap.size w5).drew.alloc (Nat.le_refl _) _
          replace hg6 : W5.grownBy w6 (.slice ub bs.length cb : Value).ownBlock := by rw [← hW5]; exact hg6
          replace hat6 : vb6.ownBlock = (.slice ub bs.length cb : Value).ownBlock ∨ vb6.ownBlock = some W5.heap.size := by rw [← hW5]; exact hat6
          rw [hV.out] at hB7
          have hAW := hA5.out.below hal6 (Nat.le_refl _)
          have hBW := hB5.out.below hal6 (Nat.le_refl _)
          have hA7 := Lib.hid (own_kept hAW hg6 hT5.out)
          have hpa7 := Lib.hid ((hpa5.out.below hal6 (Nat.le_refl _)).other (hpb5.out.below hal6 (Nat.le_refl _)) hg6)
          have hpb7 := Lib.hid ((hpb5.out.below hal6 (Nat.le_refl _)).grown hg6 hat6)
          have hT7 := Lib.hid (Two.grown hT5.out hAW hat6)
          have hBz : r + 1 ≤ W5.heap.size := Nat.le_trans hr5.out hal6.size
          have hbb6 := below_own (Below.refl (r + 1) W5) hg6 hBW hBz
          have hR7 := Lib.hid ((hR5.out.below hal6 hr5.out).below hbb6 (Nat.lt_succ_self r))
          have hb7 := Lib.hid ((hb5.out.trans (hal6.mono hb5.out.size)).trans (hbb6.mono (by rw [hrw.out]; exact Nat.le_succ _)))
          replace hB7 := Lib.hid hB7
          replace hbs2 := Lib.hid hbs2.out
          replace hW5 := Lib.hid hW5
          clear hAW hBW hal6 hg6 hat6 hbb6
          go_wp2_with fail
          go_roundw
          case rel => exact ⟨j + 1, acc ++ [x], bs ++ [otherI n x], by omega, by go_num, hsub2, hbs2, hA7, hB7, hT7, hpa7, hpb7, hR7, hb7⟩
          case measure => simp [intOf]; omega
      · obtain ⟨ua, ca, rfl⟩ := hA4.out.form
        obtain ⟨ub, cb, rfl⟩ := hB4.out.form
        have hy0 : ¬ y > 0 := by omega
        have hsub2 := Lib.hid (show acc.Sublist (all.take (j + 1)) from hsub.out.trans (by rw [take_snoc hlt]; exact List.sublist_append_left _ _))
        go_wp2_with fail
        go_roundw
        case rel => exact ⟨j + 1, acc, bs, by omega, by go_num, hsub2, hbs, hA4, hB4, hT, hpa4, hpb4, hR4, hb4⟩
        case measure => simp [intOf]; omega
    · obtain rfl : j = all.length := by omega
      have hsl := hsub.out
      rw [List.take_length] at hsl
      have j256 : all.length ≤ 256 := hall64.out
      have hal : acc.length ≤ 256 := by have := hsl.length_le; omega
      have hNn : n = ((n.toNat : Nat) : Int) := by omega
      have hDm : ∀ zs, (zs = acc.map (otherI n) ∨ ∃ t : Nat, t < N2 ∧ zs = (acc.map (otherI n)).set 0 (t : Int)) → Drawn n acc zs := fun zs h => ⟨n.toNat, K, hNn, by omega, by omega, by omega, by rw [hall.out]; exact hsl, by rw [hN2.out]; exact h⟩
      have hbl : bs.length = acc.length := by rw [hbs.out]; simp
      obtain ⟨ua, ca, rfl⟩ := hA.out.form
      obtain ⟨ub, cb, rfl⟩ := hB.out.form
      replace hDm := Lib.hid hDm
      replace hNn := Lib.hid hNn
      replace hsl := Lib.hid hsl
      replace hszr := Lib.hid hszr
      replace hrw := Lib.hid hrw
      have hbl' := Lib.hid hbl
      clear hbl
      by_cases h0 : 0 < bs.length
      · have i0 : (0 : Int) < (bs.length : Nat) := by omega
        go_wp2_with fail
        refine (rd_pick r _ (2 + (all.length : Int)) 6 wr hR.out (by omega) (by omega) (by omega)).mono ?_
        rintro e w4 ⟨y, rfl, ⟨z1, z2, _, _⟩, hR4, hO4⟩
        have hA4 := Lib.hid (hA.out.only hO4 (Nat.lt_succ_self r))
        have hB4 := Lib.hid (hB.out.only hO4 (Nat.lt_succ_self r))
        have hb4 := Lib.hid (hO4.below hbel.out (by rw [hrw.out]; exact Nat.le_refl _) hszr.out)
        replace hR4 := Lib.hid hR4
        clear hO4
        by_cases hy : y = 0
        · subst hy
          go_wp2_with fail
          refine (rd_pick r _ (2 + (all.length : Int) + 1) _ w4 hR4.out (by omega) (by omega) (by omega)).mono ?_
          rintro e w5 ⟨t, rfl, ⟨t1, _, t3, _⟩, hR5, hO5⟩
          have t4 := t3 (by omega)
          clear t3
          obtain ⟨T, rfl⟩ : ∃ T : Nat, t = (T : Nat) := ⟨t.toNat, by omega⟩
          have hA5 := hA4.out.only hO5 (Nat.lt_succ_self r)
          have hB5 := hB4.out.only hO5 (Nat.lt_succ_self r)
          have hb5 := hO5.below hb4.out (by rw [hrw.out]; exact Nat.le_refl _) hb4.out.size
          obtain ⟨ub', cb', e6, hcs⟩ := hB5.own
          cases e6
          obtain ⟨bb, ob, rfl, q1, q2, _, _⟩ := hcs h0
          obtain ⟨f0, ⟨u, c0⟩, hrow⟩ := row_set hB5 h0 (T : Int)
          have hb6 := Lib.hid (below_setCell hb5 (p := ⟨bb, ob, none⟩) (show w.heap.size ≤ bb by have := hrw.out; omega) (.int .i64 (T : Int)))
          have hrA : Row (w5.setCell ⟨bb, ob, none⟩ (.int .i64 (T : Int))) w5.heap.size (.slice ua acc.length ca) acc := by
            obtain ⟨aa, cc, e7, hca⟩ := hA5.own
            cases e7
            refine ⟨_, _, rfl, fun hp => ?_⟩
            obtain ⟨ba, oa, rfl, _, r2, r3, _⟩ := hca hp
            refine ⟨ba, oa, rfl, r2, fun i hi => ?_⟩
            rw [World.cell?_setCell_far _ _ _ _ (by intro e; have e2 : bb = ba := e; exact hT.out ba rfl (by rw [← e2]; rfl))]
            exact r3 i hi
          have hszs := Lib.hid (show w5.heap.size ≤ (w5.setCell ⟨bb, ob, none⟩ (.int .i64 (T : Int))).heap.size by simp [World.setCell])
          have hDD := Lib.hid (hDm.out (bs.set 0 (T : Int)) (.inr ⟨T, by omega, by rw [hbs.out]⟩))
          replace hrA := Lib.hid hrA
          replace hrow := Lib.hid hrow
          replace hA5 := Lib.hid hA5
          replace hB5 := Lib.hid hB5
          replace hb5 := Lib.hid hb5
          clear hcs hO5 hR5
          go_wp2_with fail
          exact bodyPost_ret (v := .tuple #[.int .i64 n, .slice ua acc.length ca, .slice (some ⟨bb, ob, none⟩) bs.length cb]) (by simp [results, Try.results39, go_sem]) rfl ⟨n, _, _, acc, bs.set 0 (T : Int), rfl, hDD.out, hrA.out.mono hszs.out, hrow.out.mono hszs.out, hb6.out, hA5.out.capOk, hB5.out.capOk⟩
        · have hyq : (y == 0) = false := beq_eq_false_iff_ne.2 hy
          have hDD := Lib.hid (hDm.out bs (.inl hbs.out))
          go_wp2_with fail
          exact bodyPost_ret (v := .tuple #[.int .i64 n, .slice ua acc.length ca, .slice ub bs.length cb]) (by simp [results, Try.results39, go_sem]) rfl ⟨n, _, _, acc, bs, rfl, hDD.out, hA4.out.own.row, hB4.out.own.row, hb4.out, hA4.out.capOk, hB4.out.capOk⟩
      · have i0 : ¬ (0 : Int) < (bs.length : Nat) := by omega
        have i1 : bs.length = 0 := by omega
        have hDD := Lib.hid (hDm.out bs (.inl hbs.out))
        replace i1 := Lib.hid i1
        go_wp2_with fail
        exact bodyPost_ret (v := .tuple #[.int .i64 n, .slice ua acc.length ca, .slice ub bs.length cb]) (by simp [results, Try.results39, go_sem]) rfl ⟨n, _, _, acc, bs, rfl, hDD.out, hA.out.own.row, hB.out.own.row, hbel.out, hA.out.capOk, hB.out.capOk⟩
theorem draw_Skew (v : Value) (a : Option Addr) (len cap : Nat) (w : World) (hv : v = .slice a len cap) (hc : len ≤ cap) (hcap : cap ≤ 9223372036854775807) (hB : Bytes w w.heap.size a len) :
    Calls Try.prog 39 #[v] w (DrawnPairs w) := (draw_SkewC v a len cap w hv hc hcap hB).mono fun _ _ h => h.plain
end Go.Proofs.Ytaljnnjlhmlcoaa
