/- The law FnChains: chains have each set once, as many as sets of the middle size. -/
import Derived.Test.YtoglcinfnhhkhabDoorCn1
import Derived.Test.YtoglcinfnhhkhabDoorDraw
import Derived.Test.YtoglcinfnhhkhabDoorLawsB
import Derived.Deep.RegionWith
namespace Go.Proofs.YtoglcinfnhhkhabDoor
open Go.ChangeShapes Go.WideShapes Go.ChangeAt Go.RowKit Go.Proofs

set_option maxRecDepth 100000 in
set_option maxHeartbeats 4000000 in
theorem draw_ChainsN (v : Value) (a : Option Addr) (len cap : Nat) (w : World) (hv : v = .slice a len cap) (hc : len ≤ cap) (hcap : cap ≤ 9223372036854775807) (hB : Bytes w w.heap.size a len) :
    Calls Tryd.prog 4 #[v] w fun e w' => ∃ n, e = .returned (.int .i64 n) ∧ drawnPts n ∧ Below w.heap.size w w' := by
  have h0 := Lib.hid (rd_open v a len cap w hv hc hcap hB)
  clear hv hc hcap hB
  go_enter Tryd.func4, Tryd.ntmps4
  go_wp2_with fail
  refine (h0.out).mono ?_
  rintro e w0 ⟨r, rfl, hr, hR0, hb0, hz0⟩
  have hrw : w.heap.size ≤ r := by omega
  replace hr := Lib.hid hr
  replace hR0 := Lib.hid hR0
  replace hb0 := Lib.hid hb0
  go_wp2_with fail
  refine (rd_points r _ 0 w0 hR0.out (by omega) (by omega)).mono ?_
  rintro e w1 ⟨n, rfl, hn, hR1, hO1⟩
  have hb1 := Lib.hid (hO1.below hb0.out hrw hb0.out.size)
  replace hn := Lib.hid hn
  clear hO1 hR0 hR1
  go_wp2_with fail
  go_ret
  exact ⟨_, rfl, hn.out, hb1.out⟩
set_option maxRecDepth 100000 in
set_option maxHeartbeats 4000000 in
theorem law_FnChains (v : Value) (a : Option Addr) (len cap : Nat) (w : World) (hv : v = .slice a len cap) (hc : len ≤ cap) (hcap : cap ≤ 9223372036854775807) (hB : Bytes w w.heap.size a len) (hT : Tab w) :
    Calls Tryd.prog 3 #[v] w fun e w' => e = .returned (.bool true) ∧ Below w.heap.size w w' := by
  have htl := hT.lt
  have h0 := Lib.hid (draw_ChainsN v a len cap w hv hc hcap hB)
  subst hv
  replace hT := Lib.hid hT
  clear hB
  by_cases hbig : 1048576 < len
  · go_enter Tryd.func3, Tryd.ntmps3
    go_wp2_with fail
    go_ret
    exact ⟨rfl, Below.refl _ _⟩
  · go_enter Tryd.func3, Tryd.ntmps3
    go_wp2_with fail
    refine (h0.out).mono ?_
    rintro e w1 ⟨n, rfl, hdn, hb⟩
    have z1 := hb.size
    have hi := im_ChainAll n w1 (hT.out.below hb htl)
    have hs := fun W => sp_ChainAll n W
    have hb1 := Lib.hid hb
    clear hb h0
    have hLs := allC_short n
    rcases (by cases ptsB n <;> simp : ptsB n = true ∨ ptsB n = false) with hp | hp
    · obtain ⟨n1, n2⟩ := ptsB_yes hp
      have n6 : n ≤ 6 := by unfold drawnPts at hdn; omega
      obtain ⟨p1, p2, p3⟩ := pow_nat n1 n2
      obtain ⟨N, hN⟩ : ∃ N : Nat, 2 ^ n.toNat = N := ⟨_, rfl⟩
      have hNi : (2 : Int) ^ n.toNat = (N : Nat) := by rw [← hN]; simp
      have hn0 : (0 : Int) ≤ n := by omega
      have hn64 : n < 64 := by omega
      obtain ⟨o1, o2, o3⟩ := once_all (N := n.toNat) (by omega) (by omega)
      have hbd := fun (i : Nat) hi k z hz => ct_bd (N := n.toNat) (by omega) (by omega) (i := i) hi k z hz
      have hLe : allC n = acL n.toNat (2 ^ n.toNat) := by unfold allC; rw [hp]; rfl
      rw [hLe] at hi hs hLs
      have hN64 : N ≤ 64 := by rw [← hN]; exact (show 2 ^ n.toNat ≤ 2 ^ 6 from Nat.pow_le_pow_right (by decide) (by omega))
      obtain ⟨Ls, hL⟩ : ∃ Ls, acL n.toNat (2 ^ n.toNat) = Ls := ⟨_, rfl⟩
      rw [hL] at hi hs hLs o1 o2 o3 hbd
      rw [hN] at p1 p2 p3 o1 o2 hbd
      have hch := fun W => im_Choose_yes n (n / 2) ⟨by omega, by omega, by omega, by omega⟩ W
      have hcl : chI n (n / 2) = (Ls.length : Nat) := by
        rw [o3, show ((n.toNat : Nat) : Int) = n by omega, show ((n.toNat / 2 : Nat) : Int) = n / 2 by omega]
      rw [hcl] at hch
      rw [hp] at hi hs
      have hLlen := hLs.1
      have hwin : ∀ i, i < Ls.length → ∀ k, k < (Ls.getD i []).length → 0 ≤ (Ls.getD i []).getD k 0 ∧ (Ls.getD i []).getD k 0 < (N : Nat) := fun i hi k hk => o2 _ (by
        rw [List.mem_flatten]
        exact ⟨Ls.getD i [], by rw [List.getD_eq_getElem?_getD, List.getElem?_eq_getElem hi]; exact List.getElem_mem hi, getD_mem hk⟩)
      have hfin : ∀ z, z < N → ctI Ls Ls.length 0 z = 1 := fun z hz => by unfold ctI; rw [pre_all, o1 z hz]; rfl
      replace hLs := Lib.hid hLs
      replace hi := Lib.hid hi
      replace hs := Lib.hid hs
      replace hL := Lib.hid hL
      replace hLe := Lib.hid hLe
      replace hN := Lib.hid hN
      replace hp := Lib.hid hp
      replace hdn := Lib.hid hdn
      replace hch := Lib.hid hch
      replace hcl := Lib.hid hcl
      replace hwin := Lib.hid hwin
      replace hfin := Lib.hid hfin
      replace hbd := Lib.hid hbd
      clear o1 o2 o3
      go_wp2_with fail
      refine (hi.out).mono ?_
      rintro e w2 ⟨v2, rfl, hR2, hb2⟩
      obtain ⟨a2, c2, V2, K2, rfl, t2, r2, -, -⟩ := hR2.opened
      have z2 := hb2.size
      have r2' := r2.rows
      replace hb2 := Lib.hid (hb1.out.trans (hb2.mono z1))
      clear hR2 r2 hi
      go_wp2_with fail
      refine (hs.out w2).mono ?_
      rintro e w3 ⟨v3, rfl, hR3, hb3⟩
      obtain ⟨a3, c3, V3, K3, rfl, t3, r3, -, -⟩ := hR3.opened
      have z3 := hb3.size
      have t23 := (t2.below hb3 (Nat.le_refl _)).mono z3
      have r23 := (r2'.below hb3 (Nat.le_refl _)).mono z3
      have he := Lib.hid (same_rows Ls a2 a3 c2 c3 V2 V3 w3.heap.size w3 hLs.out t23 t3 r23 r3.rows)
      replace hb3 := Lib.hid (hb2.out.trans (hb3.mono (by omega)))
      replace t23 := Lib.hid t23
      replace r23 := Lib.hid r23
      clear hR3 t3 r3 hs t2 r2'
      go_wp2_with fail
      refine he.out.mono ?_
      rintro e w4 ⟨rfl, q, rfl⟩
      have T4 := Lib.hid (t23.out.drewN q)
      have R4 := Lib.hid (r23.out.drewN q)
      have hb4 := Lib.hid (below_drewN hb3.out q)
      have z4 : w.heap.size ≤ (w3.drewN q).heap.size := hb3.out.size
      have z34 : w3.heap.size ≤ (w3.drewN q).heap.size := Nat.le_refl _
      obtain ⟨w4, hw4⟩ : ∃ w4, w3.drewN q = w4 := ⟨_, rfl⟩
      rw [hw4] at T4 R4 hb4 z4 z34 ⊢
      replace hw4 := Lib.hid hw4
      clear t23 r23 he
      have hmk := fun W => run_make_row' (P := Tryd.prog) 28 3 (.int .i64 0) 8 Tryd.underlying28 Tryd.intInfo rfl .i64 .i64 N (by omega) (by omega) W
      go_wp2_with fail
      go_loopw [9] (fun i wr => ∃ j : Nat, j ≤ Ls.length ∧ i = .int .i64 j ∧ Hid (Below w4.heap.size w4 wr) ∧ Hid (wr.rowIs w4.heap.size 3 N (fun z => .int .i64 (ctI Ls j 0 z)))) (fun i _ => Ls.length - (intOf i).toNat)
      case atStart =>
        refine ⟨0, Nat.zero_le _, rfl, Lib.hid ((Below.refl _ _).alloc (Nat.le_refl _) _), Lib.hid ?_⟩
        exact (World.rowIs_made w4 (.int .i64 0) N 3).congr (g := fun z => .int .i64 (ctI Ls 0 0 z)) (fun i _ => by simp [ctI, preL])
      case round =>
        obtain ⟨j, hj, rfl, hbel, hrw⟩ := hrel
        have hz := hbel.out.size
        by_cases hlt : j < Ls.length
        · obtain ⟨b1, o1, rfl, s1, c1⟩ := T4.out (by omega)
          obtain ⟨ra, rc, hV, hcell⟩ := R4.out j hlt
          have j1 : (0 : Int) ≤ (j : Int) := by omega
          have j2 : (j : Int) < (Ls.length : Nat) := by omega
          have c2 := c1 j hlt
          rw [hV] at c2
          have hMl := hLs.out.2 j hlt
          have hwj := hwin.out j hlt
          have hbj := hbd.out j hlt
          have hnx := fun z => (show ctI Ls (j + 1) 0 z = ctI Ls j (Ls.getD j []).length z from by unfold ctI; rw [pre_next hlt])
          have hst := fun (k : Nat) (hk : k < (Ls.getD j []).length) (x : Nat) (hx : (Ls.getD j []).getD k 0 = (x : Int)) (z : Nat) => ct_step hk hx z
          obtain ⟨xs, hxs⟩ : ∃ xs, Ls.getD j [] = xs := ⟨_, rfl⟩
          rw [hxs] at c2 hcell hMl hwj hnx hst
          have e1 : wr.cell? ⟨b1, o1 + j, none⟩ = some (.slice ra xs.length rc) := (hbel.out.cell (p := ⟨b1, o1 + j, none⟩) (show b1 < w4.heap.size by omega)).trans c2
          replace hnx := Lib.hid hnx
          replace hst := Lib.hid hst
          replace hcell := Lib.hid hcell
          replace c2 := Lib.hid c2
          replace hV := Lib.hid hV
          replace hxs := Lib.hid hxs
          replace hwj := Lib.hid hwj
          replace hbj := Lib.hid hbj
          clear c1
          go_wp2_with fail
          go_loopw [10] (fun m wq => ∃ k : Nat, k ≤ xs.length ∧ m = .int .i64 k ∧ Hid (Below w4.heap.size w4 wq) ∧ Hid (wq.rowIs w4.heap.size 3 N (fun z => .int .i64 (ctI Ls j k z)))) (fun m _ => xs.length - (intOf m).toNat)
          case atStart => exact ⟨0, Nat.zero_le _, rfl, hbel, hrw⟩
          case round =>
            obtain ⟨k, hk, rfl, hbq, hrq⟩ := hrel
            have hzq := hbq.out.size
            have e2 : wr.cell? ⟨b1, o1 + j, none⟩ = some (.slice ra xs.length rc) := (hbq.out.cell (p := ⟨b1, o1 + j, none⟩) (show b1 < w4.heap.size by omega)).trans c2.out
            by_cases hlk : k < xs.length
            · obtain ⟨b2, o2, rfl, s2, cc⟩ := hcell.out (by omega)
              have k1 : (0 : Int) ≤ (k : Int) := by omega
              have k2 : (k : Int) < (xs.length : Nat) := by omega
              obtain ⟨x1, x2⟩ := hwj.out k hlk
              obtain ⟨X, hX⟩ : ∃ X : Nat, xs.getD k 0 = (X : Int) := ⟨(xs.getD k 0).toNat, by omega⟩
              have e3 : wr.cell? ⟨b2, o2 + k, none⟩ = some (.int .i64 (X : Int)) := by
                rw [hbq.out.cell (p := ⟨b2, o2 + k, none⟩) (show b2 < w4.heap.size by omega), cc k hlk, hX]
              have hXN : X < N := by omega
              have t1 : (0 : Int) ≤ (X : Int) := by omega
              have t2 : (X : Int) < (N : Nat) := by omega
              have e4 := World.rowIs.cell hrq.out hXN
              have e5 := World.rowIs.frozen hrq.out X
              obtain ⟨cb1, cb2⟩ := hbj.out k X hXN
              obtain ⟨c0, hc0⟩ : ∃ c0, ctI Ls j k X = c0 := ⟨_, rfl⟩
              rw [hc0] at cb1 cb2
              simp only [hc0] at e4
              have hrq' := Lib.hid ((World.rowIs.set hrq.out X (.int .i64 (c0 + 1))).congr (g := fun z => .int .i64 (ctI Ls j (k + 1) z)) (fun z hz => by
                simp only [hst.out k hlk X hX z]
                by_cases e : z = X
                · subst e; rw [if_pos rfl, if_pos rfl, hc0]
                · rw [if_neg e, if_neg e]))
              have hbq' := Lib.hid (below_setCell hbq.out (p := ⟨w4.heap.size, X, none⟩) (Nat.le_refl _) (.int .i64 (c0 + 1)))
              have hwc : IntKind.i64.wrap (c0 + 1) = c0 + 1 := by rw [IntKind.wrap_i64]; omega
              clear cc hrq hbq
              replace hX := Lib.hid hX
              replace hc0 := Lib.hid hc0
              go_wp2_with fail
              go_region_with (fail)
              all_goals
                go_wp2_with fail
                go_roundw
                case rel => exact ⟨k + 1, by omega, by go_num, Lib.hid hbq'.out.drew, hrq'⟩
                case measure => simp [intOf]; omega
            · obtain rfl : k = xs.length := by omega
              have hrn := Lib.hid (hrq.out.congr (g := fun z => .int .i64 (ctI Ls (j + 1) 0 z)) (fun z _ => by rw [hnx.out z]))
              go_wp2_with fail
              go_roundw
              case rel => exact ⟨j + 1, by omega, by go_num, hbq, hrn⟩
              case measure => simp [intOf]; omega
        · obtain rfl : j = Ls.length := by omega
          have hr1 := Lib.hid (hrw.out.congr (g := fun _ => .int .i64 1) (fun z hz => by rw [hfin.out z hz]))
          clear hrw
          go_wp2_with fail
          go_loopw [11] (fun m wq => ∃ k : Nat, k ≤ N ∧ m = .int .i64 k ∧ Hid (∃ q, wq = wr.drewN q)) (fun m _ => N - (intOf m).toNat)
          case atStart => exact ⟨0, Nat.zero_le _, rfl, Lib.hid ⟨0, rfl⟩⟩
          case round =>
            obtain ⟨k, hk, rfl, hq⟩ := hrel
            obtain ⟨q, rfl⟩ := hq.out
            by_cases hlk : k < N
            · have k1 : (0 : Int) ≤ (k : Int) := by omega
              have k2 : (k : Int) < (N : Nat) := by omega
              have e4 : (wr.drewN q).cell? ⟨w4.heap.size, k, none⟩ = some (.int .i64 1) := World.rowIs.cell hr1.out hlk
              go_wp2_with fail
              go_roundw
              case rel => exact ⟨k + 1, by omega, by go_num, hq⟩
              case measure => simp [intOf]; omega
            · obtain rfl : k = N := by omega
              go_wp2_with (go_at_call 8; (with_reducible refine (hch.out _).mono ?_); rintro e w' ⟨rfl, rfl⟩)
              go_ret
              exact ⟨ret_bool (by simp), below_drewN (hb4.out.trans (hbel.out.mono z4)) _⟩
    · have hLe : allC n = [] := by unfold allC; rw [hp]; rfl
      rw [hLe, hp] at hi
      rw [hLe] at hs hLs
      have hLn := hLs.1
      obtain ⟨Ls, hL⟩ : ∃ Ls : List (List Int), [] = Ls := ⟨_, rfl⟩
      rw [hL] at hi hs hLs
      replace hs := Lib.hid (fun W => show Calls Tryd.prog 6 #[.int .i64 n] W (SSP Ls false W) from by rw [← hp]; exact hs W)
      replace hLs := Lib.hid hLs
      replace hi := Lib.hid hi
      replace hp := Lib.hid hp
      replace hL := Lib.hid hL
      replace hLe := Lib.hid hLe
      replace hdn := Lib.hid hdn
      go_wp2_with fail
      refine (hi.out).mono ?_
      rintro e w2 ⟨v2, rfl, hR2, hb2⟩
      obtain ⟨a2, c2, V2, K2, rfl, t2, r2, -, -⟩ := hR2.opened
      have z2 := hb2.size
      have r2' := r2.rows
      replace hb2 := Lib.hid (hb1.out.trans (hb2.mono z1))
      clear hR2 r2 hi
      go_wp2_with fail
      refine (hs.out w2).mono ?_
      rintro e w3 ⟨v3, rfl, hR3, hb3⟩
      obtain ⟨a3, c3, V3, K3, rfl, t3, r3, -, -⟩ := hR3.opened
      have z3 := hb3.size
      have t23 := (t2.below hb3 (Nat.le_refl _)).mono z3
      have r23 := (r2'.below hb3 (Nat.le_refl _)).mono z3
      have he := Lib.hid (fun q => same_rows Ls a2 a3 c2 c3 V2 V3 w3.heap.size (w3.drewN q) hLs.out (t23.drewN q) (t3.drewN q) (r23.drewN q) (r3.rows.drewN q))
      replace hb3 := Lib.hid (hb2.out.trans (hb3.mono (by omega)))
      clear hR3 t3 r3 hs t2 r2' t23 r23
      go_wp2_with fail
      refine (he.out 0).mono ?_
      rintro e w4 ⟨rfl, q, rfl⟩
      go_wp2_with fail
      refine (he.out _).mono ?_
      rintro e w5 ⟨rfl, q2, rfl⟩
      go_wp2_with fail
      go_ret
      exact ⟨rfl, below_drewN hb3.out _⟩
end Go.Proofs.YtoglcinfnhhkhabDoor
