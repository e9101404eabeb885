/- The law FnFlower: leaves of flowers have just the core in common. -/
import Derived.Test.YtgkbaenjniapiaaFl7
import Derived.Test.YtgkbaenjniapiaaDrawF
import Derived.Test.YtgkbaenjniapiaaSameL
import Derived.Test.YtgkbaenjniapiaaPf1
namespace Go.Proofs.Ytgkbaenjniapiaa
open Go.ChangeShapes Go.WideShapes Go.ChangeAt Go.RowKit Go.Proofs

theorem Rdr.at61 {w : World} {r S : Nat} {p : Int} (h : Rdr w r S p) (q : Int) : Rdr (w.setCell ⟨r, 1, none⟩ (.int .i64 q)) r S q := by
  obtain ⟨h1, h2, h3, h4, a, len, cap, h5, h6, h7⟩ := h
  have g1 : (w.setCell ⟨r, 1, none⟩ (.int .i64 q)).cell? ⟨r, 1, none⟩ = some (.int .i64 q) := World.cell?_setCell_same _ _ _ h4
  have g0 : (w.setCell ⟨r, 1, none⟩ (.int .i64 q)).cell? ⟨r, 0, none⟩ = some (.slice a len cap) := by
    rw [World.cell?_setCell_other _ _ _ _ (by intro e; injection e; omega)]; exact h5
  have h7' : Bytes (w.setCell ⟨r, 1, none⟩ (.int .i64 q)) S a len := fun hl => by
    obtain ⟨b, off, ha, hbS, hc⟩ := h7 hl
    refine ⟨b, off, ha, hbS, fun i hi => ?_⟩
    obtain ⟨x, x1, x2, hx⟩ := hc i hi
    exact ⟨x, x1, x2, by rw [World.cell?_setCell_other _ _ _ _ (by intro e; injection e; omega)]; exact hx⟩
  exact ⟨h1, by rw [World.frozen?_setCell]; exact h2, by rw [World.frozen?_setCell]; exact h3, g1, a, len, cap, g0, h6, h7'⟩
theorem Rdr.cells61 {w : World} {r S : Nat} {p : Int} (h : Rdr w r S p) : w.cell? ⟨r, 1, none⟩ = some (.int .i64 p) ∧ w.frozen? ⟨r, 1, none⟩ = false := ⟨h.2.2.2.1, h.2.2.1⟩
theorem bytes_later {w w' : World} {S B : Nat} {a : Option Addr} {len : Nat} (h : Bytes w S a len) (hb : Below B w w') (hS : S ≤ B) : Bytes w' B a len := fun hl => by
  obtain ⟨b, off, ha, hbS, hc⟩ := h hl
  refine ⟨b, off, ha, by omega, fun i hi => ?_⟩
  obtain ⟨x, x1, x2, hx⟩ := hc i hi
  exact ⟨x, x1, x2, (hb.cell (p := ⟨b, off + i, none⟩) (show b < B by omega)).trans hx⟩
theorem bytes_wide {w : World} {S S' : Nat} {a : Option Addr} {len : Nat} (h : Bytes w S a len) (hS : S ≤ S') : Bytes w S' a len := fun hl => by
  obtain ⟨b, off, ha, hbS, hc⟩ := h hl
  exact ⟨b, off, ha, by omega, hc⟩
/-- what a draw of a number, a family and a number of leaves gives. -/
def LeavesDraw (w : World) (e : Ending) (w' : World) : Prop := ∃ n u xs k, e = .returned (.tuple #[.int .i64 n, u, .int .i64 k]) ∧ xs.length ≤ 300 ∧ -3 ≤ k ∧ k ≤ 4 ∧ Own w' w.heap.size w'.heap.size u xs ∧ Below w.heap.size w w'
set_option maxRecDepth 100000 in
set_option maxHeartbeats 1000000 in
theorem draw_leaves (v : Value) (a : Option Addr) (len cap : Nat) (w : World) (hv : v = .slice a len cap) (hc : len ≤ cap) (hcap : cap ≤ 9223372036854775807) (hB : Bytes w w.heap.size a len) :
    Calls Try.prog 35 #[v] w (LeavesDraw w) := by
  have h0 := Lib.hid (draw_given v a len cap w hv hc hcap hB)
  have h1 := Lib.hid (fun w1 (hb : Below w.heap.size w w1) => rd_open v a len cap w1 hv hc hcap (bytes_wide (bytes_later hB hb (Nat.le_refl _)) hb.size))
  clear hv hc hcap hB
  go_enter Try.func35, Try.ntmps35
  go_wp2_with fail
  refine (h0.out).mono ?_
  rintro e w1 ⟨n, u, xs, rfl, hl, hO, hb⟩
  obtain ⟨ua, uc, rfl, _⟩ := id hO
  have z1 := hb.size
  have h2 := Lib.hid (h1.out w1 hb)
  replace hO := Lib.hid hO
  replace hb := Lib.hid hb
  clear h0 h1
  go_wp2_with fail
  refine (h2.out).mono ?_
  rintro e w2 ⟨r, rfl, hr, hR0, hb2, hz0⟩
  obtain ⟨c1, c2⟩ := hR0.cells61
  have hrw : w1.heap.size ≤ r := by omega
  replace hr := Lib.hid hr
  replace hz0 := Lib.hid hz0
  have hR1 := Lib.hid (hR0.at61 61)
  have hb3 := Lib.hid (below_setCell (p := ⟨r, 1, none⟩) hb2 hrw (.int .i64 61))
  clear hR0 hb2
  go_wp2_with fail
  refine (rd_pick r _ 61 4 _ hR1.out (by omega) (by omega) (by omega)).mono ?_
  rintro e w4 ⟨i, rfl, ⟨i1, i2, i3, i4⟩, hR3, hO3⟩
  have i5 : i < 4 := i3 (by omega)
  have hb4 := Lib.hid (hO3.below hb3.out hrw hb3.out.size)
  replace hR3 := Lib.hid hR3
  clear i3 i4 hO3 hR1
  go_wp2_with fail
  refine (rd_pick r _ (61 + 1) 20 w4 hR3.out (by omega) (by omega) (by omega)).mono ?_
  rintro e w5 ⟨y, rfl, ⟨y1, y2, y3, y4⟩, hR4, hO4⟩
  have y5 : y < 20 := y3 (by omega)
  have hb5 := Lib.hid (hO4.below hb4.out hrw hb4.out.size)
  clear y3 y4 hO4 hR3 hR4
  have hdv : 0 ≤ y / 19 ∧ y / 19 ≤ 1 := by omega
  obtain ⟨g, hg⟩ : ∃ g, y / 19 = g := ⟨_, rfl⟩
  go_wp2_with fail
  go_ret3
  exact ⟨_, _, xs, _, rfl, hl, by omega, by omega, (hO.out.below hb5.out (Nat.le_refl _)).mono (Nat.le_refl _) hb5.out.size, hb.out.trans (hb5.out.mono z1)⟩
theorem draw_FlowerOf (v : Value) (a : Option Addr) (len cap : Nat) (w : World) (hv : v = .slice a len cap) (hc : len ≤ cap) (hcap : cap ≤ 9223372036854775807) (hB : Bytes w w.heap.size a len) :
    Calls Try.prog 13 #[v] w (LeavesDraw w) := by
  have h0 := Lib.hid (draw_leaves v a len cap w hv hc hcap hB)
  clear hv hc hcap hB
  go_enter Try.func13, Try.ntmps13
  go_wp2_with fail
  refine (h0.out).mono ?_
  rintro e w1 ⟨n, u, xs, k, rfl, hl, k1, k2, hO, hb⟩
  obtain ⟨ua, uc, rfl, _⟩ := id hO
  replace hO := Lib.hid hO
  replace hb := Lib.hid hb
  go_wp2_with fail
  go_ret3
  exact ⟨_, _, xs, _, rfl, hl, k1, k2, hO.out, hb.out⟩
theorem sub_filt {xs R : List Int} (hA : Asc xs) (h : R.Sublist xs) : sortL (xs.filter (fun x => memB x R)) = R := sortL_eq (sub_asc h hA) fun z => by
  rw [List.mem_filter, memB_iff]
  exact ⟨fun h => h.2, fun hz => ⟨h.subset hz, hz⟩⟩
set_option maxRecDepth 100000 in
set_option maxHeartbeats 4000000 in
theorem law_FnFlower (v : Value) (a : Option Addr) (len cap : Nat) (w : World) (hv : v = .slice a len cap) (hc : len ≤ cap) (hcap : cap ≤ 9223372036854775807) (hB : Bytes w w.heap.size a len) :
    Calls Try.prog 4 #[v] w fun e w' => e = .returned (.bool true) ∧ Below w.heap.size w w' := by
  have h0 := Lib.hid (draw_FlowerOf v a len cap w hv hc hcap hB)
  subst hv
  clear hB
  by_cases hbig : 1048576 < len
  · go_enter Try.func4, Try.ntmps4
    go_wp2_with fail
    go_ret
    exact ⟨rfl, Below.refl _ _⟩
  · go_enter Try.func4, Try.ntmps4
    go_wp2_with fail
    refine (h0.out).mono ?_
    rintro e w1 ⟨n, u, xs, k, rfl, hl, k1, k2, hO, hb⟩
    obtain ⟨ua, uc, rfl, _⟩ := id hO
    have z1 := hb.size
    have hb1 := Lib.hid hb
    have hi := im_FlowerOf n k _ xs _ w1 hO.row (Nat.le_refl _) (by omega)
    have hs := fun (W : World) (hW : Below w1.heap.size w1 W) => sp_FlowerOf n k _ xs w1.heap.size W (hO.row.below hW (Nat.le_refl _)) hW.size (by omega)
    have RX1 := Lib.hid hO.row
    have hfr := fun (W : World) (hW : Row W W.heap.size (.slice ua xs.length uc) xs) => im_FlowerFree n k _ xs W.heap.size W hW (Nat.le_refl _) (by omega)
    clear hb hO h0
    cases hfo : flO n xs k with
    | none =>
      have e1 : flL n xs k = [] := by unfold flL; rw [hfo]; rfl
      rw [hfo, e1] at hi hs
      replace hi := Lib.hid (show Calls _ _ _ _ (FlowPost [] 0 false w1) from hi)
      replace hs := Lib.hid (fun (W : World) (hW : Below w1.heap.size w1 W) => (show Calls _ _ _ _ (FlowPost [] 0 false W) from hs W hW))
      have hsame : sameB ([] : List Int) [] = true := decide_eq_true rfl
      replace hfo := Lib.hid hfo
      replace e1 := Lib.hid e1
      clear hfr
      go_wp2_with fail
      refine hi.out.mono ?_
      rintro e w2 ⟨v2, rfl, hO2, hb2⟩
      obtain ⟨va, vc, rfl, _⟩ := id hO2
      have z2 := hb2.size
      have hcs := Lib.hid (hs.out w2 hb2)
      replace hO2 := Lib.hid hO2
      replace hb2 := Lib.hid (hb1.out.trans (hb2.mono z1))
      go_wp2_with fail
      refine hcs.out.mono ?_
      rintro e w3 ⟨v3, rfl, hO3, hb3⟩
      obtain ⟨ya, yc, rfl, _⟩ := id hO3
      have z3 := hb3.size
      have hO23 := Lib.hid (hO2.out.below hb3 (Nat.le_refl _))
      replace hO3 := Lib.hid hO3
      replace hb3 := Lib.hid (hb2.out.trans (hb3.mono hb2.out.size))
      have hq : ∀ W, (∃ q, W = w3.drewN q) → Calls Try.prog 10 #[.slice va ([] : List Int).length vc, .slice ya ([] : List Int).length yc] W fun e w' => e = .returned (.bool true) ∧ ∃ n, w' = W.drewN n := by
        rintro W ⟨q, rfl⟩
        have := same_l (.slice va ([] : List Int).length vc) (.slice ya ([] : List Int).length yc) _ _ w3.heap.size (w3.drewN q) ((hO23.out.row.mono z3).drewN q) (hO3.out.row.drewN q) (by simp) (by simp)
        rw [hsame] at this
        exact this
      replace hq := Lib.hid hq
      go_wp2_with fail
      refine (hq.out w3 ⟨0, rfl⟩).mono ?_
      rintro e w4 ⟨rfl, q, rfl⟩
      go_wp2_with fail
      refine (hq.out _ ⟨q, rfl⟩).mono ?_
      rintro e w5 ⟨rfl, q5, rfl⟩
      go_wp2_with fail
      go_ret
      exact ⟨rfl, below_drewN hb3.out _⟩
    | some R =>
      obtain ⟨fx, r1, r2, hRl, hfl, hsub⟩ := flo_some hfo
      have e1 : flL n xs k = R := by unfold flL; rw [hfo]; rfl
      have ef : freB n xs k = false := by unfold freB; rw [hfo]; simp
      rw [hfo, e1] at hi hs
      rw [ef] at hfr
      have lR : R.length ≤ 4 := by omega
      have hRk : ((R.length : Nat) : Int) = k := by omega
      have fR : famB n R = true := by
        obtain ⟨n1, n2, hss⟩ := famB_all fx
        exact famB_mk (ptsB_mk n1 n2) (fun z hz => hss z (hsub.subset hz)) (sub_asc hsub (famB_asc fx))
      have hpair := flow_out hfl
      have hRz := famB_lt fR
      have hcb := core_bd hRz
      obtain ⟨c, hcv⟩ : ∃ c, coreI R = c := ⟨_, rfl⟩
      rw [hcv] at hi hs hpair hcb
      have hcc : (c != c) = false := by simp
      have hsame : sameB R R = true := decide_eq_true rfl
      have hE := sub_filt (famB_asc fx) hsub
      have lx := famB_len fx
      have hc1 := fun (W : World) (v u : Value) (h1 : Row W W.heap.size v xs) (h2 : Row W W.heap.size u R) => im_FamilyCommon n v u xs R W.heap.size W h1 h2 (Nat.le_refl _) (by omega) (by omega)
      rw [hE] at hc1
      simp only [fx, fR, Bool.and_true] at hc1
      replace hc1 := Lib.hid (show ∀ (W : World) (v u : Value), Row W W.heap.size v xs → Row W W.heap.size u R → Calls Try.prog 11 #[.int .i64 n, v, u] W (ListPost R true W) from hc1)
      replace hi := Lib.hid (show Calls _ _ _ _ (FlowPost R c true w1) from hi)
      replace hs := Lib.hid (fun (W : World) (hW : Below w1.heap.size w1 W) => (show Calls _ _ _ _ (FlowPost R c true W) from hs W hW))
      replace hpair := Lib.hid hpair
      replace hRz := Lib.hid hRz
      replace hfr := Lib.hid hfr
      replace hfo := Lib.hid hfo
      replace e1 := Lib.hid e1
      replace ef := Lib.hid ef
      replace fx := Lib.hid fx
      replace fR := Lib.hid fR
      replace hfl := Lib.hid hfl
      replace hsub := Lib.hid hsub
      replace hcv := Lib.hid hcv
      replace hE := Lib.hid hE
      replace hRl := Lib.hid hRl
      replace hRk := Lib.hid hRk
      go_wp2_with fail
      refine (hi.out).mono ?_
      rintro e w2 ⟨v2, rfl, hN, hbn⟩
      obtain ⟨c2, d2, rfl, _⟩ := id hN
      have zn := hbn.size
      have RX2 := Lib.hid ((RX1.out.below hbn (Nat.le_refl _)).mono zn)
      have RT2 := Lib.hid hN.row
      have hb2 := Lib.hid (hb1.out.trans (hbn.mono hb1.out.size))
      have hcs := Lib.hid (hs.out w2 hbn)
      clear hN hbn zn
      go_wp2_with fail
      refine (hcs.out).mono ?_
      rintro e w3 ⟨v3, rfl, hN, hbn⟩
      obtain ⟨c3, d3, rfl, _⟩ := id hN
      have zn := hbn.size
      have RX3 := Lib.hid ((RX2.out.below hbn (Nat.le_refl _)).mono zn)
      have RT3 := Lib.hid ((RT2.out.below hbn (Nat.le_refl _)).mono zn)
      have RM3 := Lib.hid hN.row
      have hb3 := Lib.hid (hb2.out.trans (hbn.mono hb2.out.size))
      clear hN hbn zn
      have hq3 := same_l _ _ R R w3.heap.size w3 RT3.out RM3.out (by omega) (by omega)
      rw [hsame] at hq3
      replace hq3 := Lib.hid hq3
      go_wp2_with fail
      refine (hq3.out).mono ?_
      rintro e w' ⟨rfl, q3, rfl⟩
      have hb4 := Lib.hid (below_drewN hb3.out q3)
      have RX4 := Lib.hid (show Row (w3.drewN q3) (w3.drewN q3).heap.size _ _ from RX3.out.drewN q3)
      have RT4 := Lib.hid (show Row (w3.drewN q3) (w3.drewN q3).heap.size _ _ from RT3.out.drewN q3)
      obtain ⟨w4, hw4⟩ : ∃ w4, w3.drewN q3 = w4 := ⟨_, rfl⟩
      rw [hw4] at hb4 RX4 RT4 ⊢
      replace hw4 := Lib.hid hw4
      go_wp2_with fail
      refine (hc1.out w4 _ _ RX4.out RT4.out).mono ?_
      rintro e w5 ⟨v5, rfl, hN, hbn⟩
      obtain ⟨c5, d5, rfl, _⟩ := id hN
      have zn := hbn.size
      have RX5 := Lib.hid ((RX4.out.below hbn (Nat.le_refl _)).mono zn)
      have RT5 := Lib.hid ((RT4.out.below hbn (Nat.le_refl _)).mono zn)
      have RC5 := Lib.hid hN.row
      have hb5 := Lib.hid (hb4.out.trans (hbn.mono hb4.out.size))
      have z5 := hb5.out.size
      clear hN hbn zn
      obtain ⟨_, _, e', hcT⟩ := RT5.out
      injection e' with f1 f2 f3
      subst f1 f3
      replace hcT := Lib.hid hcT
      go_wp2_with fail
      go_loopw [14] (fun s wr => ∃ i : Nat, i ≤ R.length ∧ s = .int .i64 i ∧ Hid (∃ q, wr = w5.drewN q)) (fun s _ => R.length - (intOf s).toNat)
      case atStart => exact ⟨0, by omega, rfl, Lib.hid ⟨0, rfl⟩⟩
      case round =>
        obtain ⟨i, hik, rfl, hw⟩ := hrel
        by_cases hlt : i < R.length
        · obtain ⟨b1, o1, rfl, t1, cc1⟩ := hcT.out (by omega)
          have m1 : (0 : Int) ≤ (i : Int) := by omega
          have m2 : (i : Int) < (R.length : Nat) := by omega
          obtain ⟨x, hx0⟩ : ∃ x, R.getD i 0 = x := ⟨_, rfl⟩
          have hmx : x ∈ R := by rw [← hx0]; exact getD_mem hlt
          obtain ⟨a1, a2⟩ := hRz.out x hmx
          replace cc1 := Lib.hid cc1
          replace hmx := Lib.hid hmx
          replace hx0 := Lib.hid hx0
          go_wp2_with fail
          go_loopw [15] (fun s wq => ∃ j : Nat, j ≤ i ∧ s = .int .i64 j ∧ Hid (∃ q, wq = w5.drewN q)) (fun s _ => i - (intOf s).toNat)
          case atStart => exact ⟨0, by omega, rfl, hw⟩
          case round =>
            obtain ⟨j, hj, rfl, hw⟩ := hrel
            by_cases hlj : j < i
            · have p1 : (0 : Int) ≤ (j : Int) := by omega
              have p2 : (j : Int) < (i : Nat) := by omega
              have p3 : (j : Int) < (R.length : Nat) := by omega
              obtain ⟨z, hz0⟩ : ∃ z, R.getD j 0 = z := ⟨_, rfl⟩
              have hmz : z ∈ R := by rw [← hz0]; exact getD_mem (by omega)
              obtain ⟨u1, u2⟩ := hRz.out z hmz
              have hand : bits .and .i64 x z = c := by rw [i64_andI a1 a2 u1 u2, ← hx0.out, ← hz0]; exact hpair.out i hlt j hlj
              have e1 : wr.cell? ⟨b1, o1 + i, none⟩ = some (.int .i64 x) := by
                obtain ⟨q, h⟩ := hw.out
                rw [h, ← hx0.out]; exact cc1.out i hlt
              have e2 : wr.cell? ⟨b1, o1 + j, none⟩ = some (.int .i64 z) := by
                obtain ⟨q, h⟩ := hw.out
                rw [h, ← hz0]; exact cc1.out j (by omega)
              have hwd : ∀ p, Hid (∃ q, wr.drewN p = w5.drewN q) := fun p => by
                obtain ⟨q, h⟩ := hw.out
                exact Lib.hid ⟨q + p, by rw [h]; exact World.drewN_drewN _ _ _⟩
              replace hz0 := Lib.hid hz0
              replace hmz := Lib.hid hmz
              clear hw
              go_wp2_with fail
              go_quiet (fail)
              go_wp2_with fail
              go_roundw
              case rel => exact ⟨j + 1, by omega, by go_num, hwd _⟩
              case measure => simp [intOf]; omega
            · obtain rfl : j = i := by omega
              go_wp2_with fail
              go_roundw
              case rel => exact ⟨j + 1, by omega, by go_num, hw⟩
              case measure => simp [intOf]; omega
        · obtain rfl : i = R.length := by omega
          obtain ⟨q, rfl⟩ := hw.out
          have RX6 := Lib.hid (show Row (w5.drewN q) (w5.drewN q).heap.size _ _ from RX5.out.drewN q)
          have hq6 := same_l _ _ R R (w5.drewN q).heap.size (w5.drewN q) (RC5.out.drewN q) (RT5.out.drewN q) (by omega) (by omega)
          rw [hsame] at hq6
          replace hq6 := Lib.hid hq6
          have hb6 := Lib.hid (below_drewN hb5.out q)
          have hRk2 := hRk.out
          go_wp2_with fail
          refine (hq6.out).mono ?_
          rintro e w' ⟨rfl, q6, rfl⟩
          have hd7 := Lib.hid (hfr.out (w5.drewN (q + q6)) (show Row (w5.drewN (q + q6)) (w5.drewN (q + q6)).heap.size _ _ from RX5.out.drewN (q + q6)))
          have hb7 := Lib.hid (below_drewN hb5.out (q + q6))
          go_wp2_with fail
          refine (hd7.out).mono ?_
          rintro e w8 ⟨rfl, hb8⟩
          replace hb8 := Lib.hid (hb7.out.trans (hb8.mono (show w.heap.size ≤ w5.heap.size by have := hb1.out.size; omega)))
          go_wp2_with fail
          go_ret
          exact ⟨rfl, hb8.out⟩
end Go.Proofs.Ytgkbaenjniapiaa
