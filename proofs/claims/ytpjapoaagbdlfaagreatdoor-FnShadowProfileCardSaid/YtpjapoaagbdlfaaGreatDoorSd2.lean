/- Draws of a number of points and a list of numbers. -/
import Derived.Test.YtpjapoaagbdlfaaGreatDoorAllD
import Derived.Test.YtpjapoaagbdlfaaGreatDoorSpec8
import Derived.Test.YtpjapoaagbdlfaaGreatDoorAllAs
namespace Go.Proofs.YtpjapoaagbdlfaaGreatDoor
open Go.ChangeShapes Go.WideShapes Go.ChangeAt Go.RowKit Go.Proofs

theorem own_set7 {w : World} {B S : Nat} {b off c : Nat} {xs : List Int} (h : Own w B S (.slice (some ⟨b, off, none⟩) xs.length c) xs) {i : Nat} (hi : i < xs.length) (q : Int) :
    B ≤ b ∧ b < S ∧ w.cell? ⟨b, off + i, none⟩ = some (.int .i64 (xs.getD i 0)) ∧ w.frozen? ⟨b, off + i, none⟩ = false ∧ Own (w.setCell ⟨b, off + i, none⟩ (.int .i64 q)) B S (.slice (some ⟨b, off, none⟩) xs.length c) (xs.set i q) := by
  obtain ⟨a, cap, e, h⟩ := h
  injection e with e1 e2 e3
  subst e1 e3
  obtain ⟨b', off', e, hB, hs, hc, hf⟩ := h (by omega)
  cases e
  refine ⟨hB, hs, hc i hi, hf i hi, ⟨_, _, by rw [List.length_set], fun _ => ⟨b, off, rfl, hB, hs, fun j hj => ?_, fun j hj => ?_⟩⟩⟩
  · rw [List.length_set] at hj
    by_cases e : j = i
    · subst e
      rw [World.cell?_setCell_same _ _ _ (hc j hj)]
      rw [List.getD_eq_getElem?_getD, List.getElem?_set_self (by omega)]; rfl
    · rw [World.cell?_setCell_other _ _ _ _ (by intro e2; injection e2 with _ e3; omega), hc j hj]
      rw [List.getD_eq_getElem?_getD, List.getD_eq_getElem?_getD, List.getElem?_set_ne (by omega)]
  · rw [List.length_set] at hj
    rw [World.frozen?_setCell]; exact hf j hj
/-- what a draw of a number of points and a list of numbers gives. -/
def ProfDraw (w : World) (e : Ending) (w' : World) : Prop := ∃ n u xs, e = .returned (.tuple #[.int .i64 n, u]) ∧ n ≤ 5 ∧ xs.length ≤ 300 ∧ Own w' w.heap.size w'.heap.size u xs ∧ Below w.heap.size w w'
theorem fam_cl7 {n : Int} {xs : List Int} (h : famB n xs = true) : famB n (clL true xs (2 ^ n.toNat)) = true := by
  obtain ⟨n1, n2, hs⟩ := famB_all h
  refine famB_mk (ptsB_mk n1 n2) (fun z hz => ?_) (asc_filter (asc_upI _) _)
  have h1 := mem_upI.1 (List.mem_filter.1 hz).1
  have e : ((2 ^ n.toNat : Nat) : Int) = 2 ^ n.toNat := by simp
  exact setB_mk ⟨n1, n2, h1.1, by omega⟩
theorem only_cell {r b o : Nat} {w W : World} (h : Only r w W) (hb : w.heap.size ≤ b) (v : Value) : Only r w (W.setCell ⟨b, o, none⟩ v) :=
  ⟨h.os, h.tape, h.output, by rw [World.size_setCell]; exact h.size, fun i hi hne => (Below.heap_setCell _ _ _ _ (by show i ≠ b; omega)).trans (h.block i hi hne)⟩
set_option maxRecDepth 100000 in
set_option maxHeartbeats 4000000 in
theorem draw_prof (r S : Nat) (w : World) (h : Rdr w r S 0) : Calls Tryz.prog 20 #[.pointer (some ⟨r, 0, none⟩)] w fun e w' => ∃ n u xs, e = .returned (.tuple #[.int .i64 n, u]) ∧ n ≤ 5 ∧ xs.length ≤ 300 ∧ Own w' w.heap.size w'.heap.size u xs ∧ Only r w w' := by
  have hR0 := Lib.hid h
  have hrw := h.lt
  clear h
  go_enter Tryz.func20, Tryz.ntmps20
  go_wp2_with fail
  refine (rd_pick r S 0 5 w hR0.out (by omega) (by omega) (by omega)).mono ?_
  rintro e w1 ⟨x, rfl, ⟨m1, m2, m3, m4⟩, hR1, hO1⟩
  have m5 : x < 5 := m3 (by omega)
  obtain ⟨n, hn⟩ : ∃ n, 1 + x = n := ⟨_, rfl⟩
  have n1 : 1 ≤ n := by omega
  have n5 : n ≤ 5 := by omega
  have hwn : IntKind.i64.wrap (1 + x) = n := by rw [IntKind.wrap_i64]; omega
  have hwn2 : wrap64 (1 + x) = n := by unfold wrap64; omega
  have z1 := hO1.size
  replace hR1 := Lib.hid hR1
  replace hO1 := Lib.hid hO1
  clear m3 m4 hR0
  go_wp2_with fail
  refine (draw_family r S (0 + 1) n w1 hR1.out (by omega) (by omega) (by omega) (by omega)).mono ?_
  rintro e w2 ⟨v2, L, p2, rfl, hL, hF2, hR2, q1, q2, hO2⟩
  obtain ⟨fa, fc, rfl, _⟩ := id hF2
  have z2 := hO2.size
  have O2 := Lib.hid (hO1.out.trans hO2)
  have RL2 := Lib.hid hF2.row
  have hc1 := Lib.hid (sp_FamilyProfile n _ L w2.heap.size w2 hF2.row (Nat.le_refl _) (by omega))
  have hc2 := Lib.hid (fun (W : World) (hW : Below w2.heap.size w2 W) => sp_ClosedDown n _ L w2.heap.size W (hF2.row.below hW (Nat.le_refl _)) hW.size (by omega))
  replace hR2 := Lib.hid hR2
  clear hF2 hO2 hR1
  rcases (by cases famB n L <;> simp : famB n L = true ∨ famB n L = false) with hf | hf
  · obtain ⟨_, n8, _⟩ := famB_all hf
    have fD := fam_cl7 hf
    rw [hf] at hc1 hc2
    have lP := profL_len (n.toNat + 1) L
    obtain ⟨P, hP⟩ : ∃ P, profL (n.toNat + 1) L = P := ⟨_, rfl⟩
    obtain ⟨D, hD⟩ : ∃ D, clL true L (2 ^ n.toNat) = D := ⟨_, rfl⟩
    have lQ := profL_len (n.toNat + 1) D
    obtain ⟨Q, hQ⟩ : ∃ Q, profL (n.toNat + 1) D = Q := ⟨_, rfl⟩
    rw [hP] at hc1 lP
    rw [hD] at hc2 fD
    rw [hQ] at lQ
    have lD := famB_len fD
    have lP2 : ((P.length : Nat) : Int) = n + 1 := by omega
    have lQ2 : ((Q.length : Nat) : Int) = n + 1 := by omega
    replace hc1 := Lib.hid (show Calls _ _ _ _ (ListPost P true w2) from hc1.out)
    replace hc2 := Lib.hid (fun (W : World) (hW : Below w2.heap.size w2 W) => (show Calls _ _ _ _ (ListPost D true W) from hc2.out W hW))
    have hc5 := Lib.hid (fun (W : World) (v : Value) (h1 : Row W W.heap.size v D) => (show Calls _ _ _ _ (ListPost Q true W) from by
      have := sp_FamilyProfile n v D W.heap.size W h1 (Nat.le_refl _) (by omega)
      rw [fD, hQ] at this
      exact this))
    replace hP := Lib.hid hP
    replace hQ := Lib.hid hQ
    replace hD := Lib.hid hD
    replace hf := Lib.hid hf
    replace fD := Lib.hid fD
    replace lP := Lib.hid lP
    replace lQ := Lib.hid lQ
    replace lP2 := Lib.hid lP2
    replace lQ2 := Lib.hid lQ2
    go_wp2_with fail
    refine hc1.out.mono ?_
    rintro e w3 ⟨v3, rfl, hN3, hb3⟩
    obtain ⟨a3, c3, rfl, _⟩ := id hN3
    have hc3 := Lib.hid (hc2.out w3 hb3)
    have z3 := hb3.size
    have B3 := Lib.hid (O2.out.then hb3 (by omega))
    have P3 := Lib.hid hN3
    have R3 := Lib.hid (hR2.out.below hb3 (by have := hR2.out.lt; omega))
    clear hN3 hb3
    go_wp2_with fail
    refine hc3.out.mono ?_
    rintro e w4 ⟨v4, rfl, hN4, hb4⟩
    obtain ⟨a4, c4, rfl, _⟩ := id hN4
    have z4 := hb4.size
    have B4 := Lib.hid (B3.out.then hb4 (by omega))
    have P4 := Lib.hid ((P3.out.below hb4 (Nat.le_refl _)).mono (show w.heap.size ≤ w2.heap.size by omega) z4)
    have D4 := Lib.hid hN4
    have R4 := Lib.hid (R3.out.below hb4 (by have := R3.out.lt; omega))
    clear hN4 hb4
    go_wp2_with fail
    refine (rd_pick r S p2 3 w4 R4.out (by omega) (by omega) (by omega)).mono ?_
    rintro e w5 ⟨z5, rfl, ⟨a5, b5, c5, -⟩, hR5, hO5⟩
    have d5 : z5 < 3 := c5 (by omega)
    have P5 := Lib.hid (P4.out.only hO5 hrw (Nat.le_refl _))
    have D5 := Lib.hid ((D4.out.only hO5 (show r < w3.heap.size by omega) (Nat.le_refl _)).row.mono hO5.size)
    have B5 := Lib.hid (B4.out.trans hO5)
    have zz5 := hO5.size
    replace hR5 := Lib.hid hR5
    clear c5 hO5
    by_cases h5 : 0 < z5
    · go_wp2_with fail
      refine (hc5.out w5 _ D5.out).mono ?_
      rintro e w6 ⟨v6, rfl, hN6, hb6⟩
      obtain ⟨a6, c6, rfl, _⟩ := id hN6
      have z6 := hb6.size
      have B6 := Lib.hid (B5.out.then hb6 (by omega))
      have Q6 := Lib.hid (hN6.mono (show w.heap.size ≤ w5.heap.size by omega) (Nat.le_refl w6.heap.size))
      have R6 := Lib.hid (hR5.out.below hb6 (by have := hR5.out.lt; omega))
      clear hN6 hb6
      go_wp2_with fail
      refine (rd_pick r _ (p2 + 1) 6 w6 R6.out (by omega) (by omega) (by omega)).mono ?_
      rintro e w7 ⟨z7, rfl, ⟨a7, b7, c7, -⟩, hR7, hO7⟩
      have d7 : z7 < 6 := c7 (by omega)
      have O7 := Lib.hid ((Q6.out).only hO7 hrw (by omega))
      have B7 := Lib.hid (B6.out.trans hO7)
      have zz7 := hO7.size
      replace hR7 := Lib.hid hR7
      clear c7 hO7
      by_cases h7 : z7 = 0
      · subst h7
        go_wp2_with fail
        refine (rd_pick r _ ((p2 + 1) + 1) (n + 1) w7 hR7.out (by omega) (by omega) (by omega)).mono ?_
        rintro e w8 ⟨z8, rfl, ⟨a8, b8, c8, -⟩, hR8, hO8⟩
        have d8 : z8 < n + 1 := c8 (by omega)
        have O8 := Lib.hid ((O7.out).only hO8 hrw (by omega))
        have B8 := Lib.hid (B7.out.trans hO8)
        have zz8 := hO8.size
        replace hR8 := Lib.hid hR8
        clear c8 hO8
        go_wp2_with fail
        refine (rd_pick r _ ((p2 + 1) + 1 + 1) 12 w8 hR8.out (by omega) (by omega) (by omega)).mono ?_
        rintro e w9 ⟨z9, rfl, ⟨a9, b9, c9, -⟩, hR9, hO9⟩
        have d9 : z9 < 12 := c9 (by omega)
        have O9 := (O8.out).only hO9 hrw (by omega)
        have B9 := Lib.hid (B8.out.trans hO9)
        have zz9 := hO9.size
        clear c9 hO9
        obtain ⟨ta, tc, te, th⟩ := id O9
        injection te with te1 te2 te3
        subst te1 te3
        obtain ⟨bb, oo, rfl, -, -, -, -⟩ := th (by have := lQ2.out; omega)
        obtain ⟨i8, hi8⟩ : ∃ i : Nat, z8 = (i : Nat) := ⟨z8.toNat, by omega⟩
        subst hi8
        have hil : i8 < Q.length := by have := lQ2.out; omega
        obtain ⟨s1, s2, s3, s4, s5⟩ := own_set7 O9 hil (z9 - 1)
        have hin : (i8 : Int) < (Q.length : Nat) := by omega
        have B10 := Lib.hid (only_cell (o := oo + i8) B9.out (show w.heap.size ≤ bb by omega) (.int .i64 (z9 - 1)))
        replace s5 := Lib.hid s5
        clear th O9
        go_wp2_with fail
        go_ret2
        exact ⟨_, _, Q.set i8 (z9 - 1), rfl, n5, by rw [List.length_set]; have := lQ2.out; omega, s5.out.mono (by omega) (by simp; omega), B10.out⟩
      · go_wp2_with fail
        go_ret2
        exact ⟨_, _, Q, rfl, n5, by have := lQ2.out; omega, O7.out.mono (by omega) (by omega), B7.out⟩
    · go_wp2_with fail
      refine (rd_pick r _ (p2 + 1) 6 w5 hR5.out (by omega) (by omega) (by omega)).mono ?_
      rintro e w7 ⟨z7, rfl, ⟨a7, b7, c7, -⟩, hR7, hO7⟩
      have d7 : z7 < 6 := c7 (by omega)
      have O7 := Lib.hid ((P5.out).only hO7 hrw (by omega))
      have B7 := Lib.hid (B5.out.trans hO7)
      have zz7 := hO7.size
      replace hR7 := Lib.hid hR7
      clear c7 hO7
      by_cases h7 : z7 = 0
      · subst h7
        go_wp2_with fail
        refine (rd_pick r _ ((p2 + 1) + 1) (n + 1) w7 hR7.out (by omega) (by omega) (by omega)).mono ?_
        rintro e w8 ⟨z8, rfl, ⟨a8, b8, c8, -⟩, hR8, hO8⟩
        have d8 : z8 < n + 1 := c8 (by omega)
        have O8 := Lib.hid ((O7.out).only hO8 hrw (by omega))
        have B8 := Lib.hid (B7.out.trans hO8)
        have zz8 := hO8.size
        replace hR8 := Lib.hid hR8
        clear c8 hO8
        go_wp2_with fail
        refine (rd_pick r _ ((p2 + 1) + 1 + 1) 12 w8 hR8.out (by omega) (by omega) (by omega)).mono ?_
        rintro e w9 ⟨z9, rfl, ⟨a9, b9, c9, -⟩, hR9, hO9⟩
        have d9 : z9 < 12 := c9 (by omega)
        have O9 := (O8.out).only hO9 hrw (by omega)
        have B9 := Lib.hid (B8.out.trans hO9)
        have zz9 := hO9.size
        clear c9 hO9
        obtain ⟨ta, tc, te, th⟩ := id O9
        injection te with te1 te2 te3
        subst te1 te3
        obtain ⟨bb, oo, rfl, -, -, -, -⟩ := th (by have := lP2.out; omega)
        obtain ⟨i8, hi8⟩ : ∃ i : Nat, z8 = (i : Nat) := ⟨z8.toNat, by omega⟩
        subst hi8
        have hil : i8 < P.length := by have := lP2.out; omega
        obtain ⟨s1, s2, s3, s4, s5⟩ := own_set7 O9 hil (z9 - 1)
        have hin : (i8 : Int) < (P.length : Nat) := by omega
        have B10 := Lib.hid (only_cell (o := oo + i8) B9.out (show w.heap.size ≤ bb by omega) (.int .i64 (z9 - 1)))
        replace s5 := Lib.hid s5
        clear th O9
        go_wp2_with fail
        go_ret2
        exact ⟨_, _, P.set i8 (z9 - 1), rfl, n5, by rw [List.length_set]; have := lP2.out; omega, s5.out.mono (by omega) (by simp; omega), B10.out⟩
      · go_wp2_with fail
        go_ret2
        exact ⟨_, _, P, rfl, n5, by have := lP2.out; omega, O7.out.mono (by omega) (by omega), B7.out⟩
  · rw [hf] at hc1 hc2
    replace hc1 := Lib.hid (show Calls _ _ _ _ (ListPost [] false w2) from hc1.out)
    replace hc2 := Lib.hid (fun (W : World) (hW : Below w2.heap.size w2 W) => (show Calls _ _ _ _ (ListPost [] false W) from hc2.out W hW))
    replace hf := Lib.hid hf
    go_wp2_with fail
    refine hc1.out.mono ?_
    rintro e w3 ⟨v3, rfl, hN3, hb3⟩
    obtain ⟨a3, c3, rfl, _⟩ := id hN3
    have hc3 := Lib.hid (hc2.out w3 hb3)
    have z3 := hb3.size
    have B3 := Lib.hid (O2.out.then hb3 (by omega))
    clear hN3 hb3
    go_wp2_with fail
    refine hc3.out.mono ?_
    rintro e w4 ⟨v4, rfl, hN4, hb4⟩
    obtain ⟨a4, c4, rfl, _⟩ := id hN4
    have z4 := hb4.size
    have B4 := Lib.hid (B3.out.then hb4 (by omega))
    clear hN4 hb4
    go_wp2_with fail
    go_ret2
    exact ⟨_, _, [1], rfl, n5, by simp, ⟨_, _, rfl, fun _ => ⟨w4.heap.size, 0, rfl, by omega, by simp, fun i hi => by
      simp at hi
      subst hi
      exact cell_new _ _ _, fun i hi => World.frozen?_alloc_at _ _ _ _ rfl⟩⟩, B4.out.alloc _⟩
set_option maxRecDepth 100000 in
set_option maxHeartbeats 1000000 in
theorem draw_ShadowDown (v : Value) (a : Option Addr) (len cap : Nat) (w : World) (hv : v = .slice a len cap) (hc : len ≤ cap) (hcap : cap ≤ 9223372036854775807) (hB : Bytes w w.heap.size a len) :
    Calls Tryz.prog 14 #[v] w (ProfDraw w) := by
  have h0 := Lib.hid (rd_open v a len cap w hv hc hcap hB)
  clear hv hc hcap hB
  go_enter Tryz.func14, Tryz.ntmps14
  go_wp2_with fail
  refine (h0.out).mono ?_
  rintro e w0 ⟨r, rfl, hr, hR0, hb0, hz0⟩
  have hrw : w.heap.size ≤ r := by omega
  replace hr := Lib.hid hr
  replace hR0 := Lib.hid hR0
  replace hb0 := Lib.hid hb0
  go_wp2_with fail
  refine (draw_prof r _ w0 hR0.out).mono ?_
  rintro e w1 ⟨n, u, xs, rfl, h1, h2, h3, h4⟩
  obtain ⟨fa, fc, rfl, _⟩ := id h3
  have hb1 := Lib.hid (h4.below hb0.out hrw hb0.out.size)
  replace h3 := Lib.hid h3
  clear h4
  go_wp2_with fail
  go_ret2
  exact ⟨_, _, xs, rfl, h1, h2, h3.out.mono (by omega) (Nat.le_refl _), hb1.out⟩
set_option maxRecDepth 100000 in
set_option maxHeartbeats 1000000 in
theorem draw_ShadowProfile (v : Value) (a : Option Addr) (len cap : Nat) (w : World) (hv : v = .slice a len cap) (hc : len ≤ cap) (hcap : cap ≤ 9223372036854775807) (hB : Bytes w w.heap.size a len) :
    Calls Tryz.prog 6 #[v] w (ProfDraw w) := by
  have h0 := Lib.hid (rd_open v a len cap w hv hc hcap hB)
  clear hv hc hcap hB
  go_enter Tryz.func6, Tryz.ntmps6
  go_wp2_with fail
  refine (h0.out).mono ?_
  rintro e w0 ⟨r, rfl, hr, hR0, hb0, hz0⟩
  have hrw : w.heap.size ≤ r := by omega
  replace hr := Lib.hid hr
  replace hR0 := Lib.hid hR0
  replace hb0 := Lib.hid hb0
  go_wp2_with fail
  refine (draw_prof r _ w0 hR0.out).mono ?_
  rintro e w1 ⟨n, u, xs, rfl, h1, h2, h3, h4⟩
  obtain ⟨fa, fc, rfl, _⟩ := id h3
  have hb1 := Lib.hid (h4.below hb0.out hrw hb0.out.size)
  replace h3 := Lib.hid h3
  clear h4
  go_wp2_with fail
  go_ret2
  exact ⟨_, _, xs, rfl, h1, h2, h3.out.mono (by omega) (Nat.le_refl _), hb1.out⟩
end Go.Proofs.YtpjapoaagbdlfaaGreatDoor
