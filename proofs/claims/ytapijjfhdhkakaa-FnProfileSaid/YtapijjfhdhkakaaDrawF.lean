/- The laws' reader: families drawn alone, in twos, with a point. -/
import Derived.Test.YtapijjfhdhkakaaDraw4
namespace Go.Proofs.Ytapijjfhdhkakaa
open Go.ChangeShapes Go.WideShapes Go.ChangeAt Go.RowKit Go.Proofs

/-- what a draw of a number and a family gives. -/
def GivenDraw (w : World) (e : Ending) (w' : World) : Prop := ∃ n u xs, e = .returned (.tuple #[.int .i64 n, u]) ∧ xs.length ≤ 300 ∧ Own w' w.heap.size w'.heap.size u xs ∧ Below w.heap.size w w'
/-- what a draw of a number and two families gives. -/
def TwoDraw (w : World) (e : Ending) (w' : World) : Prop := ∃ n u xs v ys, e = .returned (.tuple #[.int .i64 n, u, v]) ∧ xs.length ≤ 300 ∧ ys.length ≤ 300 ∧ Own w' w.heap.size w'.heap.size u xs ∧ Own w' w.heap.size w'.heap.size v ys ∧ Below w.heap.size w w'
/-- what a draw of a number, a family and a point gives. -/
def WithDraw (w : World) (e : Ending) (w' : World) : Prop := ∃ n u xs p, e = .returned (.tuple #[.int .i64 n, u, .int .i64 p]) ∧ xs.length ≤ 300 ∧ Own w' w.heap.size w'.heap.size u xs ∧ Below w.heap.size w w'
set_option maxRecDepth 100000 in
set_option maxHeartbeats 1000000 in
theorem draw_given (v : Value) (a : Option Addr) (len cap : Nat) (w : World) (hv : v = .slice a len cap) (hc : len ≤ cap) (hcap : cap ≤ 9223372036854775807) (hB : Bytes w w.heap.size a len) :
    Calls Try.prog 59 #[v] w (GivenDraw w) := by
  have h0 := Lib.hid (rd_open v a len cap w hv hc hcap hB)
  clear hv hc hcap hB
  go_enter Try.func59, Try.ntmps59
  go_wp2_with fail
  refine (h0.out).mono ?_
  rintro e w0 ⟨r, rfl, hr, hR0, hb0, hz0⟩
  have hrw : w.heap.size ≤ r := by omega
  replace hr := Lib.hid hr
  replace hR0 := Lib.hid hR0
  replace hb0 := Lib.hid hb0
  go_wp2_with fail
  refine (rd_points r _ 0 w0 hR0.out (by omega) (by omega)).mono ?_
  rintro e w1 ⟨n, rfl, hn, hR1, hO1⟩
  have hn1 : 0 ≤ n ∧ n ≤ 9 := by unfold drawnPts at hn; omega
  obtain ⟨hn1, hn2⟩ := hn1
  have hb1 := Lib.hid (hO1.below hb0.out hrw hb0.out.size)
  replace hR1 := Lib.hid hR1
  clear hn hO1 hR0
  go_wp2_with fail
  refine (draw_family r _ (0 + 2) n w1 hR1.out (by omega) (by omega) hn1 hn2).mono ?_
  rintro e w2 ⟨v2, L, p2, rfl, hL, hF2, hR2, q1, q2, hO2⟩
  obtain ⟨fa, fc, rfl, _⟩ := id hF2
  have hz01 := hb1.out.size
  have hb2 := Lib.hid (hO2.below hb1.out hrw hb1.out.size)
  replace hF2 := Lib.hid hF2
  clear hO2 hR1 hR2
  go_wp2_with fail
  go_ret2
  exact ⟨_, _, L, rfl, hL, hF2.out.mono (by omega) (Nat.le_refl _), hb2.out⟩
set_option maxRecDepth 100000 in
set_option maxHeartbeats 1000000 in
theorem draw_two (v : Value) (a : Option Addr) (len cap : Nat) (w : World) (hv : v = .slice a len cap) (hc : len ≤ cap) (hcap : cap ≤ 9223372036854775807) (hB : Bytes w w.heap.size a len) :
    Calls Try.prog 75 #[v] w (TwoDraw w) := by
  have h0 := Lib.hid (rd_open v a len cap w hv hc hcap hB)
  clear hv hc hcap hB
  go_enter Try.func75, Try.ntmps75
  go_wp2_with fail
  refine (h0.out).mono ?_
  rintro e w0 ⟨r, rfl, hr, hR0, hb0, hz0⟩
  have hrw : w.heap.size ≤ r := by omega
  replace hr := Lib.hid hr
  replace hR0 := Lib.hid hR0
  replace hb0 := Lib.hid hb0
  go_wp2_with fail
  refine (rd_points r _ 0 w0 hR0.out (by omega) (by omega)).mono ?_
  rintro e w1 ⟨n, rfl, hn, hR1, hO1⟩
  have hn1 : 0 ≤ n ∧ n ≤ 9 := by unfold drawnPts at hn; omega
  obtain ⟨hn1, hn2⟩ := hn1
  have hb1 := Lib.hid (hO1.below hb0.out hrw hb0.out.size)
  have hrl1 := hR1.lt
  replace hR1 := Lib.hid hR1
  clear hn hO1 hR0
  go_wp2_with fail
  refine (draw_family r _ (0 + 2) n w1 hR1.out (by omega) (by omega) hn1 hn2).mono ?_
  rintro e w2 ⟨v2, L, p2, rfl, hL, hF2, hR2, q1, q2, hO2⟩
  obtain ⟨fa, fc, rfl, _⟩ := id hF2
  have hz01 := hb1.out.size
  have hz2 := hO2.size
  have hb2 := Lib.hid (hO2.below hb1.out hrw hb1.out.size)
  replace hF2 := Lib.hid hF2
  replace hR2 := Lib.hid hR2
  clear hO2 hR1
  go_wp2_with fail
  refine (draw_family r _ p2 n w2 hR2.out q1 (by omega) hn1 hn2).mono ?_
  rintro e w3 ⟨v3, M, p3, rfl, hM, hF3, hR3, q3, q4, hO3⟩
  obtain ⟨ga, gc, rfl, _⟩ := id hF3
  have hz3 := hO3.size
  have hF23 := Lib.hid (hF2.out.only hO3 hrl1 (Nat.le_refl _))
  have hb3 := Lib.hid (hO3.below hb2.out hrw hb2.out.size)
  replace hF3 := Lib.hid hF3
  clear hO3 hR3 hR2
  go_wp2_with fail
  go_ret3
  exact ⟨_, _, L, _, M, rfl, hL, hM, hF23.out.mono (by omega) (by omega), hF3.out.mono (by omega) (Nat.le_refl _), hb3.out⟩
set_option maxRecDepth 100000 in
set_option maxHeartbeats 1000000 in
theorem draw_with (v : Value) (a : Option Addr) (len cap : Nat) (w : World) (hv : v = .slice a len cap) (hc : len ≤ cap) (hcap : cap ≤ 9223372036854775807) (hB : Bytes w w.heap.size a len) :
    Calls Try.prog 93 #[v] w (WithDraw w) := by
  have h0 := Lib.hid (rd_open v a len cap w hv hc hcap hB)
  clear hv hc hcap hB
  go_enter Try.func93, Try.ntmps93
  go_wp2_with fail
  refine (h0.out).mono ?_
  rintro e w0 ⟨r, rfl, hr, hR0, hb0, hz0⟩
  have hrw : w.heap.size ≤ r := by omega
  replace hr := Lib.hid hr
  replace hR0 := Lib.hid hR0
  replace hb0 := Lib.hid hb0
  go_wp2_with fail
  refine (rd_points r _ 0 w0 hR0.out (by omega) (by omega)).mono ?_
  rintro e w1 ⟨n, rfl, hn, hR1, hO1⟩
  have hn1 : 0 ≤ n ∧ n ≤ 9 := by unfold drawnPts at hn; omega
  obtain ⟨hn1, hn2⟩ := hn1
  have hb1 := Lib.hid (hO1.below hb0.out hrw hb0.out.size)
  have hrl1 := hR1.lt
  replace hR1 := Lib.hid hR1
  clear hn hO1 hR0
  go_wp2_with fail
  refine (draw_family r _ (0 + 2) n w1 hR1.out (by omega) (by omega) hn1 hn2).mono ?_
  rintro e w2 ⟨v2, L, p2, rfl, hL, hF2, hR2, q1, q2, hO2⟩
  obtain ⟨fa, fc, rfl, _⟩ := id hF2
  have hz01 := hb1.out.size
  have hz2 := hO2.size
  have hb2 := Lib.hid (hO2.below hb1.out hrw hb1.out.size)
  replace hF2 := Lib.hid hF2
  replace hR2 := Lib.hid hR2
  clear hO2 hR1
  have hM1 : max 1 n ≤ 10 := by omega
  have hM0 : 1 ≤ max 1 n := by omega
  obtain ⟨M, hM⟩ : ∃ M : Int, max 1 n = M := ⟨_, rfl⟩
  rw [hM] at hM1 hM0
  go_wp2_with fail
  refine (rd_pick r _ p2 M w2 hR2.out q1 (by omega) (by omega)).mono ?_
  rintro e w3 ⟨i, rfl, ⟨i1, i2, i3, i4⟩, hR3, hO3⟩
  have hz3 := hO3.size
  have hF3 := Lib.hid (hF2.out.only hO3 hrl1 (Nat.le_refl _))
  have hb3 := Lib.hid (hO3.below hb2.out hrw hb2.out.size)
  replace hR3 := Lib.hid hR3
  clear i3 i4 hO3 hR2
  have q3 : 0 ≤ p2 + 1 := by omega
  go_wp2_with fail
  refine (rd_pick r _ (p2 + 1) 20 w3 hR3.out q3 (by omega) (by omega)).mono ?_
  rintro e w4 ⟨y, rfl, ⟨y1, y2, y3, y4⟩, hR4, hO4⟩
  have y5 : y < 20 := y3 (by omega)
  have hz4 := hO4.size
  have hF4 := Lib.hid (hF3.out.only hO4 hrl1 (by omega))
  have hb4 := Lib.hid (hO4.below hb3.out hrw hb3.out.size)
  clear y3 y4 hO4 hR3 hR4
  go_wp2_with fail
  go_ret3
  exact ⟨_, _, L, _, rfl, hL, hF4.out.mono (by omega) (by omega), hb4.out⟩
theorem draw_FamilyIn (v : Value) (a : Option Addr) (len cap : Nat) (w : World) (hv : v = .slice a len cap) (hc : len ≤ cap) (hcap : cap ≤ 9223372036854775807) (hB : Bytes w w.heap.size a len) :
    Calls Try.prog 16 #[v] w (GivenDraw w) := by
  have h0 := Lib.hid (draw_given v a len cap w hv hc hcap hB)
  clear hv hc hcap hB
  go_enter Try.func16, Try.ntmps16
  go_wp2_with fail
  refine (h0.out).mono ?_
  rintro e w1 ⟨n, u, xs, rfl, hl, hO, hb⟩
  obtain ⟨fa, fc, rfl, _⟩ := id hO
  replace hO := Lib.hid hO
  replace hb := Lib.hid hb
  go_wp2_with fail
  go_ret2
  exact ⟨_, _, xs, rfl, hl, hO.out, hb.out⟩
theorem draw_FamilyOther (v : Value) (a : Option Addr) (len cap : Nat) (w : World) (hv : v = .slice a len cap) (hc : len ≤ cap) (hcap : cap ≤ 9223372036854775807) (hB : Bytes w w.heap.size a len) :
    Calls Try.prog 37 #[v] w (GivenDraw w) := by
  have h0 := Lib.hid (draw_given v a len cap w hv hc hcap hB)
  clear hv hc hcap hB
  go_enter Try.func37, Try.ntmps37
  go_wp2_with fail
  refine (h0.out).mono ?_
  rintro e w1 ⟨n, u, xs, rfl, hl, hO, hb⟩
  obtain ⟨fa, fc, rfl, _⟩ := id hO
  replace hO := Lib.hid hO
  replace hb := Lib.hid hb
  go_wp2_with fail
  go_ret2
  exact ⟨_, _, xs, rfl, hl, hO.out, hb.out⟩
theorem draw_FamilyRest (v : Value) (a : Option Addr) (len cap : Nat) (w : World) (hv : v = .slice a len cap) (hc : len ≤ cap) (hcap : cap ≤ 9223372036854775807) (hB : Bytes w w.heap.size a len) :
    Calls Try.prog 41 #[v] w (GivenDraw w) := by
  have h0 := Lib.hid (draw_given v a len cap w hv hc hcap hB)
  clear hv hc hcap hB
  go_enter Try.func41, Try.ntmps41
  go_wp2_with fail
  refine (h0.out).mono ?_
  rintro e w1 ⟨n, u, xs, rfl, hl, hO, hb⟩
  obtain ⟨fa, fc, rfl, _⟩ := id hO
  replace hO := Lib.hid hO
  replace hb := Lib.hid hb
  go_wp2_with fail
  go_ret2
  exact ⟨_, _, xs, rfl, hl, hO.out, hb.out⟩
theorem draw_FamilyProfile (v : Value) (a : Option Addr) (len cap : Nat) (w : World) (hv : v = .slice a len cap) (hc : len ≤ cap) (hcap : cap ≤ 9223372036854775807) (hB : Bytes w w.heap.size a len) :
    Calls Try.prog 44 #[v] w (GivenDraw w) := by
  have h0 := Lib.hid (draw_given v a len cap w hv hc hcap hB)
  clear hv hc hcap hB
  go_enter Try.func44, Try.ntmps44
  go_wp2_with fail
  refine (h0.out).mono ?_
  rintro e w1 ⟨n, u, xs, rfl, hl, hO, hb⟩
  obtain ⟨fa, fc, rfl, _⟩ := id hO
  replace hO := Lib.hid hO
  replace hb := Lib.hid hb
  go_wp2_with fail
  go_ret2
  exact ⟨_, _, xs, rfl, hl, hO.out, hb.out⟩
theorem draw_FamilyUnion (v : Value) (a : Option Addr) (len cap : Nat) (w : World) (hv : v = .slice a len cap) (hc : len ≤ cap) (hcap : cap ≤ 9223372036854775807) (hB : Bytes w w.heap.size a len) :
    Calls Try.prog 28 #[v] w (TwoDraw w) := by
  have h0 := Lib.hid (draw_two v a len cap w hv hc hcap hB)
  clear hv hc hcap hB
  go_enter Try.func28, Try.ntmps28
  go_wp2_with fail
  refine (h0.out).mono ?_
  rintro e w1 ⟨n, u, xs, t, ys, rfl, hl, hl2, hO, hO2, hb⟩
  obtain ⟨fa, fc, rfl, _⟩ := id hO
  obtain ⟨ga, gc, rfl, _⟩ := id hO2
  replace hO := Lib.hid hO
  replace hO2 := Lib.hid hO2
  replace hb := Lib.hid hb
  go_wp2_with fail
  go_ret3
  exact ⟨_, _, xs, _, ys, rfl, hl, hl2, hO.out, hO2.out, hb.out⟩
theorem draw_FamilyCommon (v : Value) (a : Option Addr) (len cap : Nat) (w : World) (hv : v = .slice a len cap) (hc : len ≤ cap) (hcap : cap ≤ 9223372036854775807) (hB : Bytes w w.heap.size a len) :
    Calls Try.prog 32 #[v] w (TwoDraw w) := by
  have h0 := Lib.hid (draw_two v a len cap w hv hc hcap hB)
  clear hv hc hcap hB
  go_enter Try.func32, Try.ntmps32
  go_wp2_with fail
  refine (h0.out).mono ?_
  rintro e w1 ⟨n, u, xs, t, ys, rfl, hl, hl2, hO, hO2, hb⟩
  obtain ⟨fa, fc, rfl, _⟩ := id hO
  obtain ⟨ga, gc, rfl, _⟩ := id hO2
  replace hO := Lib.hid hO
  replace hO2 := Lib.hid hO2
  replace hb := Lib.hid hb
  go_wp2_with fail
  go_ret3
  exact ⟨_, _, xs, _, ys, rfl, hl, hl2, hO.out, hO2.out, hb.out⟩
theorem draw_FamilyLess (v : Value) (a : Option Addr) (len cap : Nat) (w : World) (hv : v = .slice a len cap) (hc : len ≤ cap) (hcap : cap ≤ 9223372036854775807) (hB : Bytes w w.heap.size a len) :
    Calls Try.prog 35 #[v] w (TwoDraw w) := by
  have h0 := Lib.hid (draw_two v a len cap w hv hc hcap hB)
  clear hv hc hcap hB
  go_enter Try.func35, Try.ntmps35
  go_wp2_with fail
  refine (h0.out).mono ?_
  rintro e w1 ⟨n, u, xs, t, ys, rfl, hl, hl2, hO, hO2, hb⟩
  obtain ⟨fa, fc, rfl, _⟩ := id hO
  obtain ⟨ga, gc, rfl, _⟩ := id hO2
  replace hO := Lib.hid hO
  replace hO2 := Lib.hid hO2
  replace hb := Lib.hid hb
  go_wp2_with fail
  go_ret3
  exact ⟨_, _, xs, _, ys, rfl, hl, hl2, hO.out, hO2.out, hb.out⟩
theorem draw_FamilyMeets (v : Value) (a : Option Addr) (len cap : Nat) (w : World) (hv : v = .slice a len cap) (hc : len ≤ cap) (hcap : cap ≤ 9223372036854775807) (hB : Bytes w w.heap.size a len) :
    Calls Try.prog 53 #[v] w (TwoDraw w) := by
  have h0 := Lib.hid (draw_two v a len cap w hv hc hcap hB)
  clear hv hc hcap hB
  go_enter Try.func53, Try.ntmps53
  go_wp2_with fail
  refine (h0.out).mono ?_
  rintro e w1 ⟨n, u, xs, t, ys, rfl, hl, hl2, hO, hO2, hb⟩
  obtain ⟨fa, fc, rfl, _⟩ := id hO
  obtain ⟨ga, gc, rfl, _⟩ := id hO2
  replace hO := Lib.hid hO
  replace hO2 := Lib.hid hO2
  replace hb := Lib.hid hb
  go_wp2_with fail
  go_ret3
  exact ⟨_, _, xs, _, ys, rfl, hl, hl2, hO.out, hO2.out, hb.out⟩
theorem draw_FamilyJoins (v : Value) (a : Option Addr) (len cap : Nat) (w : World) (hv : v = .slice a len cap) (hc : len ≤ cap) (hcap : cap ≤ 9223372036854775807) (hB : Bytes w w.heap.size a len) :
    Calls Try.prog 57 #[v] w (TwoDraw w) := by
  have h0 := Lib.hid (draw_two v a len cap w hv hc hcap hB)
  clear hv hc hcap hB
  go_enter Try.func57, Try.ntmps57
  go_wp2_with fail
  refine (h0.out).mono ?_
  rintro e w1 ⟨n, u, xs, t, ys, rfl, hl, hl2, hO, hO2, hb⟩
  obtain ⟨fa, fc, rfl, _⟩ := id hO
  obtain ⟨ga, gc, rfl, _⟩ := id hO2
  replace hO := Lib.hid hO
  replace hO2 := Lib.hid hO2
  replace hb := Lib.hid hb
  go_wp2_with fail
  go_ret3
  exact ⟨_, _, xs, _, ys, rfl, hl, hl2, hO.out, hO2.out, hb.out⟩
theorem draw_FamilyLink (v : Value) (a : Option Addr) (len cap : Nat) (w : World) (hv : v = .slice a len cap) (hc : len ≤ cap) (hcap : cap ≤ 9223372036854775807) (hB : Bytes w w.heap.size a len) :
    Calls Try.prog 46 #[v] w (WithDraw w) := by
  have h0 := Lib.hid (draw_with v a len cap w hv hc hcap hB)
  clear hv hc hcap hB
  go_enter Try.func46, Try.ntmps46
  go_wp2_with fail
  refine (h0.out).mono ?_
  rintro e w1 ⟨n, u, xs, p, rfl, hl, hO, hb⟩
  obtain ⟨fa, fc, rfl, _⟩ := id hO
  replace hO := Lib.hid hO
  replace hb := Lib.hid hb
  go_wp2_with fail
  go_ret3
  exact ⟨_, _, xs, _, rfl, hl, hO.out, hb.out⟩
theorem draw_FamilyWithout (v : Value) (a : Option Addr) (len cap : Nat) (w : World) (hv : v = .slice a len cap) (hc : len ≤ cap) (hcap : cap ≤ 9223372036854775807) (hB : Bytes w w.heap.size a len) :
    Calls Try.prog 51 #[v] w (WithDraw w) := by
  have h0 := Lib.hid (draw_with v a len cap w hv hc hcap hB)
  clear hv hc hcap hB
  go_enter Try.func51, Try.ntmps51
  go_wp2_with fail
  refine (h0.out).mono ?_
  rintro e w1 ⟨n, u, xs, p, rfl, hl, hO, hb⟩
  obtain ⟨fa, fc, rfl, _⟩ := id hO
  replace hO := Lib.hid hO
  replace hb := Lib.hid hb
  go_wp2_with fail
  go_ret3
  exact ⟨_, _, xs, _, rfl, hl, hO.out, hb.out⟩
end Go.Proofs.Ytapijjfhdhkakaa
