/- The laws' reader: families drawn alone, in twos, with a point. -/
import Derived.Test.YtaljnnjlhmlcoaaDraw4
namespace Go.Proofs.Ytaljnnjlhmlcoaa
open Go.ChangeShapes Go.WideShapes Go.ChangeAt Go.RowKit Go.Proofs

/-- what a draw of a number and a family gives. -/
def GivenDraw (w : World) (e : Ending) (w' : World) : Prop := ∃ n u xs, e = .returned (.tuple #[.int .i64 n, u]) ∧ xs.length ≤ 300 ∧ Own w' w.heap.size w'.heap.size u xs ∧ Below w.heap.size w w'
/-- what a draw of a number and two families gives. -/
def TwoDraw (w : World) (e : Ending) (w' : World) : Prop := ∃ n u xs v ys, e = .returned (.tuple #[.int .i64 n, u, v]) ∧ xs.length ≤ 300 ∧ ys.length ≤ 300 ∧ Own w' w.heap.size w'.heap.size u xs ∧ Own w' w.heap.size w'.heap.size v ys ∧ Below w.heap.size w w'
/-- what a draw of a number, a family and a point gives. -/
def WithDraw (w : World) (e : Ending) (w' : World) : Prop := ∃ n u xs p, e = .returned (.tuple #[.int .i64 n, u, .int .i64 p]) ∧ xs.length ≤ 300 ∧ Own w' w.heap.size w'.heap.size u xs ∧ Below w.heap.size w w'
set_option maxRecDepth 100000 in
set_option maxHeartbeats 1000000 in
theorem draw_two (v : Value) (a : Option Addr) (len cap : Nat) (w : World) (hv : v = .slice a len cap) (hc : len ≤ cap) (hcap : cap ≤ 9223372036854775807) (hB : Bytes w w.heap.size a len) :
    Calls Try.prog 43 #[v] w (TwoDraw w) := by
  have h0 := Lib.hid (rd_open v a len cap w hv hc hcap hB)
  clear hv hc hcap hB
  go_enter Try.func43, Try.ntmps43
  go_wp2_with fail
  refine (h0.out).mono ?_
  rintro e w0 ⟨r, rfl, hr, hR0, hb0, hz0⟩
  have hrw : w.heap.size ≤ r := by omega
  replace hr := Lib.hid hr
  replace hR0 := Lib.hid hR0
  replace hb0 := Lib.hid hb0
  go_wp2_with fail
  refine (rd_points r _ 0 w0 hR0.out (by omega) (by omega)).mono ?_
  rintro e w1 ⟨n, rfl, hn, hR1, hO1⟩
  have hn1 : 0 ≤ n ∧ n ≤ 9 := by unfold drawnPts at hn; omega
  obtain ⟨hn1, hn2⟩ := hn1
  have hb1 := Lib.hid (hO1.below hb0.out hrw hb0.out.size)
  have hrl1 := hR1.lt
  replace hR1 := Lib.hid hR1
  clear hn hO1 hR0
  go_wp2_with fail
  refine (draw_family r _ (0 + 2) n w1 hR1.out (by omega) (by omega) hn1 hn2).mono ?_
  rintro e w2 ⟨v2, L, p2, rfl, hL, hF2, hR2, q1, q2, hO2⟩
  obtain ⟨fa, fc, rfl, _⟩ := id hF2
  have hz01 := hb1.out.size
  have hz2 := hO2.size
  have hb2 := Lib.hid (hO2.below hb1.out hrw hb1.out.size)
  replace hF2 := Lib.hid hF2
  replace hR2 := Lib.hid hR2
  clear hO2 hR1
  go_wp2_with fail
  refine (draw_family r _ p2 n w2 hR2.out q1 (by omega) hn1 hn2).mono ?_
  rintro e w3 ⟨v3, M, p3, rfl, hM, hF3, hR3, q3, q4, hO3⟩
  obtain ⟨ga, gc, rfl, _⟩ := id hF3
  have hz3 := hO3.size
  have hF23 := Lib.hid (hF2.out.only hO3 hrl1 (Nat.le_refl _))
  have hb3 := Lib.hid (hO3.below hb2.out hrw hb2.out.size)
  replace hF3 := Lib.hid hF3
  clear hO3 hR3 hR2
  go_wp2_with fail
  go_ret3
  exact ⟨_, _, L, _, M, rfl, hL, hM, hF23.out.mono (by omega) (by omega), hF3.out.mono (by omega) (Nat.le_refl _), hb3.out⟩
end Go.Proofs.Ytaljnnjlhmlcoaa
