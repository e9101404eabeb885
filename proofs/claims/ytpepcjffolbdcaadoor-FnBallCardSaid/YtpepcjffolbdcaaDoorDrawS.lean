/- The laws' reader: drawn sets. -/
import Derived.Test.YtpepcjffolbdcaaDoorAllSL
import Derived.Lib.MinMax
import Derived.RegionTactic
namespace Go.Proofs.YtpepcjffolbdcaaDoor
open Go.ChangeShapes Go.WideShapes Go.ChangeAt Go.RowKit Go.Proofs

theorem cap_at (n : Int) (h0 : 0 ≤ n) (h9 : n ≤ 9) (w : World) : Calls Tryd.prog 94 #[.int .i64 n] w fun e w' => ∃ c, e = .returned (.int .i64 c) ∧ (1 ≤ c ∧ c ≤ 256) ∧ w = w' := by
  rcases (by omega : n = 0 ∨ n = 1 ∨ n = 2 ∨ n = 3 ∨ n = 4 ∨ n = 5 ∨ n = 6 ∨ n = 7 ∨ n = 8 ∨ n = 9) with rfl | rfl | rfl | rfl | rfl | rfl | rfl | rfl | rfl | rfl
  all_goals
    go_enter Tryd.func94, Tryd.ntmps94
    go_wp2
    go_ret
    exact ⟨_, rfl, ⟨by decide +kernel, by decide +kernel⟩, rfl⟩
/-- what a draw of a number leaves. -/
def NumDraw (r S : Nat) (p : Int) (w : World) (e : Ending) (w' : World) : Prop := ∃ s p', e = .returned (.int .i64 s) ∧ -1 ≤ s ∧ s ≤ 1000000 ∧ Rdr w' r S p' ∧ 0 ≤ p' ∧ p' ≤ p + 100 ∧ Only r w w'
set_option maxHeartbeats 1000000 in
theorem draw_set (r S : Nat) (p n : Int) (w : World) (h : Rdr w r S p) (p0 : 0 ≤ p) (p1 : p ≤ 900000) (h0 : 0 ≤ n) (h9 : n ≤ 9) : Calls Tryd.prog 54 #[.pointer (some ⟨r, 0, none⟩), .int .i64 n] w (NumDraw r S p w) := by
  have h1 := Lib.hid (rd_pick r S p 24 w h p0 (by omega) (by omega))
  have hcap := Lib.hid (cap_at n h0 h9)
  clear h
  go_enter Tryd.func54, Tryd.ntmps54
  go_wp2_with fail
  refine (h1.out).mono ?_
  rintro e w1 ⟨x, rfl, hx, hR1, hO1⟩
  replace hR1 := Lib.hid hR1
  replace hO1 := Lib.hid hO1
  clear hx
  rcases (by by_cases e : x = 0 <;> simp [e] : (x == 0) = true ∨ (x == 0) = false) with hz | hz
  · go_wp2_with fail
    refine (hcap.out _).mono ?_
    rintro e w' ⟨c, rfl, ⟨c1, c2⟩, rfl⟩
    have hR2 := Lib.hid (rd_pick r S (p + 1) 2 _ (hR1.out.alloc (.cells #[.int .i64 (-1), .int .i64 c] 3)) (by omega) (by omega) (by omega))
    have hlt := hR1.out.lt
    go_wp2_with fail
    refine (hR2.out).mono ?_
    rintro e w2 ⟨y, rfl, ⟨y1, y2, y3, y4⟩, hR3, hO3⟩
    have y5 : y < 2 := y3 (by omega)
    have hc : ∀ j, (w1.alloc (.cells #[.int .i64 (-1), .int .i64 c] 3)).cell? ⟨w1.heap.size, j, none⟩ = (#[Value.int .i64 (-1), .int .i64 c] : Array Value)[j]? := fun j => by
      rw [World.cell?_alloc_at _ _ _ _ rfl]
    have hc0 := hO3.cell (hc 0) (by simp; omega)
    have hc1 := hO3.cell (hc 1) (by simp; omega)
    replace hR3 := Lib.hid hR3
    replace hO3 := Lib.hid (hO1.out.trans ((Only.refl r w1).alloc _ |>.trans hO3))
    clear y3 y4 hc hR2
    rcases (by omega : y = 0 ∨ y = 1) with rfl | rfl
    · go_wp2_with fail
      go_ret
      exact ⟨_, _, rfl, by omega, by omega, hR3.out, by omega, by omega, hO3.out⟩
    · go_wp2_with fail
      go_ret
      exact ⟨_, _, rfl, by omega, by omega, hR3.out, by omega, by omega, hO3.out⟩
  · go_wp2_with fail
    refine (hcap.out _).mono ?_
    rintro e w' ⟨c, rfl, ⟨c1, c2⟩, rfl⟩
    have hR2 := Lib.hid (rd_pick r S (p + 1) c _ hR1.out (by omega) (by omega) (by omega))
    go_wp2_with fail
    refine (hR2.out).mono ?_
    rintro e w2 ⟨y, rfl, ⟨y1, y2, y3, y4⟩, hR3, hO3⟩
    replace hR3 := Lib.hid hR3
    replace hO3 := Lib.hid (hO1.out.trans hO3)
    clear y3 y4 hR2
    go_wp2_with fail
    go_ret
    exact ⟨_, _, rfl, by omega, by omega, hR3.out, by omega, by omega, hO3.out⟩
/-- what a draw of a number and a set gives. -/
def OneDraw (w : World) (e : Ending) (w' : World) : Prop := ∃ n s, e = .returned (.tuple #[.int .i64 n, .int .i64 s]) ∧ Below w.heap.size w w'
end Go.Proofs.YtpepcjffolbdcaaDoor
