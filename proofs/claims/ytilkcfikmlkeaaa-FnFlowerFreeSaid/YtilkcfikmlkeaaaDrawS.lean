/- The laws' reader: drawn sets. -/
import Derived.Test.YtilkcfikmlkeaaaAllSL
import Derived.Lib.MinMax
import Derived.RegionTactic
namespace Go.Proofs.Ytilkcfikmlkeaaa
open Go.ChangeShapes Go.WideShapes Go.ChangeAt Go.RowKit Go.Proofs

theorem cap_at (n : Int) (h0 : 0 ≤ n) (h9 : n ≤ 9) (w : World) : Calls Try.prog 39 #[.int .i64 n] w fun e w' => ∃ c, e = .returned (.int .i64 c) ∧ (1 ≤ c ∧ c ≤ 256) ∧ w = w' := by
  rcases (by omega : n = 0 ∨ n = 1 ∨ n = 2 ∨ n = 3 ∨ n = 4 ∨ n = 5 ∨ n = 6 ∨ n = 7 ∨ n = 8 ∨ n = 9) with rfl | rfl | rfl | rfl | rfl | rfl | rfl | rfl | rfl | rfl
  all_goals
    go_enter Try.func39, Try.ntmps39
    go_wp2
    go_ret
    exact ⟨_, rfl, ⟨by decide +kernel, by decide +kernel⟩, rfl⟩
/-- what a draw of a number leaves. -/
def NumDraw (r S : Nat) (p : Int) (w : World) (e : Ending) (w' : World) : Prop := ∃ s p', e = .returned (.int .i64 s) ∧ -1 ≤ s ∧ s ≤ 1000000 ∧ Rdr w' r S p' ∧ 0 ≤ p' ∧ p' ≤ p + 100 ∧ Only r w w'
/-- what a draw of a number and a set gives. -/
def OneDraw (w : World) (e : Ending) (w' : World) : Prop := ∃ n s, e = .returned (.tuple #[.int .i64 n, .int .i64 s]) ∧ Below w.heap.size w w'
end Go.Proofs.Ytilkcfikmlkeaaa
