/- A list that closing leaves as it is. -/
import Derived.Test.YthljimmhgpbmbaaFams13
namespace Go.Proofs.Ythljimmhgpbmbaa
open Go.ChangeShapes Go.WideShapes Go.ChangeAt Go.RowKit Go.Proofs

/-- the function value g makes ys of the list xs for n points, and says ok. -/
def ClosV (g : Nat) (n : Int) (xs ys : List Int) (ok : Bool) : Prop := ∀ (W : World) (u : Value) (S : Nat), Row W S u xs → S ≤ W.heap.size → Calls Try.prog g #[.int .i64 n, u] W (ListPost ys ok W)
set_option maxHeartbeats 2000000 in
theorem unchanged_at (g : Nat) (eg : EntersG g) (n : Int) (lv : Value) (xs ys : List Int) (ok : Bool) (S : Nat) (w : World) (hx : Row w S lv xs) (hS : S ≤ w.heap.size) (hl : xs.length ≤ 100000000) (hl2 : ys.length ≤ 100000000) (hc : ClosV g n xs ys ok) :
    Calls Try.prog 52 #[.int .i64 n, lv, .func (.func g) #[] #[]] w fun e w' => e = .returned (.bool (ok && sameB ys xs)) ∧ Below w.heap.size w w' := by
  have eg1 : ∀ args w, (callFunc g args).run Try.prog w = .ok (.enter g args) w := eg
  have hm := Lib.hid (hc w lv S hx hS)
  have hx' := Lib.hid hx
  obtain ⟨la, lc, rfl, _⟩ := id hx
  clear hx
  cases ok
  · go_enter Try.func52, Try.ntmps52
    go_wp2_with fail
    refine hm.out.mono ?_
    rintro e w1 ⟨v, rfl, hO, hb⟩
    obtain ⟨ua, uc, rfl, _⟩ := id hO
    replace hb := Lib.hid hb
    clear hm hO
    go_wp2_with fail
    go_ret
    exact ⟨rfl, hb.out⟩
  · go_enter Try.func52, Try.ntmps52
    go_wp2_with fail
    refine hm.out.mono ?_
    rintro e w1 ⟨v, rfl, hO, hb⟩
    obtain ⟨ua, uc, rfl, _⟩ := id hO
    have hsz := hb.size
    have heq := Lib.hid (equal_ints _ _ ys xs w1.heap.size w1 hO.row ((hx'.out.below hb hS).mono (by omega)) (by omega) (by omega))
    have hr := Lib.hid (show (true && sameB ys xs) = sameB ys xs from Bool.true_and _)
    replace hb := Lib.hid hb
    clear hm hO
    go_wp2_with fail
    refine heq.out.mono ?_
    rintro e w2 ⟨rfl, q, rfl⟩
    go_wp2_with fail
    go_ret
    exact ⟨by rw [hr.out]; rfl, below_drewN hb.out q⟩
theorem ifL_same (b : Bool) (ys xs : List Int) : (b && sameB (ifL b ys) xs) = (b && sameB ys xs) := by cases b <;> rfl
theorem ifL_small {b : Bool} {ys : List Int} (h : b = true → ys.length ≤ 100000000) : (ifL b ys).length ≤ 100000000 := by
  unfold ifL
  cases b
  · simp
  · exact h rfl
end Go.Proofs.Ythljimmhgpbmbaa
