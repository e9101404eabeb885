/- All sets in an order; the first ones of them: the program. -/
import Derived.Test.YtgfmfecalhmplaaDoorBo5
import Derived.Test.YtgfmfecalhmplaaDoorSh1
import Derived.Test.YtgfmfecalhmplaaDoorFLaws
namespace Go.Proofs.YtgfmfecalhmplaaDoor
open Go.ChangeShapes Go.WideShapes Go.ChangeAt Go.RowKit Go.Proofs

theorem fld0b (x y : Value) (w : World) : (Instr.field 46 (.agg #[x, y]) 0).run Tryd.prog w = .ok x w := by kernel_rfl
/-- the ball order of n points, as an interface value. -/
abbrev balO (n : Int) : Value := .iface 48 (.int .i64 n)
/-- the binary order of n points. -/
abbrev binO (n : Int) : Value := .iface 60 (.int .i64 n)
theorem pts_bal (n : Int) (w : World) : Calls Tryd.prog 142 #[.int .i64 n] w fun e w' => e = .returned (.int .i64 n) ∧ w = w' := by
  go_enter Tryd.func142, Tryd.ntmps142
  go_wp2
  go_ret
  exact ⟨rfl, rfl⟩
theorem pts_bin (n : Int) (w : World) : Calls Tryd.prog 143 #[.int .i64 n] w fun e w' => e = .returned (.int .i64 n) ∧ w = w' := by
  go_enter Tryd.func143, Tryd.ntmps143
  go_wp2
  go_ret
  exact ⟨rfl, rfl⟩
theorem mth_bal (n : Int) (w : World) : (method 245 48 (.int .i64 n) "loop.example/setshadows/impl.points").run Tryd.prog w = .ok (142, .int .i64 n) w := by kernel_rfl
theorem mth_bin (n : Int) (w : World) : (method 245 60 (.int .i64 n) "loop.example/setshadows/impl.points").run Tryd.prog w = .ok (143, .int .i64 n) w := by kernel_rfl
theorem asr_bal (n : Int) (w : World) : (Instr.typeAssert (balO n) 66 48 true).run Tryd.prog w = .ok (.tuple #[.int .i64 n, .bool true]) w := by kernel_rfl
theorem asr_bin (n : Int) (w : World) : (Instr.typeAssert (binO n) 66 48 true).run Tryd.prog w = .ok (.tuple #[.int .i64 0, .bool false]) w := by kernel_rfl
set_option maxRecDepth 100000 in
theorem cmp_bal (n : Int) (w : World) : Calls Tryd.prog 52 #[balO n] w fun e w' => e = .returned (Value.func (.func 70) #[] #[]) ∧ w = w' := by
  have ha := asr_bal n
  go_enter Tryd.func52, Tryd.ntmps52
  go_wp2
  go_ret
  exact ⟨rfl, rfl⟩
set_option maxRecDepth 100000 in
theorem cmp_bin (n : Int) (w : World) : Calls Tryd.prog 52 #[binO n] w fun e w' => e = .returned (Value.func (.func 71) #[] #[]) ∧ w = w' := by
  have ha := asr_bin n
  go_enter Tryd.func52, Tryd.ntmps52
  go_wp2
  go_ret
  exact ⟨rfl, rfl⟩
set_option maxRecDepth 100000 in
set_option maxHeartbeats 4000000 in
theorem numbers_ball (lv : Value) (xs : List Int) (S : Nat) (w : World) (hx : SRow w S lv xs) (hS : S ≤ w.heap.size) (hl : xs.length ≤ 100000) (hz : ∀ z ∈ xs, 0 ≤ z ∧ z < 256) :
    Calls Tryd.prog 33 #[.agg #[lv, (Value.func (.func 70) #[] #[])]] w fun e w' => ∃ u, e = .returned u ∧ Own w' w.heap.size w'.heap.size u xs ∧ Below w.heap.size w w' := by
  obtain ⟨a, cap, rfl, ha⟩ := hx
  replace ha := Lib.hid ha
  replace hz := Lib.hid hz
  have hmk := fun W => run_make_row' (P := Tryd.prog) 24 3 (.int .i64 0) 8 Tryd.underlying24 Tryd.intInfo rfl .i64 .i64 xs.length (by omega) (by omega) W
  go_enter Tryd.func33, Tryd.ntmps33
  go_wp2
  go_loopw [13] (fun i wr => ∃ k : Nat, k ≤ xs.length ∧ i = .int .i64 k ∧ Hid (Below w.heap.size w wr) ∧ Hid (wr.rowIs (w.heap.size + 1) 3 xs.length (filled xs k))) (fun i _ => xs.length - (intOf i).toNat)
  case atStart =>
    refine ⟨0, Nat.zero_le _, rfl, Lib.hid (((Below.refl _ _).alloc (Nat.le_refl _) _).alloc (by simp) _), Lib.hid ?_⟩
    have := (World.rowIs_made (w.alloc (.cells #[.slice a xs.length cap, (Value.func (.func 70) #[] #[])] 46)) (.int .i64 0) xs.length 3).congr (g := filled xs 0) (fun i _ => by simp [filled])
    simpa using this
  case round =>
    obtain ⟨k, hk, rfl, hbel, hrow⟩ := hrel
    have hz2 := hbel.out.size
    have hrl := hrow.out.lt
    by_cases hlt : k < xs.length
    · obtain ⟨b1, o1, rfl, s1, c1⟩ := ha.out (by omega)
      have k1 : (0 : Int) ≤ (k : Int) := by omega
      have k2 : (k : Int) < (xs.length : Nat) := by omega
      have e1 : wr.cell? ⟨b1, o1 + k, none⟩ = some (.int .u64 (xs.getD k 0)) := (hbel.out.cell (p := ⟨b1, o1 + k, none⟩) (show b1 < w.heap.size by omega)).trans (c1 k hlt)
      have e2 := hrow.out.cell hlt
      have e3 := hrow.out.frozen k
      obtain ⟨x, hx⟩ : ∃ x, xs.getD k 0 = x := ⟨_, rfl⟩
      have hzx := hz.out x (by rw [← hx]; exact getD_mem hlt)
      obtain ⟨z1, z2⟩ := hzx
      rw [hx] at e1
      have hrow' := Lib.hid ((hrow.out.set k (.int .i64 x)).congr (g := filled xs (k + 1)) (fun j hj => by
        unfold filled
        by_cases e : j = k
        · subst e; simp [← hx]
        · rw [if_neg e]; congr 1
          by_cases h2 : j < k
          · rw [if_pos h2, if_pos (by omega)]
          · rw [if_neg h2, if_neg (by omega)]))
      have hbel' := Lib.hid (below_setCell hbel.out (p := ⟨w.heap.size + 1, k, none⟩) (by simp) (.int .i64 x))
      clear hx c1 hrow hbel
      go_wp2
      go_roundw
      case rel => exact ⟨k + 1, by omega, by go_num, hbel', hrow'⟩
      case measure => simp [intOf]; omega
    · obtain rfl : k = xs.length := by omega
      have hO := Lib.hid (show Own wr w.heap.size wr.heap.size (.slice (some ⟨w.heap.size + 1, 0, none⟩) xs.length xs.length) xs from
        ⟨_, _, rfl, fun hp => ⟨w.heap.size + 1, 0, rfl, by omega, hrl, fun i hi => by
          have := hrow.out.cell hi
          rw [Nat.zero_add, this]; simp [filled, hi], fun i hi => by rw [Nat.zero_add]; exact hrow.out.frozen i⟩⟩)
      clear hrow
      go_wp2
      go_ret
      exact ⟨_, rfl, hO.out, hbel.out⟩
set_option maxRecDepth 100000 in
set_option maxHeartbeats 4000000 in
theorem fam_fin_k {w W1 : World} {h : Nat} {v : Value} {ys : List Int} (hS : SetL W1 (h + 1) v ys) (hb : Below w.heap.size w W1) (hh : w.heap.size ≤ h) :
    SetL ((W1.setCell ⟨h, 0, none⟩ v).setCell ⟨h, 1, none⟩ (Value.func (.func 70) #[] #[])) w.heap.size v ys ∧ Below w.heap.size w ((W1.setCell ⟨h, 0, none⟩ v).setCell ⟨h, 1, none⟩ (Value.func (.func 70) #[] #[])) :=
  ⟨((hS.store _ _ (by intro e; have := hS.lt _ e; dsimp only at this; omega)).store _ _ (by intro e; have := hS.lt _ e; dsimp only at this; omega)).mono (by omega),
    below_setCell (below_setCell hb hh _) hh _⟩
end Go.Proofs.YtgfmfecalhmplaaDoor
