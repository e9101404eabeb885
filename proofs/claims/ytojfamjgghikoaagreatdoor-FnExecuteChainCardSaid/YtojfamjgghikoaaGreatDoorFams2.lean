/- Families as lists of numbers: written out, compared, read. -/
import Derived.Test.YtojfamjgghikoaaGreatDoorFams
namespace Go.Proofs.YtojfamjgghikoaaGreatDoor
open Go.ChangeShapes Go.WideShapes Go.ChangeAt Go.RowKit Go.Proofs

set_option maxHeartbeats 1000000 in
theorem numbers_at (lv : Value) (xs : List Int) (S : Nat) (w : World) (hx : SRow w S lv xs) (hS : S ≤ w.heap.size) (hl : xs.length ≤ 100000) (hz : ∀ z ∈ xs, 0 ≤ z ∧ z < 256) :
    Calls Tryz.prog 37 #[.agg #[lv, (Value.func (.func 188) #[] #[])]] w fun e w' => ∃ u, e = .returned u ∧ Own w' w.heap.size w'.heap.size u xs ∧ Below w.heap.size w w' := by
  obtain ⟨a, cap, rfl, ha⟩ := hx
  replace ha := Lib.hid ha
  replace hz := Lib.hid hz
  have hmk := fun W => run_make_row' (P := Tryz.prog) 28 3 (.int .i64 0) 8 Tryz.underlying28 Tryz.intInfo rfl .i64 .i64 xs.length (by omega) (by omega) W
  go_enter Tryz.func37, Tryz.ntmps37
  go_wp2
  go_loopw [13] (fun i wr => ∃ k : Nat, k ≤ xs.length ∧ i = .int .i64 k ∧ Hid (Below w.heap.size w wr) ∧ Hid (wr.rowIs (w.heap.size + 1) 3 xs.length (filled xs k))) (fun i _ => xs.length - (intOf i).toNat)
  case atStart =>
    refine ⟨0, Nat.zero_le _, rfl, Lib.hid (((Below.refl _ _).alloc (Nat.le_refl _) _).alloc (by simp) _), Lib.hid ?_⟩
    have := (World.rowIs_made (w.alloc (.cells #[.slice a xs.length cap, (Value.func (.func 188) #[] #[])] 64)) (.int .i64 0) xs.length 3).congr (g := filled xs 0) (fun i _ => by simp [filled])
    simpa using this
  case round =>
    obtain ⟨k, hk, rfl, hbel, hrow⟩ := hrel
    have hz2 := hbel.out.size
    have hrl := hrow.out.lt
    by_cases hlt : k < xs.length
    · obtain ⟨b1, o1, rfl, s1, c1⟩ := ha.out (by omega)
      have k1 : (0 : Int) ≤ (k : Int) := by omega
      have k2 : (k : Int) < (xs.length : Nat) := by omega
      have e1 : wr.cell? ⟨b1, o1 + k, none⟩ = some (.int .u64 (xs.getD k 0)) := (hbel.out.cell (p := ⟨b1, o1 + k, none⟩) (show b1 < w.heap.size by omega)).trans (c1 k hlt)
      have e2 := hrow.out.cell hlt
      have e3 := hrow.out.frozen k
      obtain ⟨x, hx⟩ : ∃ x, xs.getD k 0 = x := ⟨_, rfl⟩
      have hzx := hz.out x (by rw [← hx]; exact getD_mem hlt)
      obtain ⟨z1, z2⟩ := hzx
      rw [hx] at e1
      have hrow' := Lib.hid ((hrow.out.set k (.int .i64 x)).congr (g := filled xs (k + 1)) (fun j hj => by
        unfold filled
        by_cases e : j = k
        · subst e; simp [← hx]
        · rw [if_neg e]; congr 1
          by_cases h2 : j < k
          · rw [if_pos h2, if_pos (by omega)]
          · rw [if_neg h2, if_neg (by omega)]))
      have hbel' := Lib.hid (below_setCell hbel.out (p := ⟨w.heap.size + 1, k, none⟩) (by simp) (.int .i64 x))
      clear hx c1 hrow hbel
      go_wp2
      go_roundw
      case rel => exact ⟨k + 1, by omega, by go_num, hbel', hrow'⟩
      case measure => simp [intOf]; omega
    · obtain rfl : k = xs.length := by omega
      have hO := Lib.hid (show Own wr w.heap.size wr.heap.size (.slice (some ⟨w.heap.size + 1, 0, none⟩) xs.length xs.length) xs from
        ⟨_, _, rfl, fun hp => ⟨w.heap.size + 1, 0, rfl, by omega, hrl, fun i hi => by
          have := hrow.out.cell hi
          rw [Nat.zero_add, this]; simp [filled, hi], fun i hi => by rw [Nat.zero_add]; exact hrow.out.frozen i⟩⟩)
      clear hrow
      go_wp2
      go_ret
      exact ⟨_, rfl, hO.out, hbel.out⟩
theorem numbers_none (w : World) :
    Calls Tryz.prog 37 #[.agg #[.slice none 0 0, .nilFunc]] w fun e w' => ∃ u, e = .returned u ∧ Own w' w.heap.size w'.heap.size u [] ∧ Below w.heap.size w w' := by
  have hmk : ∀ W : World, (Instr.makeSlice 28 (.int .i64 0) (.int .i64 0)).run Tryz.prog W = .ok (.slice (some ⟨W.heap.size, 0, none⟩) 0 0) (W.alloc (.cells #[] 3)) := fun _ => by kernel_rfl
  go_enter Tryz.func37, Tryz.ntmps37
  go_wp2
  go_loopw [13] (fun i wr => i = .int .i64 0 ∧ Hid (Below w.heap.size w wr)) (fun _ _ => 0)
  case atStart => exact ⟨rfl, Lib.hid (((Below.refl _ _).alloc (Nat.le_refl _) _).alloc (by simp) _)⟩
  case round =>
    obtain ⟨rfl, hbel⟩ := hrel
    go_wp2
    go_ret
    exact ⟨_, rfl, ⟨_, _, rfl, fun h => by simp at h⟩, hbel.out⟩

theorem equal_ints (v u : Value) (xs ys : List Int) (S : Nat) (w : World) (hx : Row w S v xs) (hy : Row w S u ys) (hl : xs.length ≤ 1073741824) (hm : ys.length ≤ 1073741824) :
    Calls Tryz.prog 266 #[v, u] w fun e w' => e = .returned (.bool (sameB xs ys)) ∧ ∃ n, w' = w.drewN n := by
  obtain ⟨a, cap, rfl, ha⟩ := hx
  obtain ⟨c, cap2, rfl, hc⟩ := hy
  by_cases hne : xs.length = ys.length
  · have hb : (((xs.length : Nat) : Int) != ((ys.length : Nat) : Int)) = false := by simp [hne]
    have hne' := Lib.hid hne
    replace ha := Lib.hid ha
    replace hc := Lib.hid hc
    clear hne
    go_enter Tryz.func266, Tryz.ntmps266
    go_wp2
    go_loopw [13] (fun i wr => ∃ k : Nat, k ≤ xs.length ∧ i = .int .i64 k ∧ Hid (∃ n, wr = w.drewN n) ∧ Hid (∀ j, j < k → xs.getD j 0 = ys.getD j 0)) (fun i _ => xs.length - (intOf i).toNat)
    case atStart => exact ⟨0, Nat.zero_le _, rfl, Lib.hid ⟨0, rfl⟩, Lib.hid (fun j hj => by omega)⟩
    case round =>
      obtain ⟨k, hk, rfl, hw, hsame⟩ := hrel
      obtain ⟨n, rfl⟩ := hw.out
      clear hw
      by_cases hlt : k < xs.length
      · obtain ⟨b1, o1, rfl, s1, c1⟩ := ha.out (by omega)
        have hlt2 : k < ys.length := by have := hne'.out; omega
        obtain ⟨b2, o2, rfl, s2, c2⟩ := hc.out (by omega)
        have k1 : (0 : Int) ≤ (k : Int) := by omega
        have k2 : (k : Int) < (xs.length : Nat) := by omega
        have k3 : (k : Int) < (ys.length : Nat) := by omega
        have e1 := c1 k hlt
        have e2 := c2 k hlt2
        obtain ⟨x, hx⟩ : ∃ x, xs.getD k 0 = x := ⟨_, rfl⟩
        obtain ⟨y, hy⟩ : ∃ y, ys.getD k 0 = y := ⟨_, rfl⟩
        rw [hx] at e1
        rw [hy] at e2
        by_cases hxy : x = y
        · have hsame' := Lib.hid (show ∀ j, j < k + 1 → xs.getD j 0 = ys.getD j 0 from fun j hj => by
            by_cases e : j = k
            · subst e; rw [hx, hy]; exact hxy
            · exact hsame.out j (by omega))
          have hd : (x != y) = false := by simp [hxy]
          clear hsame hxy hx hy c1 c2
          go_wp2
          go_quiet (fail)
          go_wp2
          go_roundw
          case rel => exact ⟨k + 1, by omega, by go_num, Lib.hid ⟨_, by first | rfl | exact drewN_add _ _ _⟩, hsame'⟩
          case measure => simp [intOf]; omega
        · have hf := Lib.hid (show false = sameB xs ys from (decide_eq_false (fun e => hxy (by rw [← hx, ← hy, e]))).symm)
          have hd : (x != y) = true := by simp [hxy]
          clear hsame hxy hx hy c1 c2
          go_wp2
          go_quiet (fail)
          go_wp2
          go_ret
          exact ⟨ret_bool hf.out, _, by first | rfl | exact drewN_add _ _ _⟩
      · have hf := Lib.hid (show true = sameB xs ys from (same_step hne'.out (fun j hj => hsame.out j (by omega))).symm)
        go_wp2
        go_ret
        exact ⟨ret_bool hf.out, _, rfl⟩
  · have hb : (((xs.length : Nat) : Int) != ((ys.length : Nat) : Int)) = true := by simp; omega
    have hf := Lib.hid (show false = sameB xs ys from (decide_eq_false (fun e => hne (by rw [e]))).symm)
    clear ha hc hne
    go_enter Tryz.func266, Tryz.ntmps266
    go_wp2
    go_ret
    exact ⟨ret_bool hf.out, 0, rfl⟩
end Go.Proofs.YtojfamjgghikoaaGreatDoor
