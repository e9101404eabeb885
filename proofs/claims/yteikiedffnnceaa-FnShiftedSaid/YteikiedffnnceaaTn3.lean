/- Lists of turns; whether a turn changes a family. -/
import Derived.Test.YteikiedffnnceaaTn2
import Derived.Deep.LoopGhost
import Derived.BigQuiet
namespace Go.Proofs.Yteikiedffnnceaa
open Go.ChangeShapes Go.WideShapes Go.ChangeAt Go.RowKit Go.Proofs

set_option maxHeartbeats 1000000 in
theorem equal_sets (v u : Value) (xs ys : List Int) (S : Nat) (w : World) (hx : SRow w S v xs) (hy : SRow w S u ys) (hl : xs.length ≤ 1073741824) (hm : ys.length ≤ 1073741824) :
    Calls Try.prog 43 #[v, u] w fun e w' => e = .returned (.bool (sameB xs ys)) ∧ Below w.heap.size w w' := by
  obtain ⟨a, cap, rfl, ha⟩ := hx
  obtain ⟨c, cap2, rfl, hc⟩ := hy
  by_cases hne : xs.length = ys.length
  · have hb : (((xs.length : Nat) : Int) != ((ys.length : Nat) : Int)) = false := by simp [hne]
    have hne' := Lib.hid hne
    replace ha := Lib.hid ha
    replace hc := Lib.hid hc
    clear hne
    go_enter Try.func43, Try.ntmps43
    go_wp2
    go_loopw [13] (fun i wr => ∃ k : Nat, k ≤ xs.length ∧ i = .int .i64 k ∧ Hid (∃ n, wr = w.drewN n) ∧ Hid (∀ j, j < k → xs.getD j 0 = ys.getD j 0)) (fun i _ => xs.length - (intOf i).toNat)
    case atStart => exact ⟨0, Nat.zero_le _, rfl, Lib.hid ⟨0, rfl⟩, Lib.hid (fun j hj => by omega)⟩
    case round =>
      obtain ⟨k, hk, rfl, hw, hsame⟩ := hrel
      obtain ⟨n, rfl⟩ := hw.out
      clear hw
      by_cases hlt : k < xs.length
      · obtain ⟨b1, o1, rfl, s1, c1⟩ := ha.out (by omega)
        have hlt2 : k < ys.length := by have := hne'.out; omega
        obtain ⟨b2, o2, rfl, s2, c2⟩ := hc.out (by omega)
        have k1 : (0 : Int) ≤ (k : Int) := by omega
        have k2 : (k : Int) < (xs.length : Nat) := by omega
        have k3 : (k : Int) < (ys.length : Nat) := by omega
        have e1 := c1 k hlt
        have e2 := c2 k hlt2
        obtain ⟨x, hx⟩ : ∃ x, xs.getD k 0 = x := ⟨_, rfl⟩
        obtain ⟨y, hy⟩ : ∃ y, ys.getD k 0 = y := ⟨_, rfl⟩
        rw [hx] at e1
        rw [hy] at e2
        by_cases hxy : x = y
        · have hsame' := Lib.hid (show ∀ j, j < k + 1 → xs.getD j 0 = ys.getD j 0 from fun j hj => by
            by_cases e : j = k
            · subst e; rw [hx, hy]; exact hxy
            · exact hsame.out j (by omega))
          have hd : (x != y) = false := by simp [hxy]
          clear hsame hxy hx hy c1 c2
          go_wp2
          go_quiet (fail)
          go_wp2
          go_roundw
          case rel => exact ⟨k + 1, by omega, by go_num, Lib.hid ⟨_, by first | rfl | exact drewN_add _ _ _⟩, hsame'⟩
          case measure => simp [intOf]; omega
        · have hf := Lib.hid (show false = sameB xs ys from (decide_eq_false (fun e => hxy (by rw [← hx, ← hy, e]))).symm)
          have hd : (x != y) = true := by simp [hxy]
          clear hsame hxy hx hy c1 c2
          go_wp2
          go_quiet (fail)
          go_wp2
          go_ret
          exact ⟨ret_bool hf.out, by first | exact Below.refl _ _ | exact below_drewN (Below.refl _ _) _ | exact below_drewN (below_drewN (Below.refl _ _) _) _⟩
      · have hf := Lib.hid (show true = sameB xs ys from (same_step hne'.out (fun j hj => hsame.out j (by omega))).symm)
        go_wp2
        go_ret
        exact ⟨ret_bool hf.out, below_drewN (Below.refl _ _) _⟩
  · have hb : (((xs.length : Nat) : Int) != ((ys.length : Nat) : Int)) = true := by simp; omega
    have hf := Lib.hid (show false = sameB xs ys from (decide_eq_false (fun e => hne (by rw [e]))).symm)
    clear ha hc hne
    go_enter Try.func43, Try.ntmps43
    go_wp2
    go_ret
    exact ⟨ret_bool hf.out, Below.refl _ _⟩

theorem SRow.drew {w : World} {S : Nat} {v : Value} {xs : List Int} (h : SRow w S v xs) : SRow w.drew S v xs := h
theorem fld0 (x y : Value) (w : World) : (Instr.field 39 (.agg #[x, y]) 0).run Try.prog w = .ok x w := by kernel_rfl
set_option maxRecDepth 100000 in
set_option maxHeartbeats 1000000 in
theorem changes_at (n : Int) (v : Value) (φ : Int → Int) (bs : List (Nat × Obj)) (hT : TurnV n v φ bs) (hs : SetT n φ) (lv : Value) (xs : List Int) (w : World) (hf : famB n xs = true) (hbs : Has w bs) (hx : SRow w w.heap.size lv xs) :
    Calls Try.prog 27 #[v, .agg #[lv, (Value.func (.func 71) #[] #[])]] w fun e w' => e = .returned (.bool (!sameB (tnL φ xs) xs)) ∧ Below w.heap.size w w' := by
  obtain ⟨g, cs, rfl, eg, hcall⟩ := hT
  have eg1 : ∀ args w, (callFunc g args).run Try.prog w = .ok (.enter g args) w := eg
  obtain ⟨a, cap, rfl, _⟩ := id hx
  have hlx := famB_len hf
  have hf2 := tn_fam hs hf
  have hly := famB_len hf2
  have hbw := (Below.refl w.heap.size w).alloc (Nat.le_refl _) (.cells #[.slice a xs.length cap, (Value.func (.func 71) #[] #[])] 39)
  have hbx : w.heap.size < (w.alloc (.cells #[.slice a xs.length cap, (Value.func (.func 71) #[] #[])] 39)).heap.size := by simp
  obtain ⟨l0, l1⟩ := fam_cells (new_cell w #[.slice a xs.length cap, (Value.func (.func 71) #[] #[])] 39)
  have hc2 := hcall (w.alloc (.cells #[.slice a xs.length cap, (Value.func (.func 71) #[] #[])] 39)).drew (.slice a xs.length cap) xs hf (hbs.below hbw.drew) ((hx.below hbw.drew (Nat.le_refl _)).mono (by simp))
  have hxr := hx.below hbw (Nat.le_refl _)
  obtain ⟨ys, hys⟩ : ∃ ys, tnL φ xs = ys := ⟨_, rfl⟩
  rw [hys] at hc2 hly ⊢
  obtain ⟨W0, hW0⟩ : ∃ W0, w.alloc (.cells #[.slice a xs.length cap, (Value.func (.func 71) #[] #[])] 39) = W0 := ⟨_, rfl⟩
  have hz0 : W0.heap.size = w.heap.size + 1 := by rw [← hW0]; simp
  rw [hW0] at hc2 hbw l0 l1 hxr
  have hlt : w.heap.size < W0.heap.size := by omega
  have hle : w.heap.size ≤ W0.heap.size := by omega
  have hly2 : ys.length ≤ 1073741824 := by omega
  have hlx2 : xs.length ≤ 1073741824 := by omega
  have hfl := fld0
  replace hc2 := Lib.hid hc2
  replace hys := Lib.hid hys
  replace hf := Lib.hid hf
  replace hf2 := Lib.hid hf2
  replace hbw := Lib.hid hbw
  replace hxr := Lib.hid hxr
  replace hz0 := Lib.hid hz0
  clear hbs hx hbx hcall hlx hly
  go_enter Try.func27, Try.ntmps27
  go_wp2_with fail
  replace hW0 := Lib.hid hW0
  go_region_with (first
    | (go_at_call 43; ((with_reducible refine (equal_sets _ _ ys xs w2.heap.size _ hR2.out hx2.out hly2 hlx2).mono ?_)); rintro e w3 ⟨rfl, hb3⟩; replace hb3 := Lib.hid (hb2.out.trans (hb3.mono hz2)))
    | ((with_reducible refine hc2.out.mono ?_); rintro e w2 ⟨v2, rfl, hR2, hb2⟩; obtain ⟨a2, c2, rfl, _⟩ := id hR2; have m0 : w2.cell? ⟨w.heap.size, 0, none⟩ = some (.slice a xs.length cap) := (hb2.cell (p := ⟨w.heap.size, 0, none⟩) hlt).trans l0; have hz2 := Nat.le_trans hle hb2.size; have hx2 := Lib.hid (((hxr.out.drew).below hb2 hle).mono hz2); replace hR2 := Lib.hid hR2; replace hb2 := Lib.hid (hbw.out.trans ((Below.refl w.heap.size W0).drew.trans (hb2.mono hle)))))
  all_goals
    go_wp2_with fail
    go_ret
    exact ⟨rfl, hb3.out⟩
end Go.Proofs.Yteikiedffnnceaa
