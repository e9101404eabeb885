/- Scripts: lists that stand in a row of integers of their own. -/
import Derived.Test.YtojfamjgghikoaaGreatDoorEx1
import Derived.Test.YtojfamjgghikoaaGreatDoorSh1
namespace Go.Proofs.YtojfamjgghikoaaGreatDoor
open Go.ChangeShapes Go.WideShapes Go.ChangeAt Go.RowKit Go.Proofs

/-- v reads as xs, and its row is a block of integers from B on. -/
def IntRow (w : World) (B : Nat) (v : Value) (xs : List Int) : Prop := ∃ g, v = .slice (some ⟨g, 0, none⟩) xs.length xs.length ∧ B ≤ g ∧ w.rowIs g 3 xs.length (fun i => .int .i64 (xs.getD i 0))
theorem IntRow.mono {w : World} {B B' : Nat} {v : Value} {xs : List Int} (h : IntRow w B v xs) (hB : B' ≤ B) : IntRow w B' v xs := by
  obtain ⟨g, h1, h2, h3⟩ := h
  exact ⟨g, h1, by omega, h3⟩
theorem IntRow.row {w : World} {B : Nat} {v : Value} {xs : List Int} (h : IntRow w B v xs) : Row w w.heap.size v xs := by
  obtain ⟨g, rfl, h2, h3⟩ := h
  exact ⟨_, _, rfl, fun _ => ⟨g, 0, rfl, h3.lt, fun i hi => by rw [Nat.zero_add]; exact h3.cell hi⟩⟩
set_option maxHeartbeats 2000000 in
theorem numbers_row (lv : Value) (xs : List Int) (S : Nat) (w : World) (hx : SRow w S lv xs) (hS : S ≤ w.heap.size) (hl : xs.length ≤ 100000) (hz : ∀ z ∈ xs, 0 ≤ z ∧ z < 256) :
    Calls Tryz.prog 37 #[.agg #[lv, (Value.func (.func 188) #[] #[])]] w fun e w' => ∃ u, e = .returned u ∧ IntRow w' w.heap.size u xs ∧ Below w.heap.size w w' := by
  obtain ⟨a, cap, rfl, ha⟩ := hx
  replace ha := Lib.hid ha
  replace hz := Lib.hid hz
  have hmk := fun W => run_make_row' (P := Tryz.prog) 28 3 (.int .i64 0) 8 Tryz.underlying28 Tryz.intInfo rfl .i64 .i64 xs.length (by omega) (by omega) W
  go_enter Tryz.func37, Tryz.ntmps37
  go_wp2
  go_loopw [13] (fun i wr => ∃ k : Nat, k ≤ xs.length ∧ i = .int .i64 k ∧ Hid (Below w.heap.size w wr) ∧ Hid (wr.rowIs (w.heap.size + 1) 3 xs.length (filled xs k))) (fun i _ => xs.length - (intOf i).toNat)
  case atStart =>
    refine ⟨0, Nat.zero_le _, rfl, Lib.hid (((Below.refl _ _).alloc (Nat.le_refl _) _).alloc (by simp) _), Lib.hid ?_⟩
    have := (World.rowIs_made (w.alloc (.cells #[.slice a xs.length cap, (Value.func (.func 188) #[] #[])] 64)) (.int .i64 0) xs.length 3).congr (g := filled xs 0) (fun i _ => by simp [filled])
    simpa using this
  case round =>
    obtain ⟨k, hk, rfl, hbel, hrow⟩ := hrel
    have hz2 := hbel.out.size
    have hrl := hrow.out.lt
    by_cases hlt : k < xs.length
    · obtain ⟨b1, o1, rfl, s1, c1⟩ := ha.out (by omega)
      have k1 : (0 : Int) ≤ (k : Int) := by omega
      have k2 : (k : Int) < (xs.length : Nat) := by omega
      have e1 : wr.cell? ⟨b1, o1 + k, none⟩ = some (.int .u64 (xs.getD k 0)) := (hbel.out.cell (p := ⟨b1, o1 + k, none⟩) (show b1 < w.heap.size by omega)).trans (c1 k hlt)
      have e2 := hrow.out.cell hlt
      have e3 := hrow.out.frozen k
      obtain ⟨x, hx⟩ : ∃ x, xs.getD k 0 = x := ⟨_, rfl⟩
      have hzx := hz.out x (by rw [← hx]; exact getD_mem hlt)
      obtain ⟨z1, z2⟩ := hzx
      rw [hx] at e1
      have hrow' := Lib.hid ((hrow.out.set k (.int .i64 x)).congr (g := filled xs (k + 1)) (fun j hj => by
        unfold filled
        by_cases e : j = k
        · subst e; simp [← hx]
        · rw [if_neg e]; congr 1
          by_cases h2 : j < k
          · rw [if_pos h2, if_pos (by omega)]
          · rw [if_neg h2, if_neg (by omega)]))
      have hbel' := Lib.hid (below_setCell hbel.out (p := ⟨w.heap.size + 1, k, none⟩) (by simp) (.int .i64 x))
      clear hx c1 hrow hbel
      go_wp2
      go_roundw
      case rel => exact ⟨k + 1, by omega, by go_num, hbel', hrow'⟩
      case measure => simp [intOf]; omega
    · obtain rfl : k = xs.length := by omega
      have hO := Lib.hid (show IntRow wr w.heap.size (.slice (some ⟨w.heap.size + 1, 0, none⟩) xs.length xs.length) xs from
        ⟨_, rfl, by omega, hrow.out.congr (fun i hi => by simp [filled, hi])⟩)
      clear hrow
      go_wp2
      go_ret
      exact ⟨_, rfl, hO.out, hbel.out⟩
set_option maxHeartbeats 2000000 in
theorem level_row (n k : Int) (w : World) (hb : szB n k = true) : Calls Tryz.prog 15 #[.int .i64 n, .int .i64 k] w fun e w' => ∃ v, e = .returned (.tuple #[v, .bool true]) ∧ IntRow w' w.heap.size v (levL n k) ∧ Below w.heap.size w w' := by
  have hsz := size_in n k
  rw [hb] at hsz
  obtain ⟨n1, n2, k1, k2⟩ := szB_yes hb
  have hlev := lev_at n k n1 n2
  have hyz := levL_lt (k := k) n1 n2
  have hyl := levL_len256 (k := k) n1 n2
  obtain ⟨ys, hys⟩ : ∃ ys, levL n k = ys := ⟨_, rfl⟩
  rw [hys] at hlev hyz hyl ⊢
  replace hsz := Lib.hid hsz
  replace hb := Lib.hid hb
  replace hlev := Lib.hid hlev
  replace hyz := Lib.hid hyz
  replace hys := Lib.hid hys
  go_enter Tryz.func15, Tryz.ntmps15
  go_wp2_with (go_at_call 36; refine (hsz.out _).mono ?_; rintro e w' ⟨rfl, rfl⟩)
  refine (hlev.out _).mono ?_
  rintro e w3 ⟨v3, rfl, hS3, hb3⟩
  obtain ⟨a3, c3, rfl⟩ := hS3.form
  have hz3 := hb3.size
  have hnum := Lib.hid (numbers_row _ _ _ _ hS3.row (Nat.le_refl _) (by omega) hyz.out)
  replace hb3 := Lib.hid hb3
  clear hS3
  go_wp2_with fail
  refine hnum.out.mono ?_
  rintro e w5 ⟨t, rfl, hO, hb5⟩
  obtain ⟨ug, rfl, _, _⟩ := id hO
  replace hb5 := Lib.hid (hb3.out.trans (hb5.mono (by omega)))
  replace hO := Lib.hid (hO.mono (show w.heap.size ≤ w3.heap.size by omega))
  go_wp2_with fail
  go_ret2
  exact ⟨_, rfl, hO.out, hb5.out⟩
end Go.Proofs.YtojfamjgghikoaaGreatDoor
