/- Shadows: the model, its walk. -/
import Derived.Test.YtgkbaenjniapiaaDoorShSp
namespace Go.Proofs.YtgkbaenjniapiaaDoor
open Go.ChangeShapes Go.WideShapes Go.ChangeAt Go.RowKit Go.Proofs

set_option maxRecDepth 100000 in
set_option maxHeartbeats 4000000 in
theorem l3_at (u : Bool) (n : Int) (lv : Value) (xs : List Int) (S : Nat) (w : World) (hx : Row w S lv xs) (hS : S ≤ w.heap.size) (hl : xs.length ≤ 100000) (n1 : 1 ≤ n) (n2 : n ≤ 8) (hall : ∀ x ∈ xs, setB n x = true) :
    Calls Tryd.prog 37 #[.int .i64 n, lv, .bool u] w (IntsPost (sortL (spL u n xs)) w) := by
  obtain ⟨a, cap, rfl, ha⟩ := id hx
  have hset : ∀ x, setB n x = true → ∃ t : Nat, x = t ∧ t < 2 ^ n.toNat := fun x h => set_nat h
  obtain ⟨p1, p2, p3⟩ := pow_nat n1 n2
  have hmks := mkL_sort (spL_all (u := u) hall)
  obtain ⟨N, hN⟩ : ∃ N : Nat, 2 ^ n.toNat = N := ⟨_, rfl⟩
  have hNi : (2 : Int) ^ n.toNat = (N : Nat) := by rw [← hN]; simp
  rw [hN] at p1 p2 p3 hset hmks
  have hmk := fun W => run_make_row' (P := Tryd.prog) 81 4 (.bool false) 1 Tryd.underlying81 Tryd.boolInfo rfl .i64 .i64 N (by omega) (by omega) W
  replace hN := Lib.hid hN
  replace hNi := Lib.hid hNi
  replace hset := Lib.hid hset
  replace hmks := Lib.hid hmks
  replace hx := Lib.hid hx
  replace ha := Lib.hid ha
  replace hall := Lib.hid hall
  have hn0 : (0 : Int) ≤ n := by omega
  have hn64 : n < 64 := by omega
  go_enter Tryd.func37, Tryd.ntmps37
  go_wp2_with fail
  replace p3 := Lib.hid p3
  replace hmk := Lib.hid hmk
  go_loopw [8] (fun s wr => ∃ k : Nat, k ≤ xs.length ∧ s = .int .i64 k ∧ Hid (Below w.heap.size w wr) ∧ Hid (MarkRow wr w.heap.size N (fun j => memB (j : Nat) (spL u n (xs.take k))))) (fun s _ => xs.length - (intOf s).toNat)
  case atStart =>
    refine ⟨0, by omega, rfl, Lib.hid ((Below.refl _ _).alloc (Nat.le_refl _) _), Lib.hid ?_⟩
    exact (World.rowIs_made w (.bool false) N 4).congr (fun i _ => by simp [memB, spL])
  case round =>
    obtain ⟨k, hk, rfl, hbel, hrow⟩ := hrel
    by_cases hlt : k < xs.length
    · obtain ⟨b1, o1, rfl, s1, c1⟩ := ha.out (by omega)
      have k1 : (0 : Int) ≤ (k : Int) := by omega
      have k2 : (k : Int) < (xs.length : Nat) := by omega
      obtain ⟨x, hx0⟩ : ∃ x, xs.getD k 0 = x := ⟨_, rfl⟩
      have hmx := Lib.hid (show x ∈ xs by rw [← hx0]; exact getD_mem hlt)
      have hps := Lib.hid (spL_step (u := u) (n := n) hlt hx0)
      replace hx0 := Lib.hid hx0
      replace c1 := Lib.hid c1
      go_wp2_with fail
      go_loopw [9] (fun s wq => ∃ j : Nat, (j : Int) ≤ n ∧ s = .int .i64 j ∧ Hid (Below w.heap.size w wq) ∧ Hid (MarkRow wq w.heap.size N (fun j' => memB (j' : Nat) (spL u n (xs.take k) ++ onL u x j)))) (fun s _ => (n - intOf s).toNat)
      case atStart => exact ⟨0, by omega, rfl, hbel, Lib.hid (by rw [show onL u x 0 = [] from rfl, List.append_nil]; exact hrow.out)⟩
      case round =>
        obtain ⟨j, hj, rfl, hbel2, hrow2⟩ := hrel
        have e1 : wr.cell? ⟨b1, o1 + k, none⟩ = some (.int .i64 (xs.getD k 0)) := (hbel2.out.cell (p := ⟨b1, o1 + k, none⟩) (show b1 < w.heap.size by omega)).trans (c1.out k hlt)
        rw [hx0.out] at e1
        have hsx := hall.out x hmx.out
        obtain ⟨x1, x2⟩ := setB_lt hsx
        by_cases hlj : (j : Int) < n
        · have j0 : (0 : Int) ≤ (j : Int) := by omega
          have j7 : (j : Int) ≤ 7 := by omega
          have hh := Lib.hid (fun W => l1has x (j : Int) x1 x2 j0 j7 W)
          obtain ⟨bh, hbh⟩ : ∃ bh, hasB x (j : Int) = bh := ⟨_, rfl⟩
          rw [hbh] at hh
          have hsu := onL_succ u x j
          rw [hbh] at hsu
          rcases (by cases (bh != u) <;> simp : (bh != u) = true ∨ (bh != u) = false) with hq | hq
          · have hq2 : (!(bh == u)) = true := by cases bh <;> cases u <;> simp_all
            rw [if_pos hq] at hsu
            obtain ⟨t, hte, ht⟩ := hset.out _ (pick_set (u := u) hsx j0 hlj)
            have ho := xor_pick (u := u) x1 x2 j0 j7 (by rw [hbh]; exact hq)
            rw [hte] at ho hsu
            rw [Int.toNat_natCast] at ho
            have t1 : (0 : Int) ≤ (t : Int) := by omega
            have t2 : (t : Int) < (N : Nat) := by omega
            have e3 := World.rowIs.cell hrow2.out ht
            have e4 := World.rowIs.frozen hrow2.out t
            have hrow' := Lib.hid (MarkRow.put (w := wr.drew) hrow2.out (p' := fun j' => memB (j' : Nat) (spL u n (xs.take k) ++ onL u x (j + 1))) t (fun j' hj' => by
              rw [hsu, ← List.append_assoc, mem_snoc]
              by_cases e : j' = t
              · subst e; simp
              · rw [if_neg e, if_neg (by omega)]))
            have hbel' := Lib.hid (below_setCell hbel2.out.drew (p := ⟨w.heap.size, t, none⟩) (Nat.le_refl _) (.bool true))
            replace hte := Lib.hid hte
            replace hsu := Lib.hid hsu
            replace hbh := Lib.hid hbh
            replace hsx := Lib.hid hsx
            have j64 : (j : Int) < 64 := by omega
            clear hrow2 hbel2
            go_wp2_with (go_at_call 78; refine (hh.out _).mono ?_; rintro e w' ⟨rfl, rfl⟩)
            go_region
            all_goals
              go_wp2_with fail
              go_roundw
              case rel => exact ⟨j + 1, by omega, by go_num, hbel', hrow'⟩
              case measure => simp [intOf]; omega
          · have hq2 : (!(bh == u)) = false := by cases bh <;> cases u <;> simp_all
            rw [if_neg (by simp [hq]), List.append_nil] at hsu
            have hr2 := hrow2.out
            rw [← hsu] at hr2
            replace hr2 := Lib.hid hr2
            replace hsu := Lib.hid hsu
            replace hbh := Lib.hid hbh
            replace hsx := Lib.hid hsx
            clear hrow2
            go_wp2_with (go_at_call 78; refine (hh.out _).mono ?_; rintro e w' ⟨rfl, rfl⟩)
            go_roundw
            case rel => exact ⟨j + 1, by omega, by go_num, hbel2, hr2⟩
            case measure => simp [intOf]; omega
        · have hjn : j = n.toNat := by omega
          have hr2 := hrow2.out
          rw [hjn, ← hps.out] at hr2
          replace hr2 := Lib.hid hr2
          clear hrow2
          replace hjn := Lib.hid hjn
          replace hsx := Lib.hid hsx
          go_wp2_with fail
          go_roundw
          case rel => exact ⟨k + 1, by omega, by go_num, hbel2, hr2⟩
          case measure => simp [intOf]; omega
    · obtain rfl : k = xs.length := by omega
      have hr2 := hrow.out
      rw [List.take_length] at hr2
      have hli := list_at w.heap.size N _ wr hr2 p1
      rw [hmks.out] at hli
      replace hli := Lib.hid hli
      have hz := hbel.out.size
      clear hrow hr2
      go_wp2_with fail
      refine hli.out.mono ?_
      rintro e w3 ⟨v, rfl, hO, hb3⟩
      obtain ⟨a', c', rfl⟩ := hO.form
      replace hb3 := Lib.hid (hbel.out.trans (hb3.mono hz))
      replace hO := Lib.hid (hO.mono hz)
      go_wp2_with fail
      go_ret
      exact ⟨_, rfl, hO.out, hb3.out⟩
end Go.Proofs.YtgkbaenjniapiaaDoor
