/- The model's DifferenceOf. -/
import Derived.Test.YthljimmhgpbmbabAllC9
import Derived.Test.YthljimmhgpbmbabAllSp
namespace Go.Proofs.Ythljimmhgpbmbab
open Go.ChangeShapes Go.WideShapes Go.ChangeAt Go.RowKit Go.Proofs

set_option maxHeartbeats 2000000 in
theorem sp_DifferenceOf (n : Int) (lv : Value) (xs : List Int) (S : Nat) (w : World) (hx : Row w S lv xs) (hS : S ≤ w.heap.size) (hl : xs.length ≤ 100000000) :
    Calls Try.prog 15 #[.int .i64 n, lv] w (ListPost (ifL (famB n xs) (sortL (pairsTo difI xs xs xs.length))) (famB n xs) w) := by
  have h1 := sp_FamilyIn n lv xs S w hx (by omega)
  obtain ⟨a, cap, rfl, ha⟩ := id hx
  rcases (by cases (famB n xs) <;> simp : (famB n xs) = true ∨ (famB n xs) = false) with hB | hB
  · rw [hB] at h1 ⊢
    have f1 := hB
    obtain ⟨n1, n2, _⟩ := famB_all f1
    have a1 := famB_allB f1
    have l1 := famB_len f1
    have A1 := famB_asc f1
    replace h1 := Lib.hid h1
    replace f1 := Lib.hid f1
    replace hB := Lib.hid hB
    replace a1 := Lib.hid a1
    replace A1 := Lib.hid A1
    replace hx := Lib.hid hx
    replace ha := Lib.hid ha
    show Calls Try.prog 15 #[.int .i64 n, .slice a xs.length cap] w (ListPost (sortL (pairsTo difI xs xs xs.length)) true w)
    go_enter Try.func15, Try.ntmps15
    go_wp2_with fail
    refine h1.out.mono ?_
    rintro e w1 ⟨rfl, q, rfl⟩
    have hqS : S ≤ (w.drewN q).heap.size := hS
    have hsF : ∀ x ∈ xs, ∀ z ∈ xs, setB n (difI x z) = true := fun x h1 z h2 => difI_set (allB_yes a1.out x h1) (allB_yes a1.out z h2)
    have hset : ∀ x, setB n x = true → ∃ t : Nat, x = t ∧ t < 2 ^ n.toNat := fun x h => set_nat h
    obtain ⟨p1, p2, p3⟩ := pow_nat n1 n2
    have hmks := mkL_sort (pairs_all hsF xs.length)
    obtain ⟨N, hN⟩ : ∃ N : Nat, 2 ^ n.toNat = N := ⟨_, rfl⟩
    have hNi : (2 : Int) ^ n.toNat = (N : Nat) := by rw [← hN]; simp
    rw [hN] at p1 p2 p3 hset hmks
    have hmk := fun W => run_make_row' (P := Try.prog) 47 4 (.bool false) 1 Try.underlying47 Try.boolInfo rfl .i64 .i64 N (by omega) (by omega) W
    replace hN := Lib.hid hN
    replace hNi := Lib.hid hNi
    replace hset := Lib.hid hset
    replace hmks := Lib.hid hmks
    replace hsF := Lib.hid hsF
    have hn0 : (0 : Int) ≤ n := by omega
    have hn64 : n < 64 := by omega
    clear h1
    go_wp2_with fail
    replace p3 := Lib.hid p3
    replace hmk := Lib.hid hmk
    go_loopw [7] (fun s wr => ∃ k : Nat, k ≤ xs.length ∧ s = .int .i64 k ∧ Hid (Below w.heap.size w wr) ∧ Hid (MarkRow wr w.heap.size N (fun j => memB (j : Nat) (pairsTo difI xs xs k)))) (fun s _ => xs.length - (intOf s).toNat)
    case atStart =>
      refine ⟨0, by omega, rfl, Lib.hid ((below_drewN (Below.refl _ _) q).alloc (Nat.le_refl _) _), Lib.hid ?_⟩
      exact (World.rowIs_made (w.drewN q) (.bool false) N 4).congr (fun i _ => by simp [memB, pairsTo])
    case round =>
      obtain ⟨k, hk, rfl, hbel, hrow⟩ := hrel
      by_cases hlt : k < xs.length
      · obtain ⟨b1, o1, rfl, s1, c1⟩ := ha.out (by omega)
        have k1 : (0 : Int) ≤ (k : Int) := by omega
        have k2 : (k : Int) < (xs.length : Nat) := by omega
        obtain ⟨x, hx0⟩ : ∃ x, xs.getD k 0 = x := ⟨_, rfl⟩
        have hmx := Lib.hid (show x ∈ xs by rw [← hx0]; exact getD_mem hlt)
        have hps := Lib.hid (pairs_step (ys := xs) hlt hx0 difI)
        replace hx0 := Lib.hid hx0
        replace c1 := Lib.hid c1
        go_wp2_with fail
        go_loopw [8] (fun s wq => ∃ j : Nat, j ≤ xs.length ∧ s = .int .i64 j ∧ Hid (Below w.heap.size w wq) ∧ Hid (MarkRow wq w.heap.size N (fun j' => memB (j' : Nat) (pairsTo difI xs xs k ++ (xs.take j).map (difI x))))) (fun s _ => xs.length - (intOf s).toNat)
        case atStart => exact ⟨0, by omega, rfl, hbel, Lib.hid (by rw [List.take_zero, List.map_nil, List.append_nil]; exact hrow.out)⟩
        case round =>
          obtain ⟨j, hj, rfl, hbel2, hrow2⟩ := hrel
          by_cases hlj : j < xs.length
          · have j1 : (0 : Int) ≤ (j : Int) := by omega
            have j2 : (j : Int) < (xs.length : Nat) := by omega
            have e1 : wr.cell? ⟨b1, o1 + k, none⟩ = some (.int .i64 (xs.getD k 0)) := (hbel2.out.cell (p := ⟨b1, o1 + k, none⟩) (show b1 < w.heap.size by omega)).trans (c1.out k hlt)
            have e2 : wr.cell? ⟨b1, o1 + j, none⟩ = some (.int .i64 (xs.getD j 0)) := (hbel2.out.cell (p := ⟨b1, o1 + j, none⟩) (show b1 < w.heap.size by omega)).trans (c1.out j hlj)
            rw [hx0.out] at e1
            obtain ⟨y, hy0⟩ : ∃ y, xs.getD j 0 = y := ⟨_, rfl⟩
            have hmy : y ∈ xs := by rw [← hy0]; exact getD_mem hlj
            have hft : pairsTo difI xs xs k ++ (xs.take (j + 1)).map (difI x) = (pairsTo difI xs xs k ++ (xs.take j).map (difI x)) ++ [difI x y] := by rw [map_take hlj hy0 (difI x), ← List.append_assoc]
            obtain ⟨x1, x2⟩ := setB_lt (allB_yes a1.out x hmx.out)
            obtain ⟨y1, y2⟩ := setB_lt (allB_yes a1.out y hmy)
            have ho := i64_difI x1 x2 y1 y2
            obtain ⟨t, hte, ht⟩ := hset.out _ (hsF.out x hmx.out y hmy)
            rw [hte] at ho hft
            rw [hy0] at e2
            have t1 : (0 : Int) ≤ (t : Int) := by omega
            have t2 : (t : Int) < (N : Nat) := by omega
            have e3 := World.rowIs.cell hrow2.out ht
            have e4 := World.rowIs.frozen hrow2.out t
            have hrow' := Lib.hid (MarkRow.put (w := wr.drew) hrow2.out (p' := fun j' => memB (j' : Nat) (pairsTo difI xs xs k ++ (xs.take (j + 1)).map (difI x))) t (fun j' hj' => by
              rw [hft, mem_snoc]
              by_cases e : j' = t
              · subst e; simp
              · rw [if_neg e, if_neg (by omega)]))
            have hbel' := Lib.hid (below_setCell hbel2.out.drew (p := ⟨w.heap.size, t, none⟩) (Nat.le_refl _) (.bool true))
            replace hte := Lib.hid hte
            replace hft := Lib.hid hft
            replace hy0 := Lib.hid hy0
            replace hmy := Lib.hid hmy
            clear hrow2 hbel2
            go_wp2_with fail
            go_region
            all_goals
              go_wp2_with fail
              go_roundw
              case rel => exact ⟨j + 1, by omega, by go_num, hbel', hrow'⟩
              case measure => simp [intOf]; omega
          · obtain rfl : j = xs.length := by omega
            have hr2 := hrow2.out
            rw [List.take_length, ← hps.out] at hr2
            replace hr2 := Lib.hid hr2
            clear hrow2
            go_wp2_with fail
            go_roundw
            case rel => exact ⟨k + 1, by omega, by go_num, hbel2, hr2⟩
            case measure => simp [intOf]; omega
      · obtain rfl : k = xs.length := by omega
        have hli := list_at w.heap.size N _ wr hrow.out p1
        rw [hmks.out] at hli
        replace hli := Lib.hid hli
        have hz := hbel.out.size
        clear hrow
        go_wp2_with fail
        refine hli.out.mono ?_
        rintro e w3 ⟨v, rfl, hO, hb3⟩
        obtain ⟨a', c', rfl⟩ := hO.form
        replace hb3 := Lib.hid (hbel.out.trans (hb3.mono hz))
        replace hO := Lib.hid (hO.own.mono hz (Nat.le_refl _))
        go_wp2_with fail
        go_ret2
        exact ⟨_, rfl, hO.out, hb3.out⟩
  · rw [hB] at h1 ⊢
    replace h1 := Lib.hid h1
    replace hB := Lib.hid hB
    clear hx ha
    go_enter Try.func15, Try.ntmps15
    go_wp2_with fail
    refine h1.out.mono ?_
    rintro e w1 ⟨rfl, q, rfl⟩
    go_wp2_with fail
    go_ret2
    exact ⟨_, rfl, own_empty0 _ _ _ _ _, ((below_drewN (Below.refl _ w) q).alloc (Nat.le_refl _) _)⟩

end Go.Proofs.Ythljimmhgpbmbab
