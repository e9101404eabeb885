/- BoundaryDistance: the program, the model, the law. -/
import Derived.Test.YtpepcjffolbdcaaBn5
namespace Go.Proofs.Ytpepcjffolbdcaa
open Go.ChangeShapes Go.WideShapes Go.ChangeAt Go.RowKit Go.Proofs

theorem ret_ibh {a b : Int} {c d : Bool} (h : a = b) (h2 : c = d) : Ending.returned (.tuple #[.int .i64 a, .bool c]) = .returned (.tuple #[.int .i64 b, .bool d]) := by rw [h, h2]
set_option maxRecDepth 100000 in
set_option maxHeartbeats 1000000 in
theorem im_BoundaryDistance (n : Int) (lv : Value) (xs : List Int) (S : Nat) (w : World) (hx : Row w S lv xs) (hS : S ≤ w.heap.size) (hl : xs.length ≤ 100000000) :
    Calls Try.prog 5 #[.int .i64 n, lv] w fun e w' => e = .returned (.tuple #[.int .i64 (ldV n xs), .bool (ldB n xs)]) ∧ Below w.heap.size w w' := by
  have hr := Lib.hid (read_any n lv xs S w hx hS hl)
  obtain ⟨la, lc, rfl, _⟩ := id hx
  clear hx
  go_enter Try.func5, Try.ntmps5
  go_wp2_with fail
  refine hr.out.mono ?_
  rintro e w1 (⟨hf, v, rfl, hS1, hb1⟩ | ⟨hf, rfl, hb1⟩)
  · have hlen := famB_len hf
    have hlt := famB_lt hf
    by_cases h2 : 2 ≤ xs.length
    · have hB := Lib.hid (show true = ldB n xs by unfold ldB; rw [hf]; exact (decide_eq_true h2).symm)
      have hV := Lib.hid (show ldT 8 xs xs.length = ldV n xs by unfold ldV; rw [← hB.out]; rfl)
      rcases hS1.out with ⟨rfl, hn⟩ | ⟨g, cap, cur, rfl, hg, hh, hn, hm, hs, hc⟩
      · rw [hn] at h2; simp at h2
      · have hz1 := hb1.size
        have hb2 := hb1.alloc hz1 (.cells #[.slice (some ⟨g, 0, none⟩) xs.length cap, (Value.func (.func 45) #[] #[])] 35)
        have hS2 := hS1.alloc (.cells #[.slice (some ⟨g, 0, none⟩) xs.length cap, (Value.func (.func 45) #[] #[])] 35)
        have hld := Lib.hid (least_dist (some ⟨g, 0, none⟩) cap xs _ _ hS2.row hn (by unfold maxLen at hm; omega) (by omega) (Nat.le_refl _) hlt)
        have k2 : (2 : Int) ≤ (xs.length : Nat) := by omega
        replace hf := Lib.hid hf
        replace hlt := Lib.hid hlt
        replace hb2 := Lib.hid hb2
        clear hS1 hb1 hS2 hh hc hr
        go_wp2_with fail
        refine hld.out.mono ?_
        rintro e w2 ⟨rfl, hb3⟩
        replace hb3 := Lib.hid (hb2.out.trans (hb3.mono (by simp; omega)))
        go_wp2_with fail
        go_ret2
        exact ⟨ret_ibh hV.out hB.out, hb3.out⟩
    · have hB := Lib.hid (show false = ldB n xs by unfold ldB; rw [hf]; exact (decide_eq_false h2).symm)
      have hV := Lib.hid (show 0 = ldV n xs by unfold ldV; rw [← hB.out]; rfl)
      obtain ⟨a', c', rfl⟩ := hS1.form
      have hz1 := hb1.size
      have hb2 := Lib.hid (hb1.alloc hz1 (.cells #[.slice a' xs.length c', (Value.func (.func 45) #[] #[])] 35))
      have k2 : ((xs.length : Nat) : Int) < 2 := by omega
      replace hf := Lib.hid hf
      replace hlt := Lib.hid hlt
      clear hS1 hb1 hr h2
      go_wp2_with fail
      go_ret2
      exact ⟨ret_ibh hV.out hB.out, hb2.out⟩
  · have hB := Lib.hid (show false = ldB n xs by unfold ldB; rw [hf]; rfl)
    have hV := Lib.hid (show 0 = ldV n xs by unfold ldV; rw [← hB.out]; rfl)
    have hz1 := hb1.size
    have hb2 := Lib.hid (hb1.alloc hz1 (.cells #[.slice none 0 0, .nilFunc] 35))
    replace hf := Lib.hid hf
    clear hb1 hr
    go_wp2_with fail
    go_ret2
    exact ⟨ret_ibh hV.out hB.out, hb2.out⟩
set_option maxRecDepth 100000 in
set_option maxHeartbeats 2000000 in
theorem sp_BoundaryDistance (n : Int) (lv : Value) (xs : List Int) (S : Nat) (w : World) (hx : Row w S lv xs) (_hS : S ≤ w.heap.size) (hl : xs.length ≤ 100000000) :
    Calls Try.prog 6 #[.int .i64 n, lv] w fun e w' => e = .returned (.tuple #[.int .i64 (ldV n xs), .bool (ldB n xs)]) ∧ ∃ q, w' = w.drewN q := by
  have h1 := sp_FamilyIn n lv xs S w hx (by omega)
  obtain ⟨a, cap, rfl, ha⟩ := id hx
  rcases (by cases famB n xs <;> simp : famB n xs = true ∨ famB n xs = false) with hf | hf
  · rw [hf] at h1
    have hlen := famB_len hf
    have hz := Lib.hid (famB_lt hf)
    obtain ⟨n1, n2, _⟩ := famB_all hf
    by_cases h2 : 2 ≤ xs.length
    · have hB := Lib.hid (show true = ldB n xs by unfold ldB; rw [hf]; exact (decide_eq_true h2).symm)
      have hV := Lib.hid (show ldT n xs xs.length = ldV n xs by unfold ldV; rw [← hB.out, ldT_same hf h2]; rfl)
      have k2 : (2 : Int) ≤ (xs.length : Nat) := by omega
      replace h1 := Lib.hid h1
      replace hf := Lib.hid hf
      replace ha := Lib.hid ha
      clear hx
      go_enter Try.func6, Try.ntmps6
      go_wp2_with fail
      refine h1.out.mono ?_
      rintro e w1 ⟨rfl, q0, rfl⟩
      go_wp2_with fail
      go_loopw [6, 7] (fun v i wr => ∃ k : Nat, k ≤ xs.length ∧ i = .int .i64 k ∧ v = .int .i64 (ldT n xs k) ∧ Hid (∃ q, wr = w.drewN q)) (fun _ i _ => xs.length - (intOf i).toNat)
      case atStart => exact ⟨0, by omega, rfl, rfl, Lib.hid ⟨q0, rfl⟩⟩
      case round =>
        obtain ⟨k, hk, rfl, rfl, hw⟩ := hrel
        by_cases hlt : k < xs.length
        · obtain ⟨b1, o1, rfl, t1, c1⟩ := ha.out (by omega)
          have k1 : (0 : Int) ≤ (k : Int) := by omega
          have k2 : (k : Int) < (xs.length : Nat) := by omega
          obtain ⟨x, hx⟩ : ∃ x, xs.getD k 0 = x := ⟨_, rfl⟩
          obtain ⟨x1, x2⟩ := hz.out x (by rw [← hx]; exact getD_mem hlt)
          have hR := Lib.hid (show rowD (ldT n xs k) x (xs.take k) = ldT n xs (k + 1) by rw [← hx]; rfl)
          obtain ⟨L1, L2⟩ := ldT_bd xs n (by omega) k
          obtain ⟨L, hL⟩ : ∃ L, ldT n xs k = L := ⟨_, rfl⟩
          rw [hL] at hR L1 L2 ⊢
          replace hL := Lib.hid hL
          replace hx := Lib.hid hx
          replace c1 := Lib.hid c1
          go_wp2_with fail
          go_loopw [6, 8] (fun v i wq => ∃ j : Nat, j ≤ k ∧ i = .int .i64 j ∧ v = .int .i64 (rowD L x (xs.take j)) ∧ Hid (∃ q, wq = w.drewN q)) (fun _ i _ => k - (intOf i).toNat)
          case atStart => exact ⟨0, by omega, rfl, rfl, hw⟩
          case round =>
            obtain ⟨j, hj, rfl, rfl, hw2⟩ := hrel
            by_cases hlj : j < k
            · have j1 : (0 : Int) ≤ (j : Int) := by omega
              have j2 : (j : Int) < (k : Nat) := by omega
              have j3 : (j : Int) < (xs.length : Nat) := by omega
              have hwd : ∀ p, Hid (∃ q, wr.drewN p = w.drewN q) := fun p => by
                obtain ⟨q, h⟩ := hw2.out
                exact Lib.hid ⟨q + p, by rw [h]; exact World.drewN_drewN _ _ _⟩
              have e1 : wr.cell? ⟨b1, o1 + k, none⟩ = some (.int .i64 x) := by
                obtain ⟨q, h⟩ := hw2.out
                rw [h, ← hx.out]; exact c1.out k hlt
              have e2 : wr.cell? ⟨b1, o1 + j, none⟩ = some (.int .i64 (xs.getD j 0)) := by
                obtain ⟨q, h⟩ := hw2.out
                rw [h]; exact c1.out j (by omega)
              have hst := rowD_take (m := L) (s := x) (ys := xs) (j := j) (by omega)
              obtain ⟨y, hy⟩ : ∃ y, xs.getD j 0 = y := ⟨_, rfl⟩
              obtain ⟨y1, y2⟩ := hz.out y (by rw [← hy]; exact getD_mem (by omega))
              rw [hy] at e2 hst
              have hxo := i64_xorI x1 x2 y1 y2
              obtain ⟨d1, d2⟩ := xorI_lt x1 x2 y1 y2
              have hd := fun W => l1size (xorI x y) d1 d2 W
              unfold dstI at hst
              obtain ⟨t, ht⟩ : ∃ t, xorI x y = t := ⟨_, rfl⟩
              rw [ht] at hxo hd hst
              obtain ⟨d, hdd⟩ : ∃ d, cntI t = d := ⟨_, rfl⟩
              rw [hdd] at hd hst
              obtain ⟨r, hr⟩ : ∃ r, rowD L x (xs.take j) = r := ⟨_, rfl⟩
              rw [hr] at hst ⊢
              replace hd := Lib.hid hd
              replace hst := Lib.hid hst
              replace hy := Lib.hid hy
              replace hdd := Lib.hid hdd
              replace hr := Lib.hid hr
              replace ht := Lib.hid ht
              clear d1 d2 hw2 hw
              go_wp2_with fail
              go_region_with (go_at_call 13; refine (hd.out _).mono ?_; rintro e w' ⟨rfl, rfl⟩)
              all_goals
                go_wp2_with fail
                go_roundw
                case rel => exact ⟨j + 1, by omega, by go_num, by rw [hst.out], hwd _⟩
                case measure => simp [intOf]; omega
            · obtain rfl : j = k := by omega
              clear hw
              go_wp2_with fail
              go_roundw
              case rel => exact ⟨j + 1, by omega, by go_num, by rw [hR.out], hw2⟩
              case measure => simp [intOf]; omega
        · obtain rfl : k = xs.length := by omega
          go_wp2_with fail
          go_ret2
          exact ⟨ret_ibh hV.out hB.out, hw.out⟩
    · have hB := Lib.hid (show false = ldB n xs by unfold ldB; rw [hf]; exact (decide_eq_false h2).symm)
      have hV := Lib.hid (show 0 = ldV n xs by unfold ldV; rw [← hB.out]; rfl)
      have k2 : ((xs.length : Nat) : Int) < 2 := by omega
      replace h1 := Lib.hid h1
      replace hf := Lib.hid hf
      replace ha := Lib.hid ha
      clear hx h2
      go_enter Try.func6, Try.ntmps6
      go_wp2_with fail
      refine h1.out.mono ?_
      rintro e w1 ⟨rfl, q0, rfl⟩
      go_wp2_with fail
      go_ret2
      exact ⟨ret_ibh hV.out hB.out, q0, rfl⟩
  · rw [hf] at h1
    have hB := Lib.hid (show false = ldB n xs by unfold ldB; rw [hf]; rfl)
    have hV := Lib.hid (show 0 = ldV n xs by unfold ldV; rw [← hB.out]; rfl)
    replace h1 := Lib.hid h1
    replace hf := Lib.hid hf
    clear hx ha
    go_enter Try.func6, Try.ntmps6
    go_wp2_with fail
    refine h1.out.mono ?_
    rintro e w1 ⟨rfl, q0, rfl⟩
    go_wp2_with fail
    go_ret2
    exact ⟨ret_ibh hV.out hB.out, q0, rfl⟩
end Go.Proofs.Ytpepcjffolbdcaa
