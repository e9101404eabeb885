/- The model's ChainWide and the exact law. -/
import Derived.Test.YtgkbaenjniapiaaCw4
import Derived.Test.YtgkbaenjniapiaaAs2
import Derived.Test.YtgkbaenjniapiaaLawBool
namespace Go.Proofs.Ytgkbaenjniapiaa
open Go.ChangeShapes Go.WideShapes Go.ChangeAt Go.RowKit Go.Proofs

theorem i64_low (a : Nat) (ha : a < 1048576) : bits .and .i64 (a : Int) 1 = ((a % 2 : Nat) : Int) := by
  show IntKind.i64.wrap ((BitVec.ofInt 64 (a : Int) &&& BitVec.ofInt 64 (1 : Int)).toNat : Int) = _
  rw [BitVec.toNat_and, ofInt_u64 a (by omega), show (BitVec.ofInt 64 (1 : Int)).toNat = 1 from rfl, Nat.and_one_is_mod, IntKind.wrap_i64]
  omega
theorem l1has_big (s p : Nat) (w : World) (hs : s < 1048576) (hp : p ≤ 20) : Calls Try.prog 49 #[.int .i64 (s : Nat), .int .i64 (p : Nat)] w fun e w' => e = .returned (.bool (s.testBit p)) ∧ w = w' := by
  have hd : (s : Int) / 2 ^ p = ((s / 2 ^ p : Nat) : Int) := by simp
  have hl := Nat.div_le_self s (2 ^ p)
  have hb := i64_low (s / 2 ^ p) (by omega)
  have ht : (((s / 2 ^ p % 2 : Nat) : Int) == 1) = s.testBit p := by
    rw [Nat.testBit_eq_decide_div_mod_eq]
    by_cases h : s / 2 ^ p % 2 = 1
    · rw [h]; rfl
    · rw [decide_eq_false h, beq_eq_false_iff_ne]; omega
  rw [← hd] at hb
  rw [← ht, ← hb]
  replace ht := Lib.hid ht
  replace hb := Lib.hid hb
  clear hd
  have p0 : (0 : Int) ≤ (p : Int) := by omega
  have p64 : (p : Int) < 64 := by omega
  go_enter Try.func49, Try.ntmps49
  go_wp2
  go_ret
  exact ⟨rfl, rfl⟩
theorem bst_yes {xs : List Int} {A : List Int → Bool} {m : Nat} (h1 : bst xs A m < (pick m xs).length) (h2 : A (pick m xs) = true) : bst xs A (m + 1) = (pick m xs).length := by rw [bst, if_pos ⟨h1, h2⟩]
theorem bst_small {xs : List Int} {A : List Int → Bool} {m : Nat} (h1 : ¬ bst xs A m < (pick m xs).length) : bst xs A (m + 1) = bst xs A m := by rw [bst, if_neg (fun h => h1 h.1)]
theorem bst_no {xs : List Int} {A : List Int → Bool} {m : Nat} (h2 : A (pick m xs) = false) : bst xs A (m + 1) = bst xs A m := by rw [bst, if_neg (fun h => by rw [h2] at h; cases h.2)]
theorem asc_sub {xs ys : List Int} (h : ys.Sublist xs) (hA : Asc xs) : Asc ys := List.Pairwise.sublist h hA
theorem bst_wI {xs : List Int} (hA : Asc xs) (hz : ∀ z ∈ xs, 0 ≤ z ∧ z < 256) : bst xs antiB (2 ^ xs.length) = wI xs :=
  wI_eq (bst_isW fun _ hc => anti_np (asc_sub hc hA) (fun z h => hz z (hc.subset h)))
set_option maxHeartbeats 8000000 in
theorem sp_ChainWide (n : Int) (lv : Value) (xs : List Int) (S : Nat) (w : World) (hx : Row w S lv xs) (hS : S ≤ w.heap.size) (hl : xs.length ≤ 100000000) :
    Calls Try.prog 19 #[.int .i64 n, lv] w (NumPost (wideI n xs) (wideB n xs) w) := by
  have h1 := sp_FamilyIn n lv xs S w hx (by omega)
  obtain ⟨a, cap, rfl, ha⟩ := id hx
  unfold wideI
  rcases (by cases famB n xs <;> simp : famB n xs = true ∨ famB n xs = false) with f1 | f1
  · rw [f1] at h1
    have hW : wideB n xs = decide (xs.length ≤ 14) := by unfold wideB; rw [f1, Bool.true_and]
    have hAs := famB_asc f1
    have hzz := famB_lt f1
    rw [hW]
    replace h1 := Lib.hid h1
    replace f1 := Lib.hid f1
    replace hW := Lib.hid hW
    by_cases h14 : xs.length ≤ 14
    · rw [decide_eq_true h14, if_pos rfl]
      have hgt : ¬ ((14 : Int) < (xs.length : Nat)) := by omega
      have hend := bst_wI hAs hzz
      obtain ⟨N, hN⟩ : ∃ N : Nat, 2 ^ xs.length = N := ⟨_, rfl⟩
      have hNl : N ≤ 16384 := by
        have : 2 ^ xs.length ≤ 2 ^ 14 := Nat.pow_le_pow_right (by omega) h14
        rw [← hN]; simpa using this
      have hNi : (2 : Int) ^ xs.length = (N : Nat) := by rw [← hN]; simp
      have hw64 : wrap64 (2 ^ xs.length) = (N : Int) := by
        rw [hNi]
        unfold wrap64
        omega
      rw [hN] at hend
      have l64 : (xs.length : Int) < 64 := by omega
      have hanti := Lib.hid (fun (m : Nat) (v : Value) (S : Nat) (W : World) (h : Row W S v (pick m xs)) => anti_at v (pick m xs) S W h (asc_sub (pick_sub xs m) hAs) (fun z hz => hzz z ((pick_sub xs m).subset hz)))
      replace ha := Lib.hid ha
      replace hzz := Lib.hid hzz
      replace hAs := Lib.hid hAs
      replace hend := Lib.hid hend
      replace hN := Lib.hid hN
      replace hNi := Lib.hid hNi
      clear hx
      go_enter Try.func19, Try.ntmps19
      go_wp2_with fail
      refine h1.out.mono ?_
      rintro e w1 ⟨rfl, q, rfl⟩
      go_wp2_with fail
      go_loopw [6, 7] (fun o s wr => ∃ m : Nat, m ≤ N ∧ s = .int .i64 (m : Nat) ∧ o = .int .i64 (bst xs antiB m : Nat) ∧ Hid (Below w.heap.size w wr)) (fun _ s _ => N - (intOf s).toNat)
      case atStart => exact ⟨0, by omega, rfl, rfl, Lib.hid (below_drewN (Below.refl _ w) q)⟩
      case round =>
        obtain ⟨m, hm, rfl, rfl, hbel⟩ := hrel
        have hsz := hbel.out.size
        have hbl := bst_len xs antiB m
        obtain ⟨bm, hbm⟩ : ∃ bm, bst xs antiB m = bm := ⟨_, rfl⟩
        rw [hbm] at hbl ⊢
        by_cases hlt : m < N
        · have m1 : (0 : Int) ≤ (m : Int) := by omega
          have m2 : (m : Int) < (N : Nat) := by omega
          obtain ⟨W0, rfl⟩ : ∃ W0, W0 = wr := ⟨_, rfl⟩
          have hL0 := Lib.hid (OwnL.lit W0 (B := w.heap.size) hsz)
          have hB0 := Lib.hid (hbel.out.alloc hsz (.cells #[] 3))
          replace hbm := Lib.hid hbm
          go_wp2_with fail
          obtain ⟨W2, hW2⟩ : ∃ W2, W0.alloc (.cells #[] 3) = W2 := ⟨_, rfl⟩
          rw [hW2] at hL0 hB0 ⊢
          rw [hw64]
          go_loopw [8, 9] (fun v i wq => ∃ k : Nat, k ≤ xs.length ∧ i = .int .i64 (k : Nat) ∧ Hid (OwnL wq w.heap.size v (pick m (xs.take k))) ∧ Hid (Below w.heap.size w wq)) (fun _ i _ => xs.length - (intOf i).toNat)
          case atStart => exact ⟨0, by omega, rfl, by rw [List.take_zero, pick_nil]; exact hL0, hB0⟩
          case round =>
            obtain ⟨k, hk, rfl, hown, hbq⟩ := hrel
            have hqz := hbq.out.size
            by_cases hlk : k < xs.length
            · obtain ⟨b1, o1, rfl, s1, c1⟩ := ha.out (by omega)
              have k1 : (0 : Int) ≤ (k : Int) := by omega
              have k2 : (k : Int) < (xs.length : Nat) := by omega
              have e1 : wr.cell? ⟨b1, o1 + k, none⟩ = some (.int .i64 (xs.getD k 0)) := (hbq.out.cell (p := ⟨b1, o1 + k, none⟩) (show b1 < w.heap.size by omega)).trans (c1 k hlk)
              obtain ⟨x, hx⟩ : ∃ x, xs.getD k 0 = x := ⟨_, rfl⟩
              have hst := pick_snoc x (xs.take k) m
              rw [← hx, ← take_snoc hlk, hx, List.length_take, Nat.min_eq_left (by omega)] at hst
              have hpl := pick_len m (xs.take k)
              rw [List.length_take] at hpl
              have hhas := fun W => l1has_big m k W (by omega) (by omega)
              obtain ⟨ys, hys⟩ : ∃ ys, pick m (xs.take k) = ys := ⟨_, rfl⟩
              rw [hys] at hown hst hpl
              obtain ⟨bb, hbb⟩ : ∃ bb, m.testBit k = bb := ⟨_, rfl⟩
              rw [hbb] at hhas hst
              rw [hx] at e1
              obtain ⟨a', c', rfl⟩ := hown.out.form
              replace hhas := Lib.hid hhas
              replace hys := Lib.hid hys
              replace hbb := Lib.hid hbb
              replace hx := Lib.hid hx
              clear c1
              rcases (by cases bb <;> simp : bb = true ∨ bb = false) with rfl | rfl
              · rw [if_pos rfl] at hst
                have hlen : ys.length ≤ 1073741824 := by omega
                have hB1 : w.heap.size ≤ (wr.alloc (.cells #[.int .i64 x] 3)).heap.size := by rw [World.size_alloc]; omega
                replace hst := Lib.hid hst
                go_wp2_with (first | (go_at_call 49; refine (hhas.out _).mono ?_; rintro e w' ⟨rfl, rfl⟩) | (at_builtin; refine app_int rfl _ _ rfl w.heap.size _ ys rfl (hown.out.alloc _) x wr.heap.size rfl (cell_new _ _ _) hlen hB1 ?_; intro v' w1 hown1 hb1))
                rw [← hst.out] at hown1
                replace hown1 := Lib.hid hown1
                have hb2 := Lib.hid ((hbq.out.alloc hqz _).trans hb1)
                go_roundw
                case rel => exact ⟨k + 1, by omega, by first | rfl | go_num, hown1, hb2⟩
                case measure => simp [intOf]; omega
              · rw [if_neg (by simp), List.append_nil] at hst
                have hown1 := Lib.hid (show OwnL wr w.heap.size (.slice a' ys.length c') (pick m (xs.take (k + 1))) from by rw [hst]; exact hown.out)
                replace hst := Lib.hid hst
                go_wp2_with (first | (go_at_call 49; refine (hhas.out _).mono ?_; rintro e w' ⟨rfl, rfl⟩))
                go_roundw
                case rel => exact ⟨k + 1, by omega, by first | rfl | go_num, hown1, hbq⟩
                case measure => simp [intOf]; omega
            · obtain rfl : k = xs.length := by omega
              have hown' := hown.out
              rw [List.take_length] at hown'
              have hpl := pick_len m xs
              have hrow := hown'.own.row
              have hcall := hanti.out m _ _ wr hrow
              have hy := bst_yes (xs := xs) (A := antiB) (m := m)
              have hs := bst_small (xs := xs) (A := antiB) (m := m)
              have hn := bst_no (xs := xs) (A := antiB) (m := m)
              rw [hbm.out] at hy hs hn
              obtain ⟨ys, hys⟩ : ∃ ys, pick m xs = ys := ⟨_, rfl⟩
              rw [hys] at hown' hpl hrow hcall hy hs hn
              obtain ⟨a', c', rfl⟩ := hown'.form
              replace hys := Lib.hid hys
              clear hown hrow hown'
              by_cases hgt2 : bm < ys.length
              · have hi1 : (bm : Int) < (ys.length : Nat) := by omega
                obtain ⟨bb, hbb⟩ : ∃ bb, antiB ys = bb := ⟨_, rfl⟩
                rw [hbb] at hcall
                replace hcall := Lib.hid hcall
                rcases (by cases bb <;> simp : bb = true ∨ bb = false) with rfl | rfl
                · have hv := Lib.hid (hy hgt2 hbb)
                  replace hbb := Lib.hid hbb
                  clear hy hs hn
                  go_wp2_with fail
                  refine hcall.out.mono ?_
                  rintro e w3 ⟨rfl, q3, rfl⟩
                  go_wp2_with fail
                  go_roundw
                  case rel => exact ⟨m + 1, by omega, by first | rfl | go_num, by rw [hv.out], Lib.hid (below_drewN hbq.out q3)⟩
                  case measure => simp [intOf]; omega
                · have hv := Lib.hid (hn hbb)
                  replace hbb := Lib.hid hbb
                  clear hy hs hn
                  go_wp2_with fail
                  refine hcall.out.mono ?_
                  rintro e w3 ⟨rfl, q3, rfl⟩
                  go_wp2_with fail
                  go_roundw
                  case rel => exact ⟨m + 1, by omega, by first | rfl | go_num, by rw [hv.out], Lib.hid (below_drewN hbq.out q3)⟩
                  case measure => simp [intOf]; omega
              · have hi1 : ¬ ((bm : Int) < (ys.length : Nat)) := by omega
                have hv := Lib.hid (hs hgt2)
                clear hy hs hn hcall
                go_wp2_with fail
                go_roundw
                case rel => exact ⟨m + 1, by omega, by first | rfl | go_num, by rw [hv.out], hbq⟩
                case measure => simp [intOf]; omega
        · obtain rfl : m = N := by omega
          have hv := Lib.hid (show bm = wI xs by rw [← hbm]; exact hend.out)
          go_wp2_with fail
          go_ret2
          exact ⟨by rw [← hv.out]; rfl, hbel.out⟩
    · rw [decide_eq_false h14, if_neg (by simp)]
      have hgt : (14 : Int) < (xs.length : Nat) := by omega
      clear hx ha hAs hzz
      go_enter Try.func19, Try.ntmps19
      go_wp2_with fail
      refine h1.out.mono ?_
      rintro e w1 ⟨rfl, q, rfl⟩
      go_wp2_with fail
      go_ret2
      exact ⟨rfl, below_drewN (Below.refl _ _) q⟩
  · rw [f1] at h1
    have hW : wideB n xs = false := by unfold wideB; rw [f1, Bool.false_and]
    rw [hW, if_neg (by simp)]
    replace h1 := Lib.hid h1
    replace f1 := Lib.hid f1
    replace hW := Lib.hid hW
    clear hx ha
    go_enter Try.func19, Try.ntmps19
    go_wp2_with fail
    refine h1.out.mono ?_
    rintro e w1 ⟨rfl, q, rfl⟩
    go_wp2_with fail
    go_ret2
    exact ⟨rfl, below_drewN (Below.refl _ _) q⟩
end Go.Proofs.Ytgkbaenjniapiaa
