/- Skew pairs: plain mathematics, the program, the model, the law. -/
import Derived.Test.YtaljnnjlhmlcoaaIs2
import Derived.Test.YtaljnnjlhmlcoaaLawTwo
namespace Go.Proofs.Ytaljnnjlhmlcoaa
open Go.ChangeShapes Go.WideShapes Go.ChangeAt Go.RowKit Go.Proofs

/-- a first set against the second ones up to k: it meets each but the i-th. -/
def RowTo (x : Int) (zs : List Int) (i k : Nat) : Prop := ∀ j, j < k → meetB x (zs.getD j 0) = !decide (i = j)
def SkTo (xs zs : List Int) (k : Nat) : Prop := ∀ i, i < k → RowTo (xs.getD i 0) zs i zs.length
theorem row_step {x z : Int} {zs : List Int} {i k : Nat} (h : RowTo x zs i k) (hz : zs.getD k 0 = z) (hv : meetB x z = !decide (i = k)) : RowTo x zs i (k + 1) := fun j hj => by
  by_cases e : j = k
  · subst e; rw [hz]; exact hv
  · exact h j (by omega)
theorem sk_step {x : Int} {xs zs : List Int} {k : Nat} (h : SkTo xs zs k) (hx : xs.getD k 0 = x) (hr : RowTo x zs k zs.length) : SkTo xs zs (k + 1) := fun i hi => by
  by_cases e : i = k
  · subst e; rw [hx]; exact hr
  · exact h i (by omega)
noncomputable def skB (xs zs : List Int) : Bool := @decide (SkTo xs zs xs.length) (Classical.propDecidable _)
theorem skB_yes {xs zs : List Int} (h : SkTo xs zs xs.length) : skB xs zs = true := @decide_eq_true _ (Classical.propDecidable _) h
theorem skB_out {xs zs : List Int} (h : skB xs zs = true) : SkTo xs zs xs.length := @of_decide_eq_true _ (Classical.propDecidable _) h
theorem skB_no {xs zs : List Int} {i j : Nat} {x z : Int} (hi : i < xs.length) (hj : j < zs.length) (hx : xs.getD i 0 = x) (hz : zs.getD j 0 = z) (hv : meetB x z = decide (i = j)) : skB xs zs = false := by
  refine @decide_eq_false _ (Classical.propDecidable _) fun h => ?_
  have := h i hi j hj
  rw [hx, hz, hv] at this
  cases h2 : decide (i = j) <;> simp [h2] at this
/-- what PairsSkew says. -/
noncomputable def skwB (n : Int) (xs zs : List Int) : Bool := ptsB n && decide (xs.length = zs.length) && allB n xs && allB n zs && skB xs zs
theorem int_same (k : Nat) : ((k : Int) == (k : Int)) = true := by simp
theorem int_other {k m : Nat} (h : k ≠ m) : ((k : Int) == (m : Int)) = false := by simp; omega
set_option maxHeartbeats 2000000 in
theorem skew_at (lv lu : Value) (xs zs : List Int) (S : Nat) (w : World) (hx : Row w S lv xs) (hy : Row w S lu zs) (hl : xs.length ≤ 100000000) (hl2 : zs.length ≤ 100000000) (hz : ∀ z ∈ xs, 0 ≤ z ∧ z < 256) (hz2 : ∀ z ∈ zs, 0 ≤ z ∧ z < 256) :
    Calls Try.prog 41 #[lv, lu] w fun e w' => e = .returned (.bool (skB xs zs)) ∧ w = w' := by
  obtain ⟨a, cap, rfl, ha⟩ := id hx
  obtain ⟨b, cb, rfl, hb0⟩ := id hy
  replace ha := Lib.hid ha
  replace hb0 := Lib.hid hb0
  replace hz := Lib.hid hz
  replace hz2 := Lib.hid hz2
  clear hx hy
  go_enter Try.func41, Try.ntmps41
  go_wp2_with fail
  go_loopw [11] (fun s wr => ∃ k : Nat, k ≤ xs.length ∧ s = .int .i64 k ∧ Hid (SkTo xs zs k) ∧ wr = w) (fun s _ => xs.length - (intOf s).toNat)
  case atStart => exact ⟨0, by omega, rfl, Lib.hid (fun i hi => by omega), rfl⟩
  case round =>
    obtain ⟨k, hk, rfl, hn, rfl⟩ := hrel
    by_cases hlt : k < xs.length
    · obtain ⟨b1, o1, rfl, t1, c1⟩ := ha.out (by omega)
      have k1 : (0 : Int) ≤ (k : Int) := by omega
      have k2 : (k : Int) < (xs.length : Nat) := by omega
      have e1 := c1 k hlt
      obtain ⟨x, hx0⟩ : ∃ x, xs.getD k 0 = x := ⟨_, rfl⟩
      obtain ⟨z1, z2⟩ := hz.out x (by rw [← hx0]; exact getD_mem hlt)
      rw [hx0] at e1
      replace c1 := Lib.hid c1
      replace hx0 := Lib.hid hx0
      go_wp2_with fail
      go_loopw [18] (fun j wq => ∃ m : Nat, m ≤ zs.length ∧ j = .int .i64 m ∧ Hid (RowTo x zs k m) ∧ wq = wr) (fun j _ => zs.length - (intOf j).toNat)
      case atStart => exact ⟨0, by omega, rfl, Lib.hid (fun i hi => by omega), rfl⟩
      case round =>
        obtain ⟨m, hm, rfl, hc, rfl⟩ := hrel
        by_cases hlm : m < zs.length
        · obtain ⟨b2, o2, rfl, t2, c2⟩ := hb0.out (by omega)
          have m1 : (0 : Int) ≤ (m : Int) := by omega
          have m2 : (m : Int) < (zs.length : Nat) := by omega
          have e2 := c2 m hlm
          obtain ⟨z, hz0⟩ : ∃ z, zs.getD m 0 = z := ⟨_, rfl⟩
          rw [hz0] at e2
          obtain ⟨u1, u2⟩ := hz2.out z (by rw [← hz0]; exact getD_mem hlm)
          have hme := fun W => set_meets x z z1 z2 u1 u2 W
          have hst := fun hv => row_step hc.out hz0 hv
          have hno := fun hv => skB_no hlt hlm hx0.out hz0 hv
          replace hz0 := Lib.hid hz0
          clear c2
          obtain ⟨b, hb⟩ : ∃ b, meetB x z = b := ⟨_, rfl⟩
          rw [hb] at hme
          by_cases hkm : k = m
          · have hd : decide (k = m) = true := decide_eq_true hkm
            rw [hd, hb] at hst hno
            have hkk : ((k : Int) == (m : Int)) = true := by rw [hkm]; exact int_same m
            have hkq : (k : Int) = (m : Int) := by omega
            cases b with
            | true =>
              have hB := Lib.hid (hno rfl).symm
              replace hme := Lib.hid hme
              replace hst := Lib.hid hst
              replace hno := Lib.hid hno
              replace hb := Lib.hid hb
              replace hd := Lib.hid hd
              clear hkm hkq
              go_wp2_with (go_at_call 63; refine (hme.out _).mono ?_; rintro e w' ⟨rfl, rfl⟩)
              go_ret
              exact ⟨ret_bool hB.out, rfl⟩
            | false =>
              have hft := Lib.hid (hst rfl)
              replace hme := Lib.hid hme
              replace hst := Lib.hid hst
              replace hno := Lib.hid hno
              replace hb := Lib.hid hb
              replace hd := Lib.hid hd
              clear hkm hkq
              go_wp2_with (go_at_call 63; refine (hme.out _).mono ?_; rintro e w' ⟨rfl, rfl⟩)
              go_roundw
              case rel => exact ⟨m + 1, by omega, by go_num, hft, by first | trivial | rfl⟩
              case measure => simp [intOf]; omega
          · have hd : decide (k = m) = false := decide_eq_false hkm
            rw [hd, hb] at hst hno
            have hkk : ((k : Int) == (m : Int)) = false := int_other hkm
            have hkq : ¬ ((k : Int) = (m : Int)) := by omega
            cases b with
            | false =>
              have hB := Lib.hid (hno rfl).symm
              replace hme := Lib.hid hme
              replace hst := Lib.hid hst
              replace hno := Lib.hid hno
              replace hb := Lib.hid hb
              replace hd := Lib.hid hd
              clear hkq
              go_wp2_with (go_at_call 63; refine (hme.out _).mono ?_; rintro e w' ⟨rfl, rfl⟩)
              go_ret
              exact ⟨ret_bool hB.out, rfl⟩
            | true =>
              have hft := Lib.hid (hst rfl)
              replace hme := Lib.hid hme
              replace hst := Lib.hid hst
              replace hno := Lib.hid hno
              replace hb := Lib.hid hb
              replace hd := Lib.hid hd
              clear hkq
              go_wp2_with (go_at_call 63; refine (hme.out _).mono ?_; rintro e w' ⟨rfl, rfl⟩)
              go_roundw
              case rel => exact ⟨m + 1, by omega, by go_num, hft, by first | trivial | rfl⟩
              case measure => simp [intOf]; omega
        · obtain rfl : m = zs.length := by omega
          have hst2 := Lib.hid (sk_step hn.out hx0.out hc.out)
          go_wp2_with fail
          go_roundw
          case rel => exact ⟨k + 1, by omega, by go_num, hst2, by first | trivial | rfl⟩
          case measure => simp [intOf]; omega
    · obtain rfl : k = xs.length := by omega
      have hB := Lib.hid (skB_yes hn.out).symm
      go_wp2_with fail
      go_ret
      exact ⟨ret_bool hB.out, rfl⟩
theorem col_parts (n : Int) (xs : List Int) : colB n xs = (ptsB n && allB n xs) := rfl
theorem col_z {n : Int} {xs : List Int} (h : colB n xs = true) : ∀ z ∈ xs, 0 ≤ z ∧ z < 256 := fun z hz => setB_lt ((colB_lt h).2.2 z hz)
theorem skw_eq (n : Int) (xs zs : List Int) : skwB n xs zs = (colB n xs && colB n zs && decide (xs.length = zs.length) && skB xs zs) := by
  unfold skwB
  rw [col_parts, col_parts]
  cases ptsB n <;> cases allB n xs <;> cases allB n zs <;> cases decide (xs.length = zs.length) <;> cases skB xs zs <;> rfl
set_option maxHeartbeats 4000000 in
theorem im_PairsSkew (n : Int) (lv lu : Value) (xs zs : List Int) (S : Nat) (w : World) (hx : Row w S lv xs) (hy : Row w S lu zs) (hS : S ≤ w.heap.size) (hl : xs.length ≤ 100000000) (hl2 : zs.length ≤ 100000000) :
    Calls Try.prog 17 #[.int .i64 n, lv, lu] w fun e w' => e = .returned (.bool (skwB n xs zs)) ∧ Below w.heap.size w w' := by
  have hr := Lib.hid (col_any n lv xs S w hx hS hl)
  rw [skw_eq]
  obtain ⟨la, lc, rfl, _⟩ := id hx
  obtain ⟨lb, ld, rfl, _⟩ := id hy
  have hR1 := Lib.hid hx
  have hR2 := Lib.hid hy
  clear hx hy
  go_enter Try.func17, Try.ntmps17
  go_wp2_with fail
  refine hr.out.mono ?_
  rintro e w1 (⟨hf, v, rfl, hS1, hb1⟩ | ⟨hf, rfl, hb1⟩)
  · obtain ⟨a', c', rfl⟩ := hS1.form
    have hz1 := hb1.size
    have hb2 := hb1.alloc hz1 (.cells #[.slice a' (sortL xs).length c', (Value.func (.func 70) #[] #[])] 49)
    have hr2 := Lib.hid (col_any n _ zs _ _ (hR2.out.below hb2 hS) (by simp; omega) hl2)
    replace hb2 := Lib.hid hb2
    replace hf := Lib.hid hf
    clear hr hS1 hb1
    go_wp2_with fail
    refine hr2.out.mono ?_
    rintro e w2 (⟨hf2, v, rfl, hS3, hb3⟩ | ⟨hf2, rfl, hb3⟩)
    · obtain ⟨a3, c3, rfl⟩ := hS3.form
      have hz3 := hb3.size
      rw [World.size_alloc] at hb3 hz3
      have hb4 := hb2.out.trans (hb3.mono (show w.heap.size ≤ w1.heap.size + 1 by omega))
      have hb5 := hb4.alloc (by omega) (.cells #[.slice a3 (sortL zs).length c3, (Value.func (.func 70) #[] #[])] 49)
      have hsk := Lib.hid (skew_at _ _ xs zs S _ (hR1.out.below hb5 hS) (hR2.out.below hb5 hS) hl hl2 (col_z hf.out) (col_z hf2))
      obtain ⟨bb, hbb⟩ : ∃ bb, skB xs zs = bb := ⟨_, rfl⟩
      rw [hbb] at hsk
      replace hbb := Lib.hid hbb
      replace hb5 := Lib.hid hb5
      by_cases hle : xs.length = zs.length
      · have hB := Lib.hid (show bb = (colB n xs && colB n zs && decide (xs.length = zs.length) && skB xs zs) by rw [hf.out, hf2, hbb.out, decide_eq_true hle]; simp)
        have hle2 : ((xs.length : Nat) : Int) = ((zs.length : Nat) : Int) := by omega
        replace hle := Lib.hid hle
        replace hf2 := Lib.hid hf2
        clear hr2 hS3 hb3 hb4
        go_wp2_with fail
        refine hsk.out.mono ?_
        rintro e w4 ⟨rfl, rfl⟩
        go_wp2_with fail
        go_ret
        exact ⟨ret_bool hB.out, hb5.out⟩
      · have hB := Lib.hid (show false = (colB n xs && colB n zs && decide (xs.length = zs.length) && skB xs zs) by rw [decide_eq_false hle]; simp)
        have hle2 : ¬ (((xs.length : Nat) : Int) = ((zs.length : Nat) : Int)) := by omega
        have hle3 : (((xs.length : Nat) : Int) == ((zs.length : Nat) : Int)) = false := by simp; omega
        replace hf2 := Lib.hid hf2
        clear hr2 hS3 hb3 hb4
        go_wp2_with fail
        go_ret
        exact ⟨ret_bool hB.out, hb5.out⟩
    · have hz3 := hb3.size
      rw [World.size_alloc] at hb3 hz3
      have hB := Lib.hid (show false = (colB n xs && colB n zs && decide (xs.length = zs.length) && skB xs zs) by rw [hf2]; simp)
      replace hb3 := Lib.hid (hb2.out.trans (hb3.mono (show w.heap.size ≤ w1.heap.size + 1 by omega)))
      clear hr2 hf2
      go_wp2_with fail
      go_ret
      exact ⟨ret_bool hB.out, hb3.out.alloc hb3.out.size _⟩
  · have hz1 := hb1.size
    have hb2 := hb1.alloc hz1 (.cells #[.slice none 0 0, .nilFunc] 49)
    have hr2 := Lib.hid (col_any n _ zs _ _ (hR2.out.below hb2 hS) (by simp; omega) hl2)
    have hB := Lib.hid (show false = (colB n xs && colB n zs && decide (xs.length = zs.length) && skB xs zs) by rw [hf]; simp)
    replace hb2 := Lib.hid hb2
    clear hr hb1 hR2 hf
    go_wp2_with fail
    refine hr2.out.mono ?_
    rintro e w2 (⟨hf2, v, rfl, hS3, hb3⟩ | ⟨hf2, rfl, hb3⟩)
    · obtain ⟨a3, c3, rfl⟩ := hS3.form
      have hz3 := hb3.size
      rw [World.size_alloc] at hb3 hz3
      replace hb3 := Lib.hid (hb2.out.trans (hb3.mono (show w.heap.size ≤ w1.heap.size + 1 by omega)))
      clear hr2 hf2 hS3
      go_wp2_with fail
      go_ret
      exact ⟨ret_bool hB.out, hb3.out.alloc hb3.out.size _⟩
    · have hz3 := hb3.size
      rw [World.size_alloc] at hb3 hz3
      replace hb3 := Lib.hid (hb2.out.trans (hb3.mono (show w.heap.size ≤ w1.heap.size + 1 by omega)))
      clear hr2 hf2
      go_wp2_with fail
      go_ret
      exact ⟨ret_bool hB.out, hb3.out.alloc hb3.out.size _⟩
theorem set_in_at (n s : Int) (W : World) : Calls Try.prog 42 #[.int .i64 n, .int .i64 s] W fun e w' => e = .returned (.bool (setB n s)) ∧ W = w' := by
  rcases set_in_cases n s with h | h
  · rw [h]; exact sp_set_in_yes n s h W
  · rw [h]; exact sp_set_in_no n s h W
theorem all_fail {xs : List Int} {k : Nat} {x : Int} {p : Int → Bool} (hk : k < xs.length) (hx : xs.getD k 0 = x) (h : p x = false) : xs.all p = false := by
  rw [List.all_eq_false]
  exact ⟨x, by rw [← hx]; exact getD_mem hk, by rw [h]; simp⟩
set_option maxHeartbeats 4000000 in
theorem sp_PairsSkew (n : Int) (lv lu : Value) (xs zs : List Int) (S : Nat) (w : World) (hx : Row w S lv xs) (hy : Row w S lu zs) (_hS : S ≤ w.heap.size) (_hl : xs.length ≤ 100000000) (hl2 : zs.length ≤ 100000000) :
    Calls Try.prog 18 #[.int .i64 n, lv, lu] w fun e w' => e = .returned (.bool (skwB n xs zs)) ∧ ∃ q, w' = w.drewN q := by
  have hpp := fun W => l1pts n W
  obtain ⟨a, cap, rfl, ha⟩ := id hx
  obtain ⟨b, cb, rfl, hb0⟩ := id hy
  replace ha := Lib.hid ha
  replace hb0 := Lib.hid hb0
  clear hx hy
  rcases (by cases ptsB n <;> simp : ptsB n = true ∨ ptsB n = false) with hp | hp
  case inr =>
    have hB := Lib.hid (show false = skwB n xs zs by unfold skwB; rw [hp]; simp)
    rw [hp] at hpp
    replace hpp := Lib.hid hpp
    replace hp := Lib.hid hp
    go_enter Try.func18, Try.ntmps18
    go_wp2_with (go_at_call 33; refine (hpp.out _).mono ?_; rintro e w' ⟨rfl, rfl⟩)
    go_ret
    exact ⟨ret_bool hB.out, 0, rfl⟩
  rw [hp] at hpp
  replace hpp := Lib.hid hpp
  by_cases hle : xs.length = zs.length
  case neg =>
    have hB := Lib.hid (show false = skwB n xs zs by unfold skwB; rw [decide_eq_false hle]; simp)
    have hle2 : ¬ (((xs.length : Nat) : Int) = ((zs.length : Nat) : Int)) := by omega
    have hle3 : (((xs.length : Nat) : Int) != ((zs.length : Nat) : Int)) = true := by simp; omega
    replace hp := Lib.hid hp
    go_enter Try.func18, Try.ntmps18
    go_wp2_with (go_at_call 33; refine (hpp.out _).mono ?_; rintro e w' ⟨rfl, rfl⟩)
    go_ret
    exact ⟨ret_bool hB.out, 0, rfl⟩
  have hle2 : ((xs.length : Nat) : Int) = ((zs.length : Nat) : Int) := by omega
  have hle3 : (((xs.length : Nat) : Int) != ((zs.length : Nat) : Int)) = false := by simp; omega
  have hEq := show skwB n xs zs = (allB n xs && allB n zs && skB xs zs) by unfold skwB; rw [hp, decide_eq_true hle]; simp
  replace hEq := Lib.hid hEq
  have hle' := Lib.hid hle
  replace hp := Lib.hid hp
  clear hle
  go_enter Try.func18, Try.ntmps18
  go_wp2_with (go_at_call 33; refine (hpp.out _).mono ?_; rintro e w' ⟨rfl, rfl⟩)
  go_loopw [7] (fun s wr => ∃ k : Nat, k ≤ xs.length ∧ s = .int .i64 k ∧ Hid ((xs.take k).all (setB n) = true) ∧ Hid ((zs.take k).all (setB n) = true) ∧ w = wr) (fun s _ => xs.length - (intOf s).toNat)
  case atStart => exact ⟨0, by omega, rfl, Lib.hid rfl, Lib.hid rfl, rfl⟩
  case round =>
    obtain ⟨k, hk, rfl, hn, hn2, rfl⟩ := hrel
    by_cases hlt : k < xs.length
    · have hlt2 : k < zs.length := by have := hle'.out; omega
      obtain ⟨b1, o1, rfl, t1, c1⟩ := ha.out (by omega)
      obtain ⟨b2, o2, rfl, t2, c2⟩ := hb0.out (by omega)
      have k1 : (0 : Int) ≤ (k : Int) := by omega
      have k2 : (k : Int) < (xs.length : Nat) := by omega
      have k3 : (k : Int) < (zs.length : Nat) := by omega
      have e1 := c1 k hlt
      have e2 := c2 k hlt2
      obtain ⟨x, hx0⟩ : ∃ x, xs.getD k 0 = x := ⟨_, rfl⟩
      obtain ⟨z, hz0⟩ : ∃ z, zs.getD k 0 = z := ⟨_, rfl⟩
      rw [hx0] at e1
      rw [hz0] at e2
      have hs1 := fun W => set_in_at n x W
      have hs2 := fun W => set_in_at n z W
      rcases set_in_cases n x with f1 | f1
      · have g1 := all_take hlt hx0 (setB n)
        rw [hn.out, f1, Bool.true_and] at g1
        rw [f1] at hs1
        rcases set_in_cases n z with f2 | f2
        · have g2 := all_take hlt2 hz0 (setB n)
          rw [hn2.out, f2, Bool.true_and] at g2
          rw [f2] at hs2
          replace g1 := Lib.hid g1
          replace g2 := Lib.hid g2
          replace f1 := Lib.hid f1
          replace f2 := Lib.hid f2
          replace hs1 := Lib.hid hs1
          replace hs2 := Lib.hid hs2
          replace hx0 := Lib.hid hx0
          replace hz0 := Lib.hid hz0
          clear c1 c2
          go_wp2_with (first | (go_at_call 42; (with_reducible refine (hs1.out _).mono ?_); rintro e w' ⟨rfl, rfl⟩) | (go_at_call 42; (with_reducible refine (hs2.out _).mono ?_); rintro e w' ⟨rfl, rfl⟩))
          go_roundw
          case rel => exact ⟨k + 1, by omega, by go_num, g1, g2, by first | trivial | rfl⟩
          case measure => simp [intOf]; omega
        · have hB := Lib.hid (show false = skwB n xs zs by rw [hEq.out, show allB n zs = false from all_fail hlt2 hz0 f2]; simp)
          rw [f2] at hs2
          replace g1 := Lib.hid g1
          replace f1 := Lib.hid f1
          replace f2 := Lib.hid f2
          replace hs1 := Lib.hid hs1
          replace hs2 := Lib.hid hs2
          replace hx0 := Lib.hid hx0
          replace hz0 := Lib.hid hz0
          clear c1 c2
          go_wp2_with (first | (go_at_call 42; (with_reducible refine (hs1.out _).mono ?_); rintro e w' ⟨rfl, rfl⟩) | (go_at_call 42; (with_reducible refine (hs2.out _).mono ?_); rintro e w' ⟨rfl, rfl⟩))
          go_ret
          exact ⟨ret_bool hB.out, 0, rfl⟩
      · have hB := Lib.hid (show false = skwB n xs zs by rw [hEq.out, show allB n xs = false from all_fail hlt hx0 f1]; simp)
        rw [f1] at hs1
        replace f1 := Lib.hid f1
        replace hs1 := Lib.hid hs1
        replace hs2 := Lib.hid hs2
        replace hx0 := Lib.hid hx0
        replace hz0 := Lib.hid hz0
        clear c1 c2
        go_wp2_with (go_at_call 42; refine (hs1.out _).mono ?_; rintro e w' ⟨rfl, rfl⟩)
        go_ret
        exact ⟨ret_bool hB.out, 0, rfl⟩
    · have hA1 : allB n xs = true := by
        have h := hn.out
        rw [List.take_of_length_le (by omega)] at h; exact h
      have hA2 : allB n zs = true := by
        have h := hn2.out
        rw [List.take_of_length_le (by have := hle'.out; omega)] at h; exact h
      have hEq2 := Lib.hid (show skwB n xs zs = skB xs zs by rw [hEq.out, hA1, hA2]; rfl)
      have hz := Lib.hid (show ∀ z ∈ xs, 0 ≤ z ∧ z < 256 from fun z hz => setB_lt (allB_yes hA1 z hz))
      have hz2 := Lib.hid (show ∀ z ∈ zs, 0 ≤ z ∧ z < 256 from fun z hz => setB_lt (allB_yes hA2 z hz))
      replace hA1 := Lib.hid hA1
      replace hA2 := Lib.hid hA2
      clear hn hn2
      go_wp2_with fail
      go_loopw [8] (fun s wq => ∃ i : Nat, i ≤ xs.length ∧ s = .int .i64 i ∧ Hid (SkTo xs zs i) ∧ Hid (∃ q, wq = w.drewN q)) (fun s _ => xs.length - (intOf s).toNat)
      case atStart => exact ⟨0, by omega, rfl, Lib.hid (fun i hi => by omega), Lib.hid ⟨0, rfl⟩⟩
      case round =>
        obtain ⟨i, hi, rfl, hn, hw⟩ := hrel
        by_cases hlt2 : i < xs.length
        · obtain ⟨b1, o1, rfl, t1, c1⟩ := ha.out (by omega)
          have k1 : (0 : Int) ≤ (i : Int) := by omega
          have k2 : (i : Int) < (xs.length : Nat) := by omega
          obtain ⟨x, hx0⟩ : ∃ x, xs.getD i 0 = x := ⟨_, rfl⟩
          obtain ⟨z1, z2⟩ := hz.out x (by rw [← hx0]; exact getD_mem hlt2)
          replace c1 := Lib.hid c1
          replace hx0 := Lib.hid hx0
          go_wp2_with fail
          go_loopw [9] (fun j wq => ∃ m : Nat, m ≤ zs.length ∧ j = .int .i64 m ∧ Hid (RowTo x zs i m) ∧ Hid (∃ q, wq = w.drewN q)) (fun j _ => zs.length - (intOf j).toNat)
          case atStart => exact ⟨0, by omega, rfl, Lib.hid (fun i hi => by omega), hw⟩
          case round =>
            obtain ⟨m, hm, rfl, hc, hw⟩ := hrel
            by_cases hlm : m < zs.length
            · obtain ⟨b2, o2, rfl, t2, c2⟩ := hb0.out (by omega)
              have m1 : (0 : Int) ≤ (m : Int) := by omega
              have m2 : (m : Int) < (zs.length : Nat) := by omega
              have hwd : ∀ p, Hid (∃ q, wr.drewN p = w.drewN q) := fun p => by
                obtain ⟨q, h⟩ := hw.out
                exact Lib.hid ⟨q + p, by rw [h]; exact World.drewN_drewN _ _ _⟩
              have e1 : wr.cell? ⟨b1, o1 + i, none⟩ = some (.int .i64 x) := by
                obtain ⟨q, h⟩ := hw.out
                rw [h, ← hx0.out]; exact c1.out i hlt2
              obtain ⟨z, hz0⟩ : ∃ z, zs.getD m 0 = z := ⟨_, rfl⟩
              have e2 : wr.cell? ⟨b2, o2 + m, none⟩ = some (.int .i64 z) := by
                obtain ⟨q, h⟩ := hw.out
                rw [h, ← hz0]; exact c2 m hlm
              obtain ⟨u1, u2⟩ := hz2.out z (by rw [← hz0]; exact getD_mem hlm)
              have hst := fun hv => row_step hc.out hz0 hv
              have hno := fun hv => skB_no hlt2 hlm hx0.out hz0 hv
              have hib := i64_andI z1 z2 u1 u2
              obtain ⟨d1, d2⟩ := andI_bd z z1 z2
              have hmd : meetB x z = (andI x z != 0) := rfl
              obtain ⟨d, hd⟩ : ∃ d, andI x z = d := ⟨_, rfl⟩
              rw [hd] at hib d1 d2 hmd
              rw [hmd] at hst hno
              replace hz0 := Lib.hid hz0
              replace hd := Lib.hid hd
              replace hmd := Lib.hid hmd
              clear c2 hw
              by_cases hkm : i = m
              · have hdd : decide (i = m) = true := decide_eq_true hkm
                rw [hdd] at hst hno
                have hkk : ((i : Int) == (m : Int)) = true := by rw [hkm]; exact int_same m
                by_cases h0 : d = 0
                · subst h0
                  have hft := Lib.hid (hst (by rfl))
                  replace hst := Lib.hid hst
                  replace hno := Lib.hid hno
                  replace hdd := Lib.hid hdd
                  clear hkm
                  go_wp2_with fail
                  go_quiet (fail)
                  go_wp2_with fail
                  go_roundw
                  case rel => exact ⟨m + 1, by omega, by go_num, hft, hwd _⟩
                  case measure => simp [intOf]; omega
                · have hd0 : (d == 0) = false := by simp [h0]
                  have hB := Lib.hid (show false = skwB n xs zs by rw [hEq2.out]; exact (hno (by simp [h0])).symm)
                  replace hst := Lib.hid hst
                  replace hno := Lib.hid hno
                  replace hdd := Lib.hid hdd
                  clear hkm
                  go_wp2_with fail
                  go_quiet (fail)
                  go_wp2_with fail
                  go_ret
                  exact ⟨ret_bool hB.out, (hwd _).out⟩
              · have hdd : decide (i = m) = false := decide_eq_false hkm
                rw [hdd] at hst hno
                have hkk : ((i : Int) == (m : Int)) = false := int_other hkm
                have hkq : ¬ ((i : Int) = (m : Int)) := by omega
                by_cases h0 : d = 0
                · subst h0
                  have hB := Lib.hid (show false = skwB n xs zs by rw [hEq2.out]; exact (hno (by rfl)).symm)
                  replace hst := Lib.hid hst
                  replace hno := Lib.hid hno
                  replace hdd := Lib.hid hdd
                  go_wp2_with fail
                  go_quiet (fail)
                  go_wp2_with fail
                  go_ret
                  exact ⟨ret_bool hB.out, (hwd _).out⟩
                · have hd0 : (d == 0) = false := by simp [h0]
                  have hft := Lib.hid (hst (by simp [h0]))
                  replace hst := Lib.hid hst
                  replace hno := Lib.hid hno
                  replace hdd := Lib.hid hdd
                  go_wp2_with fail
                  go_quiet (fail)
                  go_wp2_with fail
                  go_roundw
                  case rel => exact ⟨m + 1, by omega, by go_num, hft, hwd _⟩
                  case measure => simp [intOf]; omega
            · obtain rfl : m = zs.length := by omega
              have hst2 := Lib.hid (sk_step hn.out hx0.out hc.out)
              go_wp2_with fail
              go_roundw
              case rel => exact ⟨i + 1, by omega, by go_num, hst2, hw⟩
              case measure => simp [intOf]; omega
        · obtain rfl : i = xs.length := by omega
          have hB := Lib.hid (show true = skwB n xs zs by rw [hEq2.out]; exact (skB_yes hn.out).symm)
          go_wp2_with fail
          go_ret
          exact ⟨ret_bool hB.out, hw.out⟩
end Go.Proofs.Ytaljnnjlhmlcoaa
