/- The weight of skew pairs: the program, the model, the law. -/
import Derived.Test.YtfcegnnajpflmaaIs4
import Derived.Test.YtfcegnnajpflmaaCk6
namespace Go.Proofs.Ytfcegnnajpflmaa
open Go.ChangeShapes Go.WideShapes Go.ChangeAt Go.RowKit Go.Proofs

theorem cnt_apart {x z : Int} (h : ∀ p : Nat, hasB x p = true → hasB z p = false) : ∀ k, cntTo x k + cntTo z k ≤ k
  | 0 => by simp [cntTo]
  | k + 1 => by
    have ih := cnt_apart h k
    have h1 := h k
    unfold cntTo
    rcases (by cases hasB x (k : Nat) <;> simp : hasB x (k : Nat) = true ∨ hasB x (k : Nat) = false) with hx | hx
    · rw [h1 hx, hx]; simp; omega
    · rw [hx]
      rcases (by cases hasB z (k : Nat) <;> simp : hasB z (k : Nat) = true ∨ hasB z (k : Nat) = false) with hz | hz
      · rw [hz]; simp; omega
      · rw [hz]; simp; omega
theorem apart_has {x z : Int} (h : meetB x z = false) (p : Nat) (hx : hasB x p = true) : hasB z p = false := by
  unfold meetB at h
  have h2 : andI x z = 0 := by simpa using h
  unfold andI at h2
  have h3 : x.toNat &&& z.toNat = 0 := by omega
  have h4 : (x.toNat &&& z.toNat).testBit (p : Int).toNat = false := by rw [h3]; exact Nat.zero_testBit _
  rw [Nat.testBit_and] at h4
  unfold hasB at hx ⊢
  rw [hx, Bool.true_and] at h4
  exact h4
theorem cnt_sum {x z : Int} (h : meetB x z = false) : cntTo x 8 + cntTo z 8 ≤ 8 := cnt_apart (apart_has h) 8
theorem nodup_len {xs : List Int} (h : ∀ i j, i < j → j < xs.length → xs.getD i 0 ≠ xs.getD j 0) : ∀ k, k ≤ xs.length → (sortL (xs.take k)).length = k
  | 0, _ => rfl
  | k + 1, hk => by
    have ih := nodup_len h k (by omega)
    have hlt : k < xs.length := by omega
    rw [sortL_take hlt, ins_len (memB_mk0 fun hm => ?_), ih]
    obtain ⟨i, hi, e⟩ := List.mem_iff_getElem.1 (mem_sortL.1 hm)
    rw [List.length_take] at hi
    rw [List.getElem_take] at e
    refine h i k (by omega) hlt ?_
    rw [← e]
    simp [List.getD, show i < xs.length by omega]
theorem skw_parts {n : Int} {xs zs : List Int} (h : skwB n xs zs = true) : 1 ≤ n ∧ n ≤ 8 ∧ xs.length = zs.length ∧ (∀ z ∈ xs, 0 ≤ z ∧ z < 256) ∧ (∀ z ∈ zs, 0 ≤ z ∧ z < 256) ∧ SkTo xs zs xs.length := by
  unfold skwB at h
  simp only [Bool.and_eq_true] at h
  obtain ⟨⟨⟨⟨h1, h2⟩, h3⟩, h4⟩, h5⟩ := h
  obtain ⟨n1, n2⟩ := ptsB_yes h1
  exact ⟨n1, n2, of_decide_eq_true h2, fun z hz => setB_lt (allB_yes h3 z hz), fun z hz => setB_lt (allB_yes h4 z hz), skB_out h5⟩
theorem sk_pair {xs zs : List Int} {k : Nat} {x z : Int} (h : SkTo xs zs xs.length) (hl : xs.length = zs.length) (hk : k < xs.length) (hx : xs.getD k 0 = x) (hz : zs.getD k 0 = z) : meetB x z = false := by
  have := h k hk k (by omega)
  rw [hx, hz] at this
  simpa using this
theorem skew_len {n : Int} {xs zs : List Int} (h : skwB n xs zs = true) : xs.length ≤ 256 := by
  obtain ⟨_, _, hl, hz, _, hs⟩ := skw_parts h
  have h1 := nodup_len (xs := xs) (fun i j hij hj e => by
    have a := hs i (by omega) j (by omega)
    have b := hs j hj j (by omega)
    rw [e, b] at a
    simp at a
    omega) xs.length (Nat.le_refl _)
  rw [List.take_length] at h1
  have := len_small hz
  omega
/-- the weight of the first k pairs. -/
def pW (xs zs : List Int) : Nat → Nat
  | 0 => 0
  | k + 1 => pW xs zs k + 840 / chN (cntTo (xs.getD k 0) 8 + cntTo (zs.getD k 0) 8) (cntTo (xs.getD k 0) 8)
theorem pW_le (xs zs : List Int) : ∀ k, pW xs zs k ≤ 840 * k
  | 0 => by simp [pW]
  | k + 1 => by
    have ih := pW_le xs zs k
    have := Nat.div_le_self 840 (chN (cntTo (xs.getD k 0) 8 + cntTo (zs.getD k 0) 8) (cntTo (xs.getD k 0) 8))
    unfold pW; omega
/-- what PairsWeight says. -/
noncomputable def pwV (n : Int) (xs zs : List Int) : Int := if skwB n xs zs then ((pW xs zs xs.length : Nat) : Int) else 0
noncomputable def pwD (n : Int) (xs zs : List Int) : Int := if skwB n xs zs then 840 else 0
theorem ret_three {a b : Int} {c : Bool} {a' b' : Int} {c' : Bool} (h1 : a = a') (h2 : b = b') (h3 : c = c') : Ending.returned (.tuple #[.int .i64 a, .int .i64 b, .bool c]) = .returned (.tuple #[.int .i64 a', .int .i64 b', .bool c']) := by rw [h1, h2, h3]
set_option maxHeartbeats 4000000 in
theorem im_PairsWeight (n : Int) (lv lu : Value) (xs zs : List Int) (S : Nat) (w : World) (hx : Row w S lv xs) (hy : Row w S lu zs) (hS : S ≤ w.heap.size) (hl : xs.length ≤ 100000000) (hl2 : zs.length ≤ 100000000) :
    Calls Try.prog 14 #[.int .i64 n, lv, lu] w (PairPost (pwV n xs zs) (pwD n xs zs) (skwB n xs zs) w) := by
  have hr := im_PairsSkew n lv lu xs zs S w hx hy hS hl hl2
  obtain ⟨a, cap, rfl, ha⟩ := id hx
  obtain ⟨b, cb, rfl, hb0⟩ := id hy
  replace ha := Lib.hid ha
  replace hb0 := Lib.hid hb0
  clear hx hy
  rcases (by cases skwB n xs zs <;> simp : skwB n xs zs = true ∨ skwB n xs zs = false) with hf | hf
  · obtain ⟨n1, n2, hle, hz, hz2, hsk⟩ := skw_parts hf
    have hlen := skew_len hf
    have hV := Lib.hid (show ((pW xs zs xs.length : Nat) : Int) = pwV n xs zs by unfold pwV; rw [hf]; rfl)
    have hD := Lib.hid (show (840 : Int) = pwD n xs zs by unfold pwD; rw [hf]; rfl)
    rw [hf] at hr
    replace hf := Lib.hid hf.symm
    replace hr := Lib.hid hr
    replace hz := Lib.hid hz
    replace hz2 := Lib.hid hz2
    replace hsk := Lib.hid hsk
    have hle' := Lib.hid hle
    clear hle
    go_enter Try.func14, Try.ntmps14
    go_wp2_with fail
    refine hr.out.mono ?_
    rintro e w1 ⟨rfl, hb1⟩
    have hz1 := hb1.size
    obtain ⟨W3, hW3⟩ : ∃ W3, w1.alloc (.cells #[.int .i64 0, .int .i64 840] 45) = W3 := ⟨_, rfl⟩
    have hs3 : W3.heap.size = w1.heap.size + 1 := by rw [← hW3]; simp
    have hbw := Lib.hid (show Below w.heap.size w W3 by rw [← hW3]; exact hb1.alloc hz1 _)
    have hc3 := Lib.hid (show W3.heap[w1.heap.size]? = some (.cells #[.int .i64 0, .int .i64 840] 45 (0, 0)) by rw [← hW3]; exact heap_alloc_new w1 _)
    replace hW3 := Lib.hid hW3
    clear hb1 hr
    go_wp2_with fail
    rw [hW3.out]
    go_loopw [21] (fun i wr => ∃ k : Nat, k ≤ xs.length ∧ i = .int .i64 (k : Nat) ∧ Hid (wr.heap[w1.heap.size]? = some (.cells #[.int .i64 (pW xs zs k : Nat), .int .i64 840] 45 (0, 0))) ∧ Hid (Below w1.heap.size W3 wr)) (fun i _ => xs.length - (intOf i).toNat)
    case atStart => exact ⟨0, by omega, rfl, hc3, Lib.hid (Below.refl _ _)⟩
    case round =>
      obtain ⟨k, hk, rfl, hc, hbel⟩ := hrel
      have hsz := hbel.out.size
      by_cases hlt : k < xs.length
      · have hlt2 : k < zs.length := by have := hle'.out; omega
        obtain ⟨b1, o1, rfl, t1, c1⟩ := ha.out (by omega)
        obtain ⟨b2, o2, rfl, t2, c2⟩ := hb0.out (by omega)
        have k1 : (0 : Int) ≤ (k : Int) := by omega
        have k2 : (k : Int) < (xs.length : Nat) := by omega
        have k3 : (k : Int) < (zs.length : Nat) := by omega
        have hbb := hbw.out.trans (hbel.out.mono hz1)
        have e1 : wr.cell? ⟨b1, o1 + k, none⟩ = some (.int .i64 (xs.getD k 0)) := (hbb.cell (p := ⟨b1, o1 + k, none⟩) (show b1 < w.heap.size by omega)).trans (c1 k hlt)
        have e2 : wr.cell? ⟨b2, o2 + k, none⟩ = some (.int .i64 (zs.getD k 0)) := (hbb.cell (p := ⟨b2, o2 + k, none⟩) (show b2 < w.heap.size by omega)).trans (c2 k hlt2)
        obtain ⟨x, hx⟩ : ∃ x, xs.getD k 0 = x := ⟨_, rfl⟩
        obtain ⟨z, hzz⟩ : ∃ z, zs.getD k 0 = z := ⟨_, rfl⟩
        obtain ⟨x1, x2⟩ := hz.out x (by rw [← hx]; exact getD_mem hlt)
        obtain ⟨z1, z2⟩ := hz2.out z (by rw [← hzz]; exact getD_mem hlt2)
        have h8 := cnt_sum (sk_pair hsk.out hle'.out hlt hx hzz)
        have hst : pW xs zs (k + 1) = pW xs zs k + 840 / chN (cntTo (xs.getD k 0) 8 + cntTo (zs.getD k 0) 8) (cntTo (xs.getD k 0) 8) := rfl
        rw [hx, hzz] at hst
        rw [hx] at e1
        rw [hzz] at e2
        have hle1 := pW_le xs zs k
        have hsize := fun W => set_size x x1 x2 W
        have hsize2 := fun W => set_size z z1 z2 W
        rw [show cntI x = ((cntTo x 8 : Nat) : Int) from rfl] at hsize
        rw [show cntI z = ((cntTo z 8 : Nat) : Int) from rfl] at hsize2
        obtain ⟨c, hcn⟩ : ∃ c, cntTo x 8 = c := ⟨_, rfl⟩
        obtain ⟨d, hdn⟩ : ∃ d, cntTo z 8 = d := ⟨_, rfl⟩
        rw [hcn] at hst h8 hsize
        rw [hdn] at hst h8 hsize2
        have hsh := fun W => share_at (c + d) c W h8 (by omega)
        obtain ⟨_, g1, g2⟩ := ch_N (n := c + d) (k := c) h8 (by omega)
        obtain ⟨C, hC⟩ : ∃ C, chN (c + d) c = C := ⟨_, rfl⟩
        rw [hC] at hst hsh g1 g2
        rw [show ((c + d : Nat) : Int) = IntKind.i64.wrap ((c : Int) + (d : Int)) by rw [IntKind.wrap_i64]; omega] at hsh
        obtain ⟨t, ht⟩ : ∃ t, pW xs zs k = t := ⟨_, rfl⟩
        rw [ht] at hc hst hle1
        have hp0 := fun W => plus_at t 840 C W (by omega) (by omega) g1
        obtain ⟨u, hu⟩ : ∃ u, t + 840 / C = u := ⟨_, rfl⟩
        rw [hu] at hst hp0
        have hplus : ∀ W, Calls Try.prog 38 #[.agg #[.int .i64 (t : Nat), .int .i64 840], .agg #[.int .i64 1, .int .i64 (C : Nat)]] W (fun e w' => e = .returned (.agg #[.int .i64 (u : Nat), .int .i64 840]) ∧ Below W.heap.size W w') := fun W => hp0 W
        replace hplus := Lib.hid hplus
        clear hp0
        have hq1 : ∀ W, Calls Try.prog 37 #[.int .u64 x] W fun e w' => e = .returned (.int .i64 (c : Nat)) ∧ w' = W := fun W => (hsize W).mono fun _ _ h => ⟨h.1, h.2.symm⟩
        have hq2 : ∀ W, Calls Try.prog 37 #[.int .u64 z] W fun e w' => e = .returned (.int .i64 (d : Nat)) ∧ w' = W := fun W => (hsize2 W).mono fun _ _ h => ⟨h.1, h.2.symm⟩
        replace hq1 := Lib.hid hq1
        replace hq2 := Lib.hid hq2
        replace hsh := Lib.hid hsh
        replace hst := Lib.hid hst
        replace hu := Lib.hid hu
        replace ht := Lib.hid ht
        replace hcn := Lib.hid hcn
        replace hdn := Lib.hid hdn
        replace hC := Lib.hid hC
        replace hbb := Lib.hid hbb
        clear hx hzz c1 c2 hsize hsize2
        go_wp2_with fail
        go_quiet ((go_at_call 37; first | (with_reducible exact Calls.quiet_of_same (hq1.out _)) | (with_reducible exact Calls.quiet_of_same (hq2.out _))))
        go_wp2_with fail
        obtain ⟨W4, hW4⟩ : ∃ W4, wr.drewN nq = W4 := ⟨_, rfl⟩
        have hc4 := Lib.hid (show W4.heap[w1.heap.size]? = some (.cells #[.int .i64 (t : Nat), .int .i64 840] 45 (0, 0)) by rw [← hW4]; exact hc.out)
        have hb4 := Lib.hid (show Below w1.heap.size W3 W4 by rw [← hW4]; exact below_drewN hbel.out nq)
        have hs4 := hb4.out.size
        rw [hW4]
        have hlt3 : w1.heap.size < W4.heap.size := by omega
        have hK := Lib.hid (Below.refl W4.heap.size W4).drew
        obtain ⟨l0, l1, -, -⟩ := frac_cells hc4.out (Below.refl W4.heap.size W4) hlt3
        replace hW4 := Lib.hid hW4
        clear hc hbel
        go_region_with (first
          | (go_at_call 39; (with_reducible refine (hsh.out _).mono ?_); rintro e w4 ⟨rfl, hb4⟩; replace hK := Lib.hid (hK.out.trans (hb4.mono hK.out.size)); obtain ⟨l0, l1, -, -⟩ := frac_cells hc4.out hK.out hlt3; clear hb4)
          | (go_at_call 38; (with_reducible refine (hplus.out _).mono ?_); rintro e w5 ⟨rfl, hb5⟩; replace hK := Lib.hid (hK.out.trans (hb5.mono hK.out.size)); obtain ⟨d0, d1, df0, df1⟩ := frac_cells hc4.out hK.out hlt3; clear hb5))
        all_goals
          have hc5 : w5.heap[w1.heap.size]? = _ := (hK.out.block w1.heap.size hlt3).trans hc4.out
          have hn := frac_store hc5 (.int .i64 (u : Nat)) (.int .i64 840)
          rw [← hst.out] at hn
          replace hn := Lib.hid hn
          have hbn := Lib.hid (below_setCell (below_setCell (hb4.out.trans (hK.out.mono (Nat.le_of_lt hlt3))) (p := ⟨w1.heap.size, 0, none⟩) (Nat.le_refl _) (.int .i64 (u : Nat))) (p := ⟨w1.heap.size, 1, none⟩) (Nat.le_refl _) (.int .i64 840))
          go_wp2_with fail
          go_roundw
          case rel => exact ⟨k + 1, by omega, by first | rfl | go_num, by first | exact hn | (rw [hst.out] at hn ⊢; exact hn), by first | exact hbn | (rw [hst.out] at hbn; exact hbn)⟩
          case measure => simp [intOf]; omega
      · obtain rfl : k = xs.length := by omega
        obtain ⟨l0, l1, -, -⟩ := frac_cells hc.out (Below.refl wr.heap.size wr) (show w1.heap.size < wr.heap.size by omega)
        have hbf := Lib.hid (hbw.out.trans (hbel.out.mono hz1))
        clear hc
        go_wp2_with fail
        go_quiet (fail)
        go_wp2_with fail
        go_ret3
        exact ⟨ret_three hV.out hD.out hf.out, below_drewN hbf.out _⟩
  · have hV := Lib.hid (show (0 : Int) = pwV n xs zs by unfold pwV; rw [hf]; rfl)
    have hD := Lib.hid (show (0 : Int) = pwD n xs zs by unfold pwD; rw [hf]; rfl)
    rw [hf] at hr
    replace hf := Lib.hid hf.symm
    replace hr := Lib.hid hr
    go_enter Try.func14, Try.ntmps14
    go_wp2_with fail
    refine hr.out.mono ?_
    rintro e w1 ⟨rfl, hb1⟩
    replace hb1 := Lib.hid hb1
    clear hr
    go_wp2_with fail
    go_ret3
    exact ⟨ret_three hV.out hD.out hf.out, hb1.out⟩
end Go.Proofs.Ytfcegnnajpflmaa
