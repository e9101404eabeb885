/- The law FnSkew. -/
import Derived.Test.YtaljnnjlhmlcoaaPw3
import Derived.Test.YtaljnnjlhmlcoaaIs4
import Derived.Deep.RegionHeld3
namespace Go.Proofs.Ytaljnnjlhmlcoaa
open Go.ChangeShapes Go.WideShapes Go.ChangeAt Go.RowKit Go.Proofs

theorem draw_PairsSkew (v : Value) (a : Option Addr) (len cap : Nat) (w : World) (hv : v = .slice a len cap) (hc : len ≤ cap) (hcap : cap ≤ 9223372036854775807) (hB : Bytes w w.heap.size a len) :
    Calls Try.prog 16 #[v] w (DrawnPairsC w) := by
  have h0 := Lib.hid (draw_SkewC v a len cap w hv hc hcap hB)
  clear hv hc hcap hB
  go_enter Try.func16, Try.ntmps16
  go_wp2_with fail
  refine h0.out.mono ?_
  rintro e w1 ⟨n, va, vb, xs, zs, rfl, hD, hA, hB, hb, hca, hcb⟩
  replace hca := Lib.hid hca
  replace hcb := Lib.hid hcb
  replace hD := Lib.hid hD
  replace hA := Lib.hid hA
  replace hB := Lib.hid hB
  replace hb := Lib.hid hb
  go_wp2_with fail
  exact bodyPost_ret (v := .tuple #[.int .i64 n, va, vb]) (by simp [results, Try.results16, go_sem]) rfl ⟨n, va, vb, xs, zs, rfl, hD.out, hA.out, hB.out, hb.out, hca.out, hcb.out⟩
theorem drawn_len2 {n : Int} {xs zs : List Int} (hD : Drawn n xs zs) : xs.length ≤ 100000000 ∧ zs.length ≤ 100000000 := by
  obtain ⟨N, K, rfl, hN1, hN6, hK, hsub, hz⟩ := hD
  have hm := hsub.length_le
  have h2 := List.length_filter_le (fun x => cntI x == (K : Nat)) (upI (2 ^ N))
  rw [upI_len] at h2
  have hp : 2 ^ N ≤ 2 ^ 6 := Nat.pow_le_pow_right (by omega) hN6
  have hp6 : (2 : Nat) ^ 6 = 64 := by decide
  have h3 : (lvN N K).length ≤ 2 ^ N := h2
  have hzl : zs.length = xs.length := by
    rcases hz with rfl | ⟨t, _, rfl⟩ <;> simp
  omega
theorem getD_take {xs : List Int} {m i : Nat} (h : i < m) : (xs.take m).getD i 0 = xs.getD i 0 := by
  simp [List.getD, h]
theorem row_front {w : World} {S n c m : Nat} {a : Option Addr} {xs : List Int} (h : Row w S (.slice a n c) xs) (hm : m ≤ xs.length) : Row w S (.slice a m c) (xs.take m) := by
  obtain ⟨a', c', e, hc⟩ := h
  injection e with e1 e2 e3
  subst e1 e2 e3
  have hl : (xs.take m).length = m := by rw [List.length_take]; omega
  refine ⟨a, c, by rw [hl], fun h0 => ?_⟩
  rw [hl] at h0
  obtain ⟨b, o, e, hb, hcell⟩ := hc (by omega)
  refine ⟨b, o, e, hb, fun i hi => ?_⟩
  rw [hl] at hi
  rw [getD_take hi]
  exact hcell i (by omega)
theorem skw_front {n : Int} {xs zs : List Int} (h : skwB n xs zs = true) (m : Nat) (hm : m ≤ xs.length) : skwB n (xs.take m) (zs.take m) = true := by
  unfold skwB at h ⊢
  simp only [Bool.and_eq_true, decide_eq_true_eq] at h ⊢
  obtain ⟨⟨⟨⟨h1, h2⟩, h3⟩, h4⟩, h5⟩ := h
  have l1 : (xs.take m).length = m := by rw [List.length_take]; omega
  have l2 : (zs.take m).length = m := by rw [List.length_take]; omega
  refine ⟨⟨⟨⟨h1, by rw [l1, l2]⟩, ?_⟩, ?_⟩, skB_yes ?_⟩
  · unfold allB at h3 ⊢
    rw [List.all_eq_true] at h3 ⊢
    exact fun z hz => h3 z (List.mem_of_mem_take hz)
  · unfold allB at h4 ⊢
    rw [List.all_eq_true] at h4 ⊢
    exact fun z hz => h4 z (List.mem_of_mem_take hz)
  · intro i hi j hj
    rw [l1] at hi
    rw [l2] at hj
    rw [getD_take hi, getD_take hj]
    exact skB_out h5 i (by omega) j (by omega)
theorem slice_upto (b o M c : Nat) (hz : 0 < M) (h1 : M ≤ c) (h2 : c ≤ 9223372036854775807) (W : World) : (Instr.sliceAt 25 (.slice (some ⟨b, o, none⟩) M c) none (some (.int .i64 (IntKind.i64.wrap ((M : Int) - 1)))) none).run Try.prog W = .ok (.slice (some ⟨b, o, none⟩) (M - 1) c) W := by
  have hs : (sizeOf (Try.prog.elem 25)).run Try.prog W = .ok 1 W := by kernel_rfl
  have ht : Try.prog.underlying 25 = some (.slice (Try.prog.elem 25)) := by kernel_rfl
  rw [show IntKind.i64.wrap ((M : Int) - 1) = ((M - 1 : Nat) : Int) by rw [IntKind.wrap_i64]; omega]
  refine (run_sliceAt_slice W 25 _ _ _ _ ht).trans ?_
  refine (run_slice_h W 25 _ _ _ ht _ _ (by omega) (by omega)).trans ?_
  rw [hs]
  simp only [Result.andThen, sliced, Int.toNat_natCast, Nat.mul_one]
  by_cases h : c = 0
  · omega
  · simp [Addr.add]
set_option maxRecDepth 20000 in
set_option maxHeartbeats 2000000 in
theorem law_FnSkew (v : Value) (a : Option Addr) (len cap : Nat) (w : World) (hv : v = .slice a len cap) (hc : len ≤ cap) (hcap : cap ≤ 9223372036854775807) (hB : Bytes w w.heap.size a len) :
    Calls Try.prog 5 #[v] w fun e w' => e = .returned (.bool true) ∧ Below w.heap.size w w' := by
  by_cases hbig : 1048576 < len
  · subst hv
    replace hB := Lib.hid hB
    go_enter Try.func5, Try.ntmps5
    go_wp2_with fail
    go_ret
    exact ⟨rfl, Below.refl _ _⟩
  have h0 := Lib.hid (draw_PairsSkew v a len cap w hv hc hcap hB)
  subst hv
  replace hB := Lib.hid hB
  go_enter Try.func5, Try.ntmps5
  go_wp2_with fail
  refine h0.out.mono ?_
  rintro e w1 ⟨n, va, vb, xs, zs, rfl, hD, hA, hBb, hb1, hca, hcb⟩
  obtain ⟨hl1, hl2⟩ := drawn_len2 hD
  have s1 := hb1.size
  have c1 := im_PairsSkew n va vb xs zs _ w1 hA hBb (Nat.le_refl _) hl1 hl2
  have c2 := fun W (h : Below w1.heap.size w1 W) => sp_PairsSkew n va vb xs zs w1.heap.size W (hA.below h (Nat.le_refl _)) (hBb.below h (Nat.le_refl _)) h.size hl1 hl2
  have c3 := fun W (h : Below w1.heap.size w1 W) => im_PairsSkew n vb va zs xs w1.heap.size W (hBb.below h (Nat.le_refl _)) (hA.below h (Nat.le_refl _)) h.size hl2 hl1
  obtain ⟨aA, cA, rfl, _⟩ := id hA
  obtain ⟨aB, cB, rfl, _⟩ := id hBb
  obtain ⟨qa1, qa2⟩ := hca _ _ _ rfl
  obtain ⟨qb1, qb2⟩ := hcb _ _ _ rfl
  clear hca hcb
  clear h0
  rcases (by cases skwB n xs zs <;> simp : skwB n xs zs = true ∨ skwB n xs zs = false) with hs | hs
  · rw [skw_flip n xs zs] at c3
    rw [hs] at c1 c2 c3
    have hll : xs.length = zs.length := (skw_parts hs).2.2.1
    obtain ⟨M, hM⟩ : ∃ M, xs.length = M := ⟨_, rfl⟩
    have hM2 : zs.length = M := by omega
    have c4 := fun W (h : Below w1.heap.size w1 W) (m : Nat) (hm : m ≤ M) => im_PairsSkew n _ _ (xs.take m) (zs.take m) w1.heap.size W (row_front (hA.below h (Nat.le_refl _)) (by omega)) (row_front (hBb.below h (Nat.le_refl _)) (by omega)) h.size (by rw [List.length_take]; omega) (by rw [List.length_take]; omega)
    replace c4 := Lib.hid (show ∀ W (_ : Below w1.heap.size w1 W) (m : Nat) (_ : m ≤ M), Calls Try.prog 17 #[.int .i64 n, .slice aA m cA, .slice aB m cB] W fun e w' => e = .returned (.bool true) ∧ Below W.heap.size W w' from fun W h m hm => by
      have := c4 W h m hm
      rw [skw_front hs m (by omega)] at this
      exact this)
    replace c1 := Lib.hid c1
    replace c2 := Lib.hid c2
    replace c3 := Lib.hid c3
    replace hA := Lib.hid hA
    replace hBb := Lib.hid hBb
    replace hb1 := Lib.hid hb1
    replace hD := Lib.hid hD
    replace hs := Lib.hid hs
    replace hll := Lib.hid hll
    rw [hM] at c1 c2 c3 hl1 qa1 ⊢
    rw [hM2] at c1 c2 c3 hl2 qb1 ⊢
    have qa3 : cA ≤ 9223372036854775807 := qa2
    have qb3 : cB ≤ 9223372036854775807 := qb2
    clear qa2 qb2
    replace hM := Lib.hid hM
    replace hM2 := Lib.hid hM2
    go_wp2_with fail
    refine c1.out.mono ?_
    rintro e w2 ⟨rfl, hb2⟩
    have d2 := Lib.hid (c2.out w2 hb2)
    replace hb2 := Lib.hid hb2
    go_wp2_with fail
    refine d2.out.mono ?_
    rintro e w3 ⟨rfl, q, rfl⟩
    have hb3' := Lib.hid (below_drewN hb2.out (q + 1))
    have d3 := Lib.hid (c3.out _ hb3'.out)
    have hnx : Hid (∀ w4, Below (w2.drewN (q + 1)).heap.size (w2.drewN (q + 1)) w4 → Below w1.heap.size w1 w4) := Lib.hid (fun w4 h => hb3'.out.trans (h.mono hb3'.out.size))
    have hstep : Hid (∀ W w4, Below w1.heap.size w1 W → Below W.heap.size W w4 → Below w1.heap.size w1 w4) := Lib.hid (fun W w4 h1 h2 => h1.trans (h2.mono h1.size))
    have hst0 : Hid (Below w1.heap.size w1 (w2.drewN (q + 1))) := hb3'
    clear d3 hnx
    rcases Nat.eq_zero_or_pos M with hz | hz
    · have hm0 : (((M : Nat) : Int) == 0) = true := by rw [hz]; rfl
      replace hz := Lib.hid hz
      go_wp2_with fail
      refine wp_region_any (by kernel_rfl) ?_
      refine wpAny_take (i := 0) rfl (by kernel_rfl) (by kernel_rfl) (by kernel_rfl) (fun _ _ _ h => h) (Or.inl ⟨by kernel_rfl, fun w => by go_simp <;> rfl⟩) ?_
      refine wpAny_take (i := 1) rfl (by kernel_rfl) (by kernel_rfl) (by kernel_rfl) (fun _ _ _ h => h) (Or.inl ⟨by kernel_rfl, fun w => by go_simp <;> rfl⟩) ?_
      refine wpAny_take (i := 2) rfl (by kernel_rfl) (by kernel_rfl) (by kernel_rfl) (fun _ _ _ h => h) (Or.inl ⟨by kernel_rfl, fun w => by go_simp <;> rfl⟩) ?_
      refine wpAny_ready (rs := [3]) (by kernel_rfl) (by simp) ?_
      refine AllReady.cons rfl (fun K hK => ?_) AllReady.nil
      go_simp
      refine (c3.out _ hst0.out).mono ?_; rintro e w4 ⟨rfl, hb4⟩; have hbx := Lib.hid (hstep.out _ _ hst0.out hb4); clear hb4
      dsimp only
      refine hK _ _ ?_
      clear hK K
      refine wpAny_take (i := 4) rfl (by kernel_rfl) (by kernel_rfl) (by kernel_rfl) (fun _ _ _ h => h) (Or.inl ⟨by kernel_rfl, fun w => by go_simp <;> rfl⟩) ?_
      refine wpAny_take (i := 5) rfl (by kernel_rfl) (by kernel_rfl) (by kernel_rfl) (fun _ _ _ h => h) (Or.inl ⟨by kernel_rfl, fun w => by go_simp <;> rfl⟩) ?_
      refine wpAny_take (i := 6) rfl (by kernel_rfl) (by kernel_rfl) (by kernel_rfl) (fun _ _ _ h => h) (Or.inl ⟨by kernel_rfl, fun w => by go_simp <;> rfl⟩) ?_
      refine wpAny_take (i := 7) rfl (by kernel_rfl) (by kernel_rfl) (by kernel_rfl) (fun _ _ _ h => h) (Or.inl ⟨by kernel_rfl, fun w => by go_simp <;> rfl⟩) ?_
      refine wpAny_take (i := 8) rfl (by kernel_rfl) (by kernel_rfl) (by kernel_rfl) (fun _ _ _ h => h) (Or.inr ⟨by kernel_rfl, rfl⟩) ?_
      refine wpAny_take (i := 9) rfl (by kernel_rfl) (by kernel_rfl) (by kernel_rfl) (fun _ _ _ h => h) (Or.inr ⟨by kernel_rfl, rfl⟩) ?_
      refine wpAny_take (i := 10) rfl (by kernel_rfl) (by kernel_rfl) (by kernel_rfl) (fun _ _ _ h => h) (Or.inr ⟨by kernel_rfl, rfl⟩) ?_
      refine wpAny_take (i := 11) rfl (by kernel_rfl) (by kernel_rfl) (by kernel_rfl) (fun _ _ _ h => h) (Or.inr ⟨by kernel_rfl, rfl⟩) ?_
      refine wpAny_take (i := 12) rfl (by kernel_rfl) (by kernel_rfl) (by kernel_rfl) (fun _ _ _ h => h) (Or.inr ⟨by kernel_rfl, rfl⟩) ?_
      refine wpAny_take (i := 13) rfl (by kernel_rfl) (by kernel_rfl) (by kernel_rfl) (fun _ _ _ h => h) (Or.inr ⟨by kernel_rfl, rfl⟩) ?_
      refine wpAny_take (i := 14) rfl (by kernel_rfl) (by kernel_rfl) (by kernel_rfl) (fun _ _ _ h => h) (Or.inr ⟨by kernel_rfl, rfl⟩) ?_
      refine wpAny_take (i := 15) rfl (by kernel_rfl) (by kernel_rfl) (by kernel_rfl) (fun _ _ _ h => h) (Or.inr ⟨by kernel_rfl, rfl⟩) ?_
      refine wpAny_take (i := 16) rfl (by kernel_rfl) (by kernel_rfl) (by kernel_rfl) (fun _ _ _ h => h) (Or.inr ⟨by kernel_rfl, rfl⟩) ?_
      refine wpAny_take (i := 17) rfl (by kernel_rfl) (by kernel_rfl) (by kernel_rfl) (fun _ _ _ h => h) (Or.inr ⟨by kernel_rfl, rfl⟩) ?_
      refine wpAny_take (i := 18) rfl (by kernel_rfl) (by kernel_rfl) (by kernel_rfl) (fun _ _ _ h => h) (Or.inl ⟨by kernel_rfl, fun w => by go_simp <;> rfl⟩) ?_
      refine wpAny_take (i := 19) rfl (by kernel_rfl) (by kernel_rfl) (by kernel_rfl) (fun _ _ _ h => h) (Or.inl ⟨by kernel_rfl, fun w => by go_simp <;> rfl⟩) ?_
      refine wpAny_take (i := 20) rfl (by kernel_rfl) (by kernel_rfl) (by kernel_rfl) (fun _ _ _ h => h) (Or.inl ⟨by kernel_rfl, fun w => by go_simp <;> rfl⟩) ?_
      refine wpAny_done (by kernel_rfl) ?_ _
      all_goals go_wp2_with fail
      all_goals go_ret
      all_goals exact ⟨by kernel_rfl, hb1.out.trans (hbx.out.mono s1)⟩
    · obtain ⟨aA', cA', eA, hA2⟩ := hA.out
      obtain ⟨aB', cB', eB, hB2⟩ := hBb.out
      injection eA with eA1 eA2 eA3
      injection eB with eB1 eB2 eB3
      subst eA1 eA3 eB1 eB3
      obtain ⟨bA, oA, rfl, _⟩ := hA2 (by have := hM.out; omega)
      obtain ⟨bB, oB, rfl, _⟩ := hB2 (by have := hM2.out; omega)
      obtain ⟨sA, hsA, hsA2⟩ : ∃ sA, sA = .slice (some ⟨bA, oA, none⟩) (M - 1) cA ∧ ∀ W : World, (Instr.sliceAt 25 (.slice (some ⟨bA, oA, none⟩) M cA) none (some (.int .i64 (IntKind.i64.wrap ((M : Int) - 1)))) none).run Try.prog W = .ok sA W := ⟨_, rfl, slice_upto bA oA M cA hz qa1 qa3⟩
      obtain ⟨sB, hsB, hsB2⟩ : ∃ sB, sB = .slice (some ⟨bB, oB, none⟩) (M - 1) cB ∧ ∀ W : World, (Instr.sliceAt 25 (.slice (some ⟨bB, oB, none⟩) M cB) none (some (.int .i64 (IntKind.i64.wrap ((M : Int) - 1)))) none).run Try.prog W = .ok sB W := ⟨_, rfl, slice_upto bB oB M cB hz qb1 qb3⟩
      have c4m := Lib.hid (fun w4 h => hsA ▸ hsB ▸ c4.out w4 h (M - 1) (Nat.sub_le M 1) : ∀ w4 (_ : Below w1.heap.size w1 w4), Calls Try.prog 17 #[.int .i64 n, sA, sB] w4 fun e w' => e = .returned (.bool true) ∧ Below w4.heap.size w4 w')
      have hm0 : (((M : Nat) : Int) == 0) = false := by simp; omega
      replace hsA := Lib.hid hsA
      replace hsB := Lib.hid hsB
      replace qa1 := Lib.hid qa1
      replace qb1 := Lib.hid qb1
      clear hA2 hB2
      go_wp2_with fail
      refine wp_region_any (by kernel_rfl) ?_
      refine wpAny_take (i := 0) rfl (by kernel_rfl) (by kernel_rfl) (by kernel_rfl) (fun _ _ _ h => h) (Or.inl ⟨by kernel_rfl, fun w => by go_simp <;> rfl⟩) ?_
      refine wpAny_take (i := 1) rfl (by kernel_rfl) (by kernel_rfl) (by kernel_rfl) (fun _ _ _ h => h) (Or.inl ⟨by kernel_rfl, fun w => by go_simp <;> rfl⟩) ?_
      refine wpAny_take (i := 2) rfl (by kernel_rfl) (by kernel_rfl) (by kernel_rfl) (fun _ _ _ h => h) (Or.inl ⟨by kernel_rfl, fun w => by go_simp <;> rfl⟩) ?_
      refine wpAny_ready (rs := [3]) (by kernel_rfl) (by simp) ?_
      refine AllReady.cons rfl (fun K hK => ?_) AllReady.nil
      go_simp
      refine (c3.out _ hst0.out).mono ?_; rintro e w4 ⟨rfl, hb4⟩; have hbx := Lib.hid (hstep.out _ _ hst0.out hb4); clear hb4
      dsimp only
      refine hK _ _ ?_
      clear hK K
      refine wpAny_take (i := 4) rfl (by kernel_rfl) (by kernel_rfl) (by kernel_rfl) (fun _ _ _ h => h) (Or.inl ⟨by kernel_rfl, fun w => by go_simp <;> rfl⟩) ?_
      refine wpAny_take (i := 5) rfl (by kernel_rfl) (by kernel_rfl) (by kernel_rfl) (fun _ _ _ h => h) (Or.inl ⟨by kernel_rfl, fun w => by go_simp <;> rfl⟩) ?_
      refine wpAny_take (i := 6) rfl (by kernel_rfl) (by kernel_rfl) (by kernel_rfl) (fun _ _ _ h => h) (Or.inl ⟨by kernel_rfl, fun w => by go_simp <;> rfl⟩) ?_
      refine wpAny_take (i := 7) rfl (by kernel_rfl) (by kernel_rfl) (by kernel_rfl) (fun _ _ _ h => h) (Or.inl ⟨by kernel_rfl, fun w => by go_simp <;> rfl⟩) ?_
      refine wpAny_take (i := 8) rfl (by kernel_rfl) (by kernel_rfl) (by kernel_rfl) (fun _ _ _ h => h) (Or.inl ⟨by kernel_rfl, fun w => by go_simp <;> rfl⟩) ?_
      refine wpAny_take (i := 9) rfl (by kernel_rfl) (by kernel_rfl) (by kernel_rfl) (fun _ _ _ h => h) (Or.inl ⟨by kernel_rfl, fun w => by go_simp <;> rfl⟩) ?_
      refine wpAny_take (i := 10) rfl (by kernel_rfl) (by kernel_rfl) (by kernel_rfl) (fun _ _ _ h => h) (Or.inl ⟨by kernel_rfl, fun w => by go_simp <;> rfl⟩) ?_
      refine wpAny_take (i := 11) rfl (by kernel_rfl) (by kernel_rfl) (by kernel_rfl) (fun _ _ _ h => h) (Or.inl ⟨by kernel_rfl, fun w => by go_simp <;> rfl⟩) ?_
      refine wpAny_take (i := 12) rfl (by kernel_rfl) (by kernel_rfl) (by kernel_rfl) (fun _ _ _ h => h) (Or.inl ⟨by kernel_rfl, fun w => by go_simp <;> first | rfl | exact hsA2 w⟩) ?_
      refine wpAny_take (i := 13) rfl (by kernel_rfl) (by kernel_rfl) (by kernel_rfl) (fun _ _ _ h => h) (Or.inl ⟨by kernel_rfl, fun w => by go_simp <;> rfl⟩) ?_
      refine wpAny_take (i := 14) rfl (by kernel_rfl) (by kernel_rfl) (by kernel_rfl) (fun _ _ _ h => h) (Or.inl ⟨by kernel_rfl, fun w => by go_simp <;> rfl⟩) ?_
      refine wpAny_take (i := 15) rfl (by kernel_rfl) (by kernel_rfl) (by kernel_rfl) (fun _ _ _ h => h) (Or.inl ⟨by kernel_rfl, fun w => by go_simp <;> rfl⟩) ?_
      refine wpAny_take (i := 16) rfl (by kernel_rfl) (by kernel_rfl) (by kernel_rfl) (fun _ _ _ h => h) (Or.inl ⟨by kernel_rfl, fun w => by go_simp <;> first | rfl | exact hsB2 w⟩) ?_
      refine wpAny_ready (rs := [17]) (by kernel_rfl) (by simp) ?_
      refine AllReady.cons rfl (fun K hK => ?_) AllReady.nil
      go_simp
      refine (c4m.out _ hbx.out).mono ?_; rintro e w5 ⟨rfl, hb5⟩; have hby := Lib.hid (hstep.out _ _ hbx.out hb5); clear hb5
      dsimp only
      refine hK _ _ ?_
      clear hK K
      refine wpAny_take (i := 18) rfl (by kernel_rfl) (by kernel_rfl) (by kernel_rfl) (fun _ _ _ h => h) (Or.inl ⟨by kernel_rfl, fun w => by go_simp <;> rfl⟩) ?_
      refine wpAny_take (i := 19) rfl (by kernel_rfl) (by kernel_rfl) (by kernel_rfl) (fun _ _ _ h => h) (Or.inl ⟨by kernel_rfl, fun w => by go_simp <;> rfl⟩) ?_
      refine wpAny_take (i := 20) rfl (by kernel_rfl) (by kernel_rfl) (by kernel_rfl) (fun _ _ _ h => h) (Or.inl ⟨by kernel_rfl, fun w => by go_simp <;> rfl⟩) ?_
      refine wpAny_done (by kernel_rfl) ?_ _
      all_goals go_wp2_with fail
      all_goals go_ret
      all_goals exact ⟨by kernel_rfl, hb1.out.trans (hby.out.mono s1)⟩
  · rw [hs] at c1 c2
    replace c1 := Lib.hid c1
    replace c2 := Lib.hid c2
    replace hA := Lib.hid hA
    replace hBb := Lib.hid hBb
    replace hb1 := Lib.hid hb1
    replace hD := Lib.hid hD
    replace hs := Lib.hid hs
    clear c3
    go_wp2_with fail
    refine c1.out.mono ?_
    rintro e w2 ⟨rfl, hb2⟩
    have d2 := Lib.hid (c2.out w2 hb2)
    replace hb2 := Lib.hid hb2
    go_wp2_with fail
    refine d2.out.mono ?_
    rintro e w3 ⟨rfl, q, rfl⟩
    have hb5 := Lib.hid (hb1.out.trans ((below_drewN hb2.out q).mono s1))
    go_wp2_with fail
    go_ret
    exact ⟨rfl, hb5.out⟩
end Go.Proofs.Ytaljnnjlhmlcoaa
