/- The longest chain from each set of a family: the program. -/
import Derived.Test.YtgkbaenjniapiaaCl4
import Derived.Test.YtgkbaenjniapiaaRl
namespace Go.Proofs.Ytgkbaenjniapiaa
open Go.ChangeShapes Go.WideShapes Go.ChangeAt Go.RowKit Go.Shelf
attribute [local go_sem] Oper.semAt_some

theorem link_ptr {w : World} : ∀ {L : List Int} {v : Value}, LinkV w L v → ∃ q, v = .pointer q
  | [], _, h => ⟨none, h⟩
  | _ :: _, _, ⟨b, _, h, _⟩ => ⟨some ⟨b, 0, none⟩, h⟩
theorem plinks_read {W : World} {B n : Nat} {v : Value} {V : Nat → Value} (h : W.ownsRow B 69 1 v n ((List.range n).map V)) :
    ∃ a c, v = .slice a n c ∧ (0 < n → ∃ g off, a = some ⟨g, off, none⟩ ∧ ∀ j, j < n → W.cell? ⟨g, off + j, none⟩ = some (V j)) := by
  rcases h.2 with ⟨h2, rfl⟩ | ⟨g, cap, cur, rfl, hg, hh, hk1, hk2, hk3, hk4⟩
  · exact ⟨none, 0, by rw [h2], fun h => absurd h (Nat.lt_irrefl 0)⟩
  · refine ⟨_, cap, rfl, fun _ => ⟨g, 0, rfl, fun j hj => ?_⟩⟩
    rw [cell_of_row W g _ _ 69 (0, 0) hh]
    have h5 : (cur.toList.take n)[j]? = some (V j) := by rw [Nat.mul_one] at hk4; rw [hk4, List.getElem?_map, List.getElem?_range hj]; rfl
    rw [List.getElem?_take, if_pos hj] at h5
    simpa using h5
set_option maxRecDepth 100000 in
set_option maxHeartbeats 4000000 in
theorem from_each (lv : Value) (xs : List Int) (S : Nat) (w : World) (hx : SRow w S lv xs) (hS : S ≤ w.heap.size) (hl : xs.length ≤ 256) (hz : ∀ z ∈ xs, 0 ≤ z ∧ z < 256) :
    Calls Try.prog 52 #[.agg #[lv, (Value.func (.func 71) #[] #[])]] w fun e w' => ∃ v V C, e = .returned v ∧ w'.ownsRow w.heap.size 69 1 v xs.length ((List.range xs.length).map V) ∧ ChOK w' xs.reverse xs.length V C ∧ Below w.heap.size w w' := by
  obtain ⟨a, c, rfl, hc⟩ := id hx
  refine (callsIn_wide (n := 10)).1 ?_
  refine callsIn_of_wp_marks Try.func52 rfl trivial ?_ rfl
  simp only [Try.ntmps52, List.size_toArray, List.length_cons, List.length_nil, Nat.reduceAdd, Nat.reduceSub, Array.replicate_succ, Array.replicate_zero, List.push_toArray, List.append_toArray, List.nil_append, List.cons_append]
  gi_wp2_with (first | (refine ⟨trivial, ?_⟩; gi_at_call 81; refine (back_make _ _ _ _).mono ?_; rintro e w' ⟨rfl, rfl⟩))
  have hW0 : Below w.heap.size w ((((w.alloc (.cells #[.slice a xs.length c, (Value.func (.func 71) #[] #[])] 43)).alloc (.cells #[] 69)).alloc (.cells #[.slice (some ⟨w.heap.size + 1, 0, none⟩) 0 0] 71)).alloc (.cells #[.slice a xs.length c] 40)) :=
    ((((Below.refl _ w).alloc (Nat.le_refl _) _).alloc (by simp) _).alloc (by simp; omega) _).alloc (by simp; omega) _
  have bO := Boxed.new ((w.alloc (.cells #[.slice a xs.length c, (Value.func (.func 71) #[] #[])] 43)).alloc (.cells #[] 69)) 71 (.slice (some ⟨w.heap.size + 1, 0, none⟩) 0 0)
  have bN := Boxed.new (((w.alloc (.cells #[.slice a xs.length c, (Value.func (.func 71) #[] #[])] 43)).alloc (.cells #[] 69)).alloc (.cells #[.slice (some ⟨w.heap.size + 1, 0, none⟩) 0 0] 71)) 40 (.slice a xs.length c)
  have hR := World.ownsRow_made (e := 69) (size := 1) (w.alloc (.cells #[.slice a xs.length c, (Value.func (.func 71) #[] #[])] 43)) #[] 0 (base := w.heap.size) (by simp) (by unfold maxLen; omega) rfl
  simp only [World.size_alloc] at bO bN hR
  obtain ⟨i0, hi, hz0, hz1, hz2⟩ := info_parts Try.plinkInfo
  refine wpIn_rangeFunc_ownG rfl (by omega) (gf := 98) (lb := #[.pointer (some ⟨w.heap.size + 1 + 1 + 1, 0, none⟩)]) rfl trivial (enters_of Try.func98 (by kernel_rfl) rfl)
    (back_stops _ (by omega) (w.heap.size + 1 + 1 + 1) w.heap.size a c xs _ bN.cell bN.lt ((hx.below hW0 hS).mono hS) (by simp; omega) (by omega) hz) (fun h k => h.trans k) (kb_b (by simp; omega)) (Below.refl _ _) (fun _ => rfl)
    (Inv w.heap.size w (.slice a xs.length c))
    (fun _ _ _ => False)
    (Inv.own (Nat.le_refl _) (by simp; omega))
    (fun _ _ _ _ _ hs _ _ => hs)
    ⟨_, fun _ => undef, fun _ => [], bO.alloc _, ((hR.alloc _).alloc _), fun j hj => absurd hj (Nat.not_lt_zero j), bN, hW0⟩
    (fun x => { tmps := #[.agg #[.slice a xs.length c, (Value.func (.func 71) #[] #[])], .pointer (some ⟨w.heap.size, 0, none⟩), .slice none 0 0, .pointer (some ⟨w.heap.size + 1 + 1, 0, none⟩), undef, .int .u64 x.1.2, .slice (some ⟨w.heap.size + 1, 0, none⟩) 0 0, .pointer (some ⟨w.heap.size, 0, none⟩), .slice a xs.length c, .func (.func 98) #[] #[.pointer (some ⟨w.heap.size + 1 + 1 + 1, 0, none⟩)], .int .i64 x.1.1, .int .u64 x.1.2, undef, undef, undef, undef, undef, undef, undef, undef, undef, undef], defers := [] }) ?assign ?body ?done ?stop
  case assign =>
    intro l x W K hK
    gi_wp2
    exact hK
  case body =>
    rintro l pre x W ⟨v, V, C, h1, h2, h3, h4, h5⟩ hlen
    have hc := h1.cell
    have hn : pre.length ≤ 900 := by omega
    obtain ⟨x1, x2⟩ := x.2
    have hlen0 : (isets pre).length = pre.length := isets_len pre
    have hov : ∀ W', W' = W.drew → Calls Try.prog 51 #[.int .u64 x.1.2, v] W' fun e w' => e = .returned (bestV x.1.2 C V pre.length) ∧ W' = w' := fun W' e => by
      subst e
      obtain ⟨b0, c0, rfl, hcells⟩ := plinks_read h2
      exact over_chains x.1.2 b0 pre.length c0 V C _ x1 x2 (by omega) hcells (fun j hj => ⟨LinkV.kept (w := W) (w' := W.drew) (fun _ _ h => h) (h3 j hj).1, (h3 j hj).2.1, (h3 j hj).2.2.1⟩)
    obtain ⟨L, hLv, hLl⟩ := best_ok (s := x.1.2) pre.length (fun j hj => (h3 j hj).1)
    obtain ⟨q, hq⟩ := link_ptr hLv
    rw [hq] at hov hLv
    replace hov := Lib.hid hov
    replace hq := Lib.hid hq
    gi_wp2
    have hc1 : (W.alloc (.cells #[.int .u64 x.1.2, .pointer q] 95)).cell? ⟨w.heap.size + 1 + 1, 0, none⟩ = some v := (h1.alloc _).cell
    have hc2 : ((W.alloc (.cells #[.int .u64 x.1.2, .pointer q] 95)).alloc (.cells #[.pointer (some ⟨W.heap.size, 0, none⟩)] 69)).cell? ⟨w.heap.size + 1 + 1, 0, none⟩ = some v := ((h1.alloc _).alloc _).cell
    have hBB : w.heap.size ≤ ((W.alloc (.cells #[.int .u64 x.1.2, .pointer q] 95)).alloc (.cells #[.pointer (some ⟨W.heap.size, 0, none⟩)] 69)).drew.heap.size := by
      have := h5.size
      show _ ≤ ((W.alloc _).alloc _).heap.size
      rw [World.size_alloc, World.size_alloc]; omega
    have hnw : ∀ (j : Nat) (u : Value), [Value.pointer (some ⟨W.heap.size, 0, none⟩)][j]? = some u → ((W.alloc (.cells #[.int .u64 x.1.2, .pointer q] 95)).alloc (.cells #[.pointer (some ⟨W.heap.size, 0, none⟩)] 69)).drew.cell? ((⟨W.heap.size + 1, 0, none⟩ : Addr).add j) = some u := fun j u hu => by
      have hn := heap_alloc_new (W.alloc (.cells #[.int .u64 x.1.2, .pointer q] 95)) (.cells #[.pointer (some ⟨W.heap.size, 0, none⟩)] 69)
      rw [World.size_alloc] at hn
      cases j with
      | zero =>
        simp at hu
        subst hu
        exact cell_of_row _ (W.heap.size + 1) 0 _ 69 (0, 0) hn
      | succ j => simp at hu
    have hbk : ∀ w3 : World, ((W.alloc (.cells #[.int .u64 x.1.2, .pointer q] 95)).alloc (.cells #[.pointer (some ⟨W.heap.size, 0, none⟩)] 69)).drew.grownBy w3 v.ownBlock → Boxed w3 (w.heap.size + 1 + 1) 71 v := fun w3 hg =>
      Boxed.kept (W := ((W.alloc (.cells #[.int .u64 x.1.2, .pointer q] 95)).alloc (.cells #[.pointer (some ⟨W.heap.size, 0, none⟩)] 69)).drew) ((h1.alloc (.cells #[.int .u64 x.1.2, .pointer q] 95)).alloc (.cells #[.pointer (some ⟨W.heap.size, 0, none⟩)] 69)) hg (h1.not_row (by decide) h2)
    have hfin : ∀ v' w3, w3.ownsRow w.heap.size 69 1 v' (pre.length + 1) ((List.range pre.length).map V ++ [.pointer (some ⟨W.heap.size, 0, none⟩)]) → ((W.alloc (.cells #[.int .u64 x.1.2, .pointer q] 95)).alloc (.cells #[.pointer (some ⟨W.heap.size, 0, none⟩)] 69)).drew.grownBy w3 v.ownBlock →
        KeepsFrom ((((w.alloc (.cells #[.slice a xs.length c, (Value.func (.func 71) #[] #[])] 43)).alloc (.cells #[] 69)).alloc (.cells #[.slice (some ⟨w.heap.size + 1, 0, none⟩) 0 0] 71)).alloc (.cells #[.slice a xs.length c] 40)).heap.size W (w3.setCell ⟨w.heap.size + 1 + 1, 0, none⟩ v') ∧ KB w.heap.size (w.heap.size + 1 + 1 + 1) W (w3.setCell ⟨w.heap.size + 1 + 1, 0, none⟩ v') ∧ Inv w.heap.size w (.slice a xs.length c) (pre ++ [x]) (w3.setCell ⟨w.heap.size + 1 + 1, 0, none⟩ v') := fun v' w3 hown hg => by
      have h := Inv.step (B := w.heap.size) (D := ((((w.alloc (.cells #[.slice a xs.length c, (Value.func (.func 71) #[] #[])] 43)).alloc (.cells #[] 69)).alloc (.cells #[.slice (some ⟨w.heap.size + 1, 0, none⟩) 0 0] 71)).alloc (.cells #[.slice a xs.length c] 40)).heap.size) (w := w) (W := W.drew) (w3 := w3) (x := x) h1 h2 (h3.kept (fun _ _ h => h)) h4 h5.drew (Nat.le_refl _) (LinkV.kept (w := W) (w' := W.drew) (fun _ _ h => h) hLv) hLl hn hown hg
      exact ⟨⟨h.1.size, h.1.same⟩, ⟨⟨h.2.1.1.os, h.2.1.1.tape, h.2.1.1.output, h.2.1.1.size, h.2.1.1.block⟩, h.2.1.2⟩, h.2.2⟩
    refine region_lift (by kernel_rfl) (fun ⟨_, _, h⟩ => h) (no_defer (by kernel_rfl)) ?_
    change wpAny _ _ _ _ _ _ _ W.drew
    refine wpAny_take (i := 1) rfl (by kernel_rfl) (by kernel_rfl) (by kernel_rfl) (fun _ _ _ h => h) (Or.inl ⟨by rfl, fun w => by go_simp <;> rfl⟩) ?_
    refine wpAny_take (i := 2) rfl (by kernel_rfl) (by kernel_rfl) (by kernel_rfl) (fun _ _ _ h => h) (Or.inl ⟨by rfl, fun w => by go_simp <;> rfl⟩) ?_
    refine wpAny_ready (rs := [0, 3]) (by kernel_rfl) (by simp) ?_
    refine AllReady.cons rfl (fun K hK => ?_) ?_
    · go_simp
      refine hK _ _ ?_
      clear hK K
      refine wpAny_ready (rs := [3]) (by kernel_rfl) (by simp) ?_
      refine AllReady.cons rfl (fun K hK => ?_) ?_
      · go_simp
        refine hK _ _ ?_
        clear hK K
        refine wpAny_ready (rs := [4]) (by kernel_rfl) (by simp) ?_
        refine AllReady.cons rfl (fun K hK => ?_) ?_
        · go_simp
          refine (hov.out _ rfl).mono ?_; rintro e w' ⟨rfl, rfl⟩; dsimp only
          refine hK _ _ ?_
          clear hK K
          refine wpAny_take (i := 5) rfl (by kernel_rfl) (by kernel_rfl) (by kernel_rfl) (fun _ _ _ h => h) (Or.inl ⟨by rfl, fun w => by go_simp <;> rfl⟩) ?_
          refine wpAny_ready (rs := [6]) (by kernel_rfl) (by simp) ?_
          refine AllReady.cons rfl (fun K hK => ?_) ?_
          · go_simp
            refine hK _ _ ?_
            clear hK K
            refine wpAny_ready (rs := [7]) (by kernel_rfl) (by simp) ?_
            refine AllReady.cons rfl (fun K hK => ?_) ?_
            · go_simp
              refine hK _ _ ?_
              clear hK K
              refine wpAny_of_seq _ 8 _ _ _ (fun j => by match j with | 0 => rfl | 1 => rfl | j + 2 => exact (Array.getElem?_eq_none (by simp; omega)).symm) (by kernel_rfl) ?_
              go_wp2_with (at_builtin; refine wpList_append_own _ rfl _ _ 71 rfl w.heap.size 69 i0 (.pointer none) 1 8 Try.underlying71 hi hz0 hz1 hz2 rfl (by decide) _ _ _ rfl ((h2.alloc _).alloc _) ⟨W.heap.size + 1, 0, none⟩ 1 1 [.pointer (some ⟨W.heap.size, 0, none⟩)] rfl rfl hnw (by simp [Value.oneCell']) (by unfold maxLen; omega) (by omega) hBB ?_; intro v' w3 hown hg _; obtain ⟨g', cap', rfl⟩ := ownsRow_succ hown; have hb3 := hbk _ hg; have hc3 := hb3.cell; have hf3 := hb3.frozen)
              exact hfin _ _ hown hg
            exact AllReady.nil
          exact AllReady.nil
        exact AllReady.nil
      exact AllReady.nil
    refine AllReady.cons rfl (fun K hK => ?_) ?_
    · go_simp
      refine hK _ _ ?_
      clear hK K
      refine wpAny_ready (rs := [0, 4]) (by kernel_rfl) (by simp) ?_
      refine AllReady.cons rfl (fun K hK => ?_) ?_
      · go_simp
        refine hK _ _ ?_
        clear hK K
        refine wpAny_ready (rs := [4]) (by kernel_rfl) (by simp) ?_
        refine AllReady.cons rfl (fun K hK => ?_) ?_
        · go_simp
          refine (hov.out _ rfl).mono ?_; rintro e w' ⟨rfl, rfl⟩; dsimp only
          refine hK _ _ ?_
          clear hK K
          refine wpAny_take (i := 5) rfl (by kernel_rfl) (by kernel_rfl) (by kernel_rfl) (fun _ _ _ h => h) (Or.inl ⟨by rfl, fun w => by go_simp <;> rfl⟩) ?_
          refine wpAny_ready (rs := [6]) (by kernel_rfl) (by simp) ?_
          refine AllReady.cons rfl (fun K hK => ?_) ?_
          · go_simp
            refine hK _ _ ?_
            clear hK K
            refine wpAny_ready (rs := [7]) (by kernel_rfl) (by simp) ?_
            refine AllReady.cons rfl (fun K hK => ?_) ?_
            · go_simp
              refine hK _ _ ?_
              clear hK K
              refine wpAny_of_seq _ 8 _ _ _ (fun j => by match j with | 0 => rfl | 1 => rfl | j + 2 => exact (Array.getElem?_eq_none (by simp; omega)).symm) (by kernel_rfl) ?_
              go_wp2_with (at_builtin; refine wpList_append_own _ rfl _ _ 71 rfl w.heap.size 69 i0 (.pointer none) 1 8 Try.underlying71 hi hz0 hz1 hz2 rfl (by decide) _ _ _ rfl ((h2.alloc _).alloc _) ⟨W.heap.size + 1, 0, none⟩ 1 1 [.pointer (some ⟨W.heap.size, 0, none⟩)] rfl rfl hnw (by simp [Value.oneCell']) (by unfold maxLen; omega) (by omega) hBB ?_; intro v' w3 hown hg _; obtain ⟨g', cap', rfl⟩ := ownsRow_succ hown; have hb3 := hbk _ hg; have hc3 := hb3.cell; have hf3 := hb3.frozen)
              exact hfin _ _ hown hg
            exact AllReady.nil
          exact AllReady.nil
        exact AllReady.nil
      refine AllReady.cons rfl (fun K hK => ?_) ?_
      · go_simp
        refine (hov.out _ rfl).mono ?_; rintro e w' ⟨rfl, rfl⟩; dsimp only
        refine hK _ _ ?_
        clear hK K
        refine wpAny_take (i := 5) rfl (by kernel_rfl) (by kernel_rfl) (by kernel_rfl) (fun _ _ _ h => h) (Or.inl ⟨by rfl, fun w => by go_simp <;> rfl⟩) ?_
        refine wpAny_ready (rs := [0, 6]) (by kernel_rfl) (by simp) ?_
        refine AllReady.cons rfl (fun K hK => ?_) ?_
        · go_simp
          refine hK _ _ ?_
          clear hK K
          refine wpAny_ready (rs := [6]) (by kernel_rfl) (by simp) ?_
          refine AllReady.cons rfl (fun K hK => ?_) ?_
          · go_simp
            refine hK _ _ ?_
            clear hK K
            refine wpAny_ready (rs := [7]) (by kernel_rfl) (by simp) ?_
            refine AllReady.cons rfl (fun K hK => ?_) ?_
            · go_simp
              refine hK _ _ ?_
              clear hK K
              refine wpAny_of_seq _ 8 _ _ _ (fun j => by match j with | 0 => rfl | 1 => rfl | j + 2 => exact (Array.getElem?_eq_none (by simp; omega)).symm) (by kernel_rfl) ?_
              go_wp2_with (at_builtin; refine wpList_append_own _ rfl _ _ 71 rfl w.heap.size 69 i0 (.pointer none) 1 8 Try.underlying71 hi hz0 hz1 hz2 rfl (by decide) _ _ _ rfl ((h2.alloc _).alloc _) ⟨W.heap.size + 1, 0, none⟩ 1 1 [.pointer (some ⟨W.heap.size, 0, none⟩)] rfl rfl hnw (by simp [Value.oneCell']) (by unfold maxLen; omega) (by omega) hBB ?_; intro v' w3 hown hg _; obtain ⟨g', cap', rfl⟩ := ownsRow_succ hown; have hb3 := hbk _ hg; have hc3 := hb3.cell; have hf3 := hb3.frozen)
              exact hfin _ _ hown hg
            exact AllReady.nil
          exact AllReady.nil
        refine AllReady.cons rfl (fun K hK => ?_) ?_
        · go_simp
          refine hK _ _ ?_
          clear hK K
          refine wpAny_ready (rs := [0, 7]) (by kernel_rfl) (by simp) ?_
          refine AllReady.cons rfl (fun K hK => ?_) ?_
          · go_simp
            refine hK _ _ ?_
            clear hK K
            refine wpAny_ready (rs := [7]) (by kernel_rfl) (by simp) ?_
            refine AllReady.cons rfl (fun K hK => ?_) ?_
            · go_simp
              refine hK _ _ ?_
              clear hK K
              refine wpAny_of_seq _ 8 _ _ _ (fun j => by match j with | 0 => rfl | 1 => rfl | j + 2 => exact (Array.getElem?_eq_none (by simp; omega)).symm) (by kernel_rfl) ?_
              go_wp2_with (at_builtin; refine wpList_append_own _ rfl _ _ 71 rfl w.heap.size 69 i0 (.pointer none) 1 8 Try.underlying71 hi hz0 hz1 hz2 rfl (by decide) _ _ _ rfl ((h2.alloc _).alloc _) ⟨W.heap.size + 1, 0, none⟩ 1 1 [.pointer (some ⟨W.heap.size, 0, none⟩)] rfl rfl hnw (by simp [Value.oneCell']) (by unfold maxLen; omega) (by omega) hBB ?_; intro v' w3 hown hg _; obtain ⟨g', cap', rfl⟩ := ownsRow_succ hown; have hb3 := hbk _ hg; have hc3 := hb3.cell; have hf3 := hb3.frozen)
              exact hfin _ _ hown hg
            exact AllReady.nil
          refine AllReady.cons rfl (fun K hK => ?_) ?_
          · go_simp
            refine hK _ _ ?_
            clear hK K
            refine wpAny_ready (rs := [0]) (by kernel_rfl) (by simp) ?_
            refine AllReady.cons rfl (fun K hK => ?_) ?_
            · go_simp
              refine hK _ _ ?_
              clear hK K
              refine wpAny_of_seq _ 8 _ _ _ (fun j => by match j with | 0 => rfl | 1 => rfl | j + 2 => exact (Array.getElem?_eq_none (by simp; omega)).symm) (by kernel_rfl) ?_
              go_wp2_with (at_builtin; refine wpList_append_own _ rfl _ _ 71 rfl w.heap.size 69 i0 (.pointer none) 1 8 Try.underlying71 hi hz0 hz1 hz2 rfl (by decide) _ _ _ rfl ((h2.alloc _).alloc _) ⟨W.heap.size + 1, 0, none⟩ 1 1 [.pointer (some ⟨W.heap.size, 0, none⟩)] rfl rfl hnw (by simp [Value.oneCell']) (by unfold maxLen; omega) (by omega) hBB ?_; intro v' w3 hown hg _; obtain ⟨g', cap', rfl⟩ := ownsRow_succ hown; have hb3 := hbk _ hg; have hc3 := hb3.cell; have hf3 := hb3.frozen)
              exact hfin _ _ hown hg
            exact AllReady.nil
          exact AllReady.nil
        exact AllReady.nil
      exact AllReady.nil
    exact AllReady.nil
  case done =>
    rintro D ys W hD hys ⟨v, V, C, h1, h2, h3, h4, h5⟩ hK
    have hc := h1.cell
    gi_wp2
    refine ⟨by simp, .inl ⟨_, _, rfl, run_takeDeferred hK, ?_⟩⟩
    have hlen : ys.length = xs.length := by rw [← isets_len, hys, List.length_reverse]
    rw [hys] at h3
    rw [hlen] at h2 h3
    refine ⟨_, results_tmp rfl _ _ _, v, V, C, rfl, ownsRow_putObj h2 (.deferred none) hK rfl, h3.kept (fun b cs hb => ?_), h5.trans (belowK_b (w := w) (Nat.le_refl _) W D _ _ (by simp at hD; omega) hK rfl rfl)⟩
    rw [World.putObj_heap_other (fun e => by subst e; rw [hK] at hb; cases hb)]
    exact hb
  case stop =>
    rintro D c pre W _ _ h _
    exact h.elim
end Go.Proofs.Ytgkbaenjniapiaa
