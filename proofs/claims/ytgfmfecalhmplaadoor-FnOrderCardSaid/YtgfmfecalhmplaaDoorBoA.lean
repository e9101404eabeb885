/- All sets in ball order: the model. -/
import Derived.Test.YtgfmfecalhmplaaDoorBo9
import Derived.Test.YtgfmfecalhmplaaDoorBo7
namespace Go.Proofs.YtgfmfecalhmplaaDoor
open Go.ChangeShapes Go.WideShapes Go.ChangeAt Go.RowKit Go.Proofs

theorem ownL_mono {w : World} {B B' : Nat} {v : Value} {xs : List Int} (h : OwnL w B v xs) (hB : B' ≤ B) : OwnL w B' v xs := by
  refine ⟨h.1, ?_⟩
  rcases h.2 with hn | ⟨g, cap, cur, rfl, hb, rest⟩
  · exact .inl hn
  · exact .inr ⟨g, cap, cur, rfl, by omega, rest⟩
set_option maxRecDepth 20000 in
set_option maxHeartbeats 16000000 in
theorem sp_order (n : Int) (n1 : 1 ≤ n) (n2 : n ≤ 8) (w : World) : Calls Tryd.prog 36 #[.int .i64 n] w (OrdPost w.heap.size (orL n) w) := by
  obtain ⟨p1, p2, p3⟩ := pow_nat n1 n2
  have hor : orL n = unL (kL (upI (2 ^ n.toNat))) := by unfold orL; rw [up_sort]
  obtain ⟨N, hN⟩ : ∃ N : Nat, 2 ^ n.toNat = N := ⟨_, rfl⟩
  have hNi : (2 : Int) ^ n.toNat = (N : Nat) := by rw [← hN]; simp
  have hn0 : (0 : Int) ≤ n := by omega
  have hn64 : n < 64 := by omega
  rw [hN] at p1 p2 p3 hor
  rw [hor]
  have hN256 : N ≤ 256 := by omega
  replace hor := Lib.hid hor
  replace hN := Lib.hid hN
  replace hNi := Lib.hid hNi
  go_enter Tryd.func36, Tryd.ntmps36
  go_wp2_with fail
  go_loopw [3, 4] (fun v s wr => ∃ (j g c : Nat), j ≤ N ∧ s = .int .i64 j ∧ v = .slice (some ⟨g, 0, none⟩) j c ∧ j ≤ c ∧ c ≤ 9223372036854775807 ∧ Hid (OwnL wr w.heap.size (.slice (some ⟨g, 0, none⟩) j c) (unL (kL (upI j)))) ∧ Hid (CellsAt wr g 0 (unL (kL (upI j))) ∧ g < wr.heap.size) ∧ Hid (Below w.heap.size w wr)) (fun _ s _ => N - (intOf s).toNat)
  case atStart => exact ⟨0, w.heap.size, 0, by omega, rfl, rfl, by omega, by omega, Lib.hid (OwnL.lit w (Nat.le_refl _)), Lib.hid ⟨fun i hi => by simp [kL, upI, sortL, unL] at hi, by simp⟩, Lib.hid ((Below.refl _ _).alloc (Nat.le_refl _) _)⟩
  case round =>
    obtain ⟨j, g, c, hj, rfl, rfl, hjc, hcm, hown, hcel, hbel⟩ := hrel
    have hsz := hbel.out.size
    by_cases hlt : j < N
    · have j1 : (0 : Int) ≤ (j : Int) := by omega
      have j2 : (j : Int) < (N : Nat) := by omega
      have hkl := Lib.hid (ku_len j (by omega))
      have hisk := Lib.hid (ku_isK (j := j) (by omega))
      obtain ⟨hca, hgl⟩ := hcel.out
      have hca2 := Lib.hid (show ∀ i, i < j → wr.cell? ⟨g, i, none⟩ = some (.int .i64 (unb ((kL (upI j)).getD i 0))) from fun i hi => by
        have := hca i (by rw [unL_len, hkl.out]; exact hi)
        rw [Nat.zero_add, unL_get (by rw [hkl.out]; exact hi)] at this
        exact this)
      have hah := Lib.hid (fun i (hi : i < j) (W : World) => by
        obtain ⟨u1, u2, u3⟩ := hisk.out _ (getD_mem (xs := kL (upI j)) (i := i) (by rw [hkl.out]; exact hi))
        have h := sp_ahead (j : Nat) (unb ((kL (upI j)).getD i 0)) (by omega) (by omega) u1 u2 W
        rw [u3] at h
        exact h)
      have hpk := Lib.hid (fun k h0 h1 h2 => place_ku (j := j) (k := k) (by omega) h0 h1 h2)
      have hins := Lib.hid (unL_ins (x := (j : Nat)) (ks := kL (upI j)) (by omega) (by omega) (ku_not (by omega)))
      have hsu := Lib.hid (ku_succ j)
      have hul := Lib.hid (show (unL (kL (upI j))).length = j by rw [unL_len, hkl.out])
      obtain ⟨ks, hks⟩ : ∃ ks, kL (upI j) = ks := ⟨_, rfl⟩
      rw [hks] at hca2 hah hpk hins hsu hown hkl hul
      obtain ⟨K, hK⟩ : ∃ K, bkI (j : Nat) = K := ⟨_, rfl⟩
      rw [hK] at hah hpk
      replace hks := Lib.hid hks
      replace hK := Lib.hid hK
      clear hca hcel hisk
      go_wp2_with fail
      replace p3 := Lib.hid p3
      go_loopw [5] (fun q wq => ∃ k : Nat, k ≤ j ∧ q = .int .i64 k ∧ Hid (∀ i, k ≤ i → i < j → K < ks.getD i 0) ∧ wq = wr) (fun q _ => (intOf q).toNat)
      case atStart => exact ⟨j, by omega, rfl, Lib.hid (fun i h1 h2 => by omega), rfl⟩
      case round =>
        obtain ⟨k, hk, rfl, hhi, rfl⟩ := hrel
        by_cases hah2 : 0 < k ∧ K < ks.getD (k - 1) 0
        · obtain ⟨k0, hlk⟩ := hah2
          obtain ⟨m, rfl⟩ : ∃ m, k = m + 1 := ⟨k - 1, by omega⟩
          rw [show m + 1 - 1 = m by omega] at hlk
          have e1 := hca2.out m (by omega)
          have hc := hah.out m (by omega)
          rw [decide_eq_true hlk] at hc
          have hhi2 := Lib.hid (show ∀ i, m ≤ i → i < j → K < ks.getD i 0 from fun i h1 h2 => by
            by_cases e : i = m
            · subst e; exact hlk
            · exact hhi.out i (by omega) h2)
          obtain ⟨u, hu⟩ : ∃ u, unb (ks.getD m 0) = u := ⟨_, rfl⟩
          rw [hu] at e1 hc
          have hg1 : decide ((0 : Int) < ((m + 1 : Nat) : Int)) = true := decide_eq_true (by omega)
          have hg2 : decide (0 < m + 1) = true := by simp
          have hm1 : ((m + 1 : Nat) : Int) - 1 = (m : Int) := by omega
          have hm2 : (0 : Int) ≤ (m : Int) := by omega
          have hm3 : (m : Int) < (j : Int) := by omega
          have hm4 : ((m + 1 : Nat) : Int) = (m : Int) + 1 := by omega
          have hm5 : (m : Int) + 1 - 1 = (m : Int) := by omega
          replace hc := Lib.hid hc
          replace hu := Lib.hid hu
          clear hlk hhi k0
          go_wp2_with (go_at_call 53; refine (hc.out _).mono ?_; rintro e w' ⟨rfl, rfl⟩)
          refine ⟨?_, by first | (simp [intOf]; done) | (simp [intOf]; omega)⟩
          first
            | exact ⟨m, by omega, rfl, hhi2, trivial⟩
            | ((repeat apply Exists.intro); refine ⟨?_, rfl⟩; exact ⟨m, by omega, rfl, hhi2, by first | trivial | rfl⟩)
        · have hp := Lib.hid (hpk.out k hk hhi.out (by
            rcases Nat.eq_zero_or_pos k with h | h
            · exact .inl h
            · exact .inr (by omega)))
          have hfin := Lib.hid (show (unL ks).take k ++ [(j : Int)] ++ (unL ks).drop k = unL (kL (upI (j + 1))) by
            rw [hsu.out, hK.out, ← hK.out, ← hins.out, hK.out, ← hp.out]
            unfold putAt; simp)
          have hkul := Lib.hid (ku_len (j + 1) (by omega))
          obtain ⟨us, hus⟩ : ∃ us, unL (kL (upI (j + 1))) = us := ⟨_, rfl⟩
          have husl : us.length = j + 1 := by rw [← hus, unL_len, hkul.out]
          rw [hus] at hfin
          obtain ⟨t1, ht1⟩ : ∃ t1, (unL ks).take k = t1 := ⟨_, rfl⟩
          obtain ⟨t2, ht2⟩ : ∃ t2, (unL ks).drop k = t2 := ⟨_, rfl⟩
          have hl1 : t1.length = k := by rw [← ht1, List.length_take, hul.out]; omega
          have hl2 : t2.length = j - k := by rw [← ht2, List.length_drop, hul.out]
          have hs1 := fun W => slice_toi g 0 j c k hk hjc W
          have hs2 := fun W => slice_fromi g 0 j c k hk W
          obtain ⟨A2, hA2⟩ : ∃ A2, some (if c = k then (⟨g, 0, none⟩ : Addr) else ⟨g, 0 + k, none⟩) = A2 := ⟨_, rfl⟩
          rw [hA2] at hs2
          rw [ht1, ht2] at hfin
          have hcw : CellsAt wr g 0 (unL ks) := fun i hi => by
            rw [hul.out] at hi
            have := hca2.out i hi
            rw [Nat.zero_add, this, unL_get (by rw [hkl.out]; exact hi)]
          have hgB : g < wr.heap.size := hgl
          have hr1 := Lib.hid (fun (W : World) (h : Below wr.heap.size wr W) => by
            have := (row_take_i (w := wr) (S := wr.heap.size) (c := c) (k := k) (ys := unL ks) (by rw [hul.out]; exact hk) hgB hcw).below h (Nat.le_refl _)
            rw [ht1] at this; exact this)
          have hr2 := Lib.hid (fun (W : World) (h : Below wr.heap.size wr W) => by
            have := (row_drop_i (w := wr) (S := wr.heap.size) (c := c) (k := k) (ys := unL ks) (by rw [hul.out]; exact hk) (by rw [hul.out]; exact hjc) hgB hcw).below h (Nat.le_refl _)
            rw [ht2, hA2] at this; exact this)
          have hll1 := Lib.hid hl1
          have hll2 := Lib.hid hl2
          have ht1l : t1.length ≤ 1073741824 := by omega
          have ht2l : t2.length ≤ 1073741824 := by omega
          clear hl1 hl2
          have hSB := Lib.hid (show ∀ W', Below wr.heap.size wr W' → True ∧ Below wr.heap.size wr W' from fun W' h => ⟨trivial, h⟩)
          obtain ⟨lit, hlit⟩ : ∃ o : Obj, o = .cells #[] 3 := ⟨_, rfl⟩
          obtain ⟨one, hone⟩ : ∃ o : Obj, o = .cells #[.int .i64 (j : Int)] 3 := ⟨_, rfl⟩
          have hDA : ((wr.alloc one).alloc lit).drew.cell? ⟨wr.heap.size, 0, none⟩ = some (.int .i64 (j : Int)) := by
            have h1 : (wr.alloc one).cell? ⟨wr.heap.size, 0, none⟩ = some (.int .i64 (j : Int)) := by rw [hone]; exact cell_new _ _ _
            have h2 : ((wr.alloc one).alloc lit).cell? ⟨wr.heap.size, 0, none⟩ = some (.int .i64 (j : Int)) := by rw [World.cell?_alloc_past _ _ _ (by simp)]; exact h1
            exact h2
          have hAD : ((wr.alloc lit).alloc one).drew.cell? ⟨wr.heap.size + 1, 0, none⟩ = some (.int .i64 (j : Int)) := by
            have h2 := cell_new (wr.alloc lit) (.int .i64 (j : Int)) 3
            rw [World.size_alloc, ← hone] at h2
            exact h2
          have hlDA : wr.heap.size < ((wr.alloc one).alloc lit).drew.heap.size := by show _ < (World.alloc _ _).heap.size; rw [World.size_alloc, World.size_alloc]; omega
          have hlAD : wr.heap.size + 1 < ((wr.alloc lit).alloc one).drew.heap.size := by show _ < (World.alloc _ _).heap.size; rw [World.size_alloc, World.size_alloc]; omega
          have hnDA : (Value.slice (some ⟨wr.heap.size + 1, 0, none⟩) 0 0).ownBlock ≠ some wr.heap.size := by intro e; injection e with e; dsimp only at e; omega
          have hnAD : (Value.slice (some ⟨wr.heap.size, 0, none⟩) 0 0).ownBlock ≠ some (wr.heap.size + 1) := by intro e; injection e with e; dsimp only at e; omega
          have hl1 : OwnL (wr.alloc lit).drew wr.heap.size (.slice (some ⟨wr.heap.size, 0, none⟩) 0 0) [] := by rw [hlit]; exact (OwnL.lit wr (Nat.le_refl _)).drewN 1
          have hl2 : OwnL ((wr.alloc lit).alloc one).drew wr.heap.size (.slice (some ⟨wr.heap.size, 0, none⟩) 0 0) [] := by rw [hlit]; exact ((OwnL.lit wr (Nat.le_refl _)).alloc one).drewN 1
          have hl3 : OwnL ((wr.alloc one).alloc lit).drew wr.heap.size (.slice (some ⟨wr.heap.size + 1, 0, none⟩) 0 0) [] := by
            have h := (OwnL.lit (wr.alloc one) (B := wr.heap.size) (by rw [World.size_alloc]; omega)).drewN 1
            rw [World.size_alloc, ← hlit] at h
            exact h
          subst hlit hone
          have h0 : ([] : List Int).length ≤ 1073741824 := by simp
          have hla : (t1 ++ [(j : Int)]).length ≤ 1073741824 := by have := hll1.out; simp; omega
          replace hDA := Lib.hid hDA
          replace hAD := Lib.hid hAD
          replace hl1 := Lib.hid hl1
          replace hl2 := Lib.hid hl2
          replace hl3 := Lib.hid hl3
          replace hlDA := Lib.hid hlDA
          replace hlAD := Lib.hid hlAD
          replace hnDA := Lib.hid hnDA
          replace hnAD := Lib.hid hnAD
          replace ht1 := Lib.hid ht1
          replace ht2 := Lib.hid ht2
          replace hA2 := Lib.hid hA2
          replace hus := Lib.hid hus
          replace husl := Lib.hid husl
          replace hcw := Lib.hid hcw
          have hend : Hid (∀ (w3 : World) (v3 : Value), OwnL w3 wr.heap.size v3 (t1 ++ [(j : Int)] ++ t2) → Below wr.heap.size wr w3 → ∃ g' c', v3 = .slice (some ⟨g', 0, none⟩) (j + 1) c' ∧ j + 1 ≤ c' ∧ c' ≤ 9223372036854775807 ∧ Hid (OwnL w3 w.heap.size (.slice (some ⟨g', 0, none⟩) (j + 1) c') (unL (kL (upI (j + 1))))) ∧ Hid (CellsAt w3 g' 0 (unL (kL (upI (j + 1)))) ∧ g' < w3.heap.size) ∧ Hid (Below w.heap.size w w3)) := Lib.hid fun w3 v3 hO hb => by
            rw [hfin.out] at hO
            have hO2 : OwnL w3 w.heap.size v3 us := ownL_mono hO hsz
            obtain ⟨g', c', hv, q1, q2, q3, q4, q5⟩ := own_some hO2 (by rw [husl.out]; omega)
            rw [husl.out] at hv q1
            subst hv
            rw [hus.out]
            exact ⟨g', c', rfl, q1, q2, Lib.hid hO2, Lib.hid ⟨q5, q4⟩, Lib.hid (hbel.out.trans (hb.mono hsz))⟩
          have hcase : k = 0 ∨ ∃ m : Nat, k = m + 1 ∧ ¬ K < ks.getD m 0 := by
            rcases Nat.eq_zero_or_pos k with h | h
            · exact .inl h
            · exact .inr ⟨k - 1, by omega, fun hh => hah2 ⟨h, hh⟩⟩
          clear hah2 hhi hp
          rcases hcase with hk0 | ⟨m, hkm, hnl⟩
          · have hg1 : decide ((0 : Int) < (k : Int)) = false := decide_eq_false (by omega)
            have hg2 : decide (0 < k) = false := decide_eq_false (by omega)
            have hg3 : ¬ (0 < (k : Int)) := by omega
            replace hk0 := Lib.hid hk0
            go_wp2_with fail
            go_region_held3 (fun w' => True ∧ Below wr.heap.size wr w')
              (first
                | exact hSB.out _ (Below.refl _ _).drew
                | exact hSB.out _ ((fun h => Below.alloc h h.size _) (And.right (by assumption)))
                | exact hSB.out _ (by assumption))
              (first
                | (refine step_app_int (by rfl) _ _ (by rfl) wr.heap.size _ t1 (by rfl) (by first | exact hown1 | exact hown1.alloc _) (j : Int) _ (by rfl) (by first | exact cell_new _ _ _ | exact hc1) ht1l (And.right (by assumption : _ ∧ Below wr.heap.size wr _)).size ?_; intro v2 w2 hown2 hbb2; have hb2 := Below.trans (And.right (by assumption : _ ∧ Below wr.heap.size wr _)) hbb2)
                | (refine step_app_intsb (by rfl) _ _ (by rfl) wr.heap.size _ (t1 ++ [(j : Int)]) (by rfl) hown2 A2 (c - k) wr.heap.size t2 (by rw [hll2.out]; rfl) (hr2.out _ (And.right (by assumption))) hla ht2l (And.right (by assumption : _ ∧ Below wr.heap.size wr _)).size ?_; intro v3 w3 hown3 hg3 hbb3; have hb3 := hbb3 _ (And.right (by assumption)))
                | (refine step_app_intsb (by rfl) _ _ (by rfl) wr.heap.size _ [] (by rfl) (by first | exact hl1.out | exact hl2.out | exact hl3.out) (some ⟨g, 0, none⟩) c wr.heap.size t1 (by rw [hll1.out]; rfl) (hr1.out _ (And.right (by assumption))) h0 ht1l (And.right (by assumption : _ ∧ Below wr.heap.size wr _)).size ?_; intro v1 w1 hown1 hg1 hbb1; have hb1 := hbb1 _ (And.right (by assumption)); rw [List.nil_append] at hown1; first | (have hc1 := cell_growb hDA.out hlDA.out hg1 hnDA.out) | (have hc1 := cell_growb hAD.out hlAD.out hg1 hnAD.out) | skip))
            all_goals
              obtain ⟨g', c', rfl, q1, q2, q3, q4, q5⟩ := hend.out _ _ hown3 hb3
              clear hown3 hb3
              go_wp2_with fail
              go_roundw
              case rel => exact ⟨j + 1, g', c', by omega, by go_num, rfl, q1, q2, q3, q4, q5⟩
              case measure => simp [intOf]; omega
          · have e1 := hca2.out m (by omega)
            have hc := hah.out m (by omega)
            rw [decide_eq_false hnl] at hc
            obtain ⟨u, hu⟩ : ∃ u, unb (ks.getD m 0) = u := ⟨_, rfl⟩
            rw [hu] at e1 hc
            have hg1 : decide ((0 : Int) < (k : Int)) = true := decide_eq_true (by omega)
            have hg2 : decide (0 < k) = true := decide_eq_true (by omega)
            have hg3 : 0 < (k : Int) := by omega
            have hm1 : (k : Int) - 1 = (m : Int) := by omega
            have hm2 : (0 : Int) ≤ (m : Int) := by omega
            have hm3 : (m : Int) < (j : Int) := by omega
            replace hc := Lib.hid hc
            replace hu := Lib.hid hu
            replace hkm := Lib.hid hkm
            clear hnl
            go_wp2_with (go_at_call 53; refine (hc.out _).mono ?_; rintro e w' ⟨rfl, rfl⟩)
            go_region_held3 (fun w' => True ∧ Below wr.heap.size wr w')
              (first
                | exact hSB.out _ (Below.refl _ _).drew
                | exact hSB.out _ ((fun h => Below.alloc h h.size _) (And.right (by assumption)))
                | exact hSB.out _ (by assumption))
              (first
                | (refine step_app_int (by rfl) _ _ (by rfl) wr.heap.size _ t1 (by rfl) (by first | exact hown1 | exact hown1.alloc _) (j : Int) _ (by rfl) (by first | exact cell_new _ _ _ | exact hc1) ht1l (And.right (by assumption : _ ∧ Below wr.heap.size wr _)).size ?_; intro v2 w2 hown2 hbb2; have hb2 := Below.trans (And.right (by assumption : _ ∧ Below wr.heap.size wr _)) hbb2)
                | (refine step_app_intsb (by rfl) _ _ (by rfl) wr.heap.size _ (t1 ++ [(j : Int)]) (by rfl) hown2 A2 (c - k) wr.heap.size t2 (by rw [hll2.out]; rfl) (hr2.out _ (And.right (by assumption))) hla ht2l (And.right (by assumption : _ ∧ Below wr.heap.size wr _)).size ?_; intro v3 w3 hown3 hg3 hbb3; have hb3 := hbb3 _ (And.right (by assumption)))
                | (refine step_app_intsb (by rfl) _ _ (by rfl) wr.heap.size _ [] (by rfl) (by first | exact hl1.out | exact hl2.out | exact hl3.out) (some ⟨g, 0, none⟩) c wr.heap.size t1 (by rw [hll1.out]; rfl) (hr1.out _ (And.right (by assumption))) h0 ht1l (And.right (by assumption : _ ∧ Below wr.heap.size wr _)).size ?_; intro v1 w1 hown1 hg1 hbb1; have hb1 := hbb1 _ (And.right (by assumption)); rw [List.nil_append] at hown1; first | (have hc1 := cell_growb hDA.out hlDA.out hg1 hnDA.out) | (have hc1 := cell_growb hAD.out hlAD.out hg1 hnAD.out) | skip))
            all_goals
              obtain ⟨g', c', rfl, q1, q2, q3, q4, q5⟩ := hend.out _ _ hown3 hb3
              clear hown3 hb3
              go_wp2_with fail
              go_roundw
              case rel => exact ⟨j + 1, g', c', by omega, by go_num, rfl, q1, q2, q3, q4, q5⟩
              case measure => simp [intOf]; omega
    · obtain rfl : j = N := by omega
      have hO := hown.out
      have hkl := Lib.hid (ku_len j hN256)
      have hul : (unL (kL (upI j))).length = j := by rw [unL_len, hkl.out]
      have hfin := Lib.hid (show ∃ v, Ending.returned (.slice (some ⟨g, 0, none⟩) j c) = .returned v ∧ OwnL wr w.heap.size v (unL (kL (upI j))) ∧ Below w.heap.size w wr ∧ (∃ g c, v = .slice (some ⟨g, 0, none⟩) (unL (kL (upI j))).length c ∧ (unL (kL (upI j))).length ≤ c ∧ c ≤ 9223372036854775807) from ⟨_, rfl, hO, hbel.out, g, c, by rw [hul], by rw [hul]; exact hjc, hcm⟩)
      clear hO hul
      go_wp2_with fail
      go_ret
      exact hfin.out
end Go.Proofs.YtgfmfecalhmplaaDoor
