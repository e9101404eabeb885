/- First families have the least shadows, which are first ones: mathematics and drawing. -/
import Derived.Test.YtcejbebepjkpnaaDoorAllShm
import Derived.Test.YtcejbebepjkpnaaDoorSh2
import Derived.Test.YtcejbebepjkpnaaDoorLeast
import Derived.Test.YtcejbebepjkpnaaDoorDraw
import Derived.Lib.MinMax
namespace Go.Proofs.YtcejbebepjkpnaaDoor
open Go.ChangeShapes Go.WideShapes Go.ChangeAt Go.RowKit Go.Proofs

/-- the first m sets of size k, told by marks. -/
def fL (n k : Nat) (m : Nat) : List Int := (mkL (fun j => cntI (j : Nat) == (k : Nat)) (2 ^ n)).take m
theorem fL_eq (n k m : Nat) : fstL n k m = fL n k m := by unfold fstL fL; rw [levL_mk]; simp
def kkB (n k m : Nat) : Bool := leaB m k && decide (leaV m k = ((sortL (dnL (fL n k m))).length : Nat)) && decide (((sortL (dnL (fL n k m))).length : Nat) ≤ chI n (k - 1 : Nat)) && decide (fL n (k - 1) (sortL (dnL (fL n k m))).length = sortL (dnL (fL n k m)))
set_option maxRecDepth 100000 in
theorem kk_dec : ∀ n : Fin 7, ∀ k : Fin 7, ∀ m : Fin 16, 1 ≤ n.val → 1 ≤ k.val → k.val ≤ n.val → ((m.val : Nat) : Int) ≤ chI n.val k.val → kkB n.val k.val m.val = true := by decide +kernel
theorem fst_facts {n k m : Int} (h : fstB n k m = true) (n6 : n ≤ 6) (k1 : 1 ≤ k) (m15 : m ≤ 15) :
    leaB m k = true ∧ leaV m k = ((sortL (dnL (fstL n k m))).length : Nat) ∧ fstB n (k - 1) ((sortL (dnL (fstL n k m))).length : Nat) = true ∧ fstL n (k - 1) ((sortL (dnL (fstL n k m))).length : Nat) = sortL (dnL (fstL n k m)) := by
  unfold fstB at h
  rw [Bool.and_eq_true] at h
  obtain ⟨h1, h2⟩ := h
  obtain ⟨n1, _, _, kn⟩ := szB_yes h1
  obtain ⟨m0, mc⟩ := cntB_yes h2
  obtain ⟨N, rfl⟩ : ∃ N : Nat, n = N := ⟨n.toNat, by omega⟩
  obtain ⟨K, rfl⟩ : ∃ K : Nat, k = K := ⟨k.toNat, by omega⟩
  obtain ⟨M, rfl⟩ : ∃ M : Nat, m = M := ⟨m.toNat, by omega⟩
  have hd := kk_dec ⟨N, by omega⟩ ⟨K, by omega⟩ ⟨M, by omega⟩ (by show 1 ≤ N; omega) (by show 1 ≤ K; omega) (by show K ≤ N; omega) mc
  unfold kkB at hd
  simp only [Bool.and_eq_true, decide_eq_true_eq] at hd
  obtain ⟨⟨⟨d1, d2⟩, d3⟩, d4⟩ := hd
  have hk : (K : Int) - 1 = ((K - 1 : Nat) : Int) := by omega
  rw [fL_eq, hk, fL_eq]
  refine ⟨d1, d2, ?_, d4⟩
  unfold fstB
  rw [Bool.and_eq_true]
  exact ⟨szB_mk ⟨n1, by omega, by omega, by omega⟩, decide_eq_true ⟨by omega, d3⟩⟩
theorem fst_fam {n k m : Int} (h : fstB n k m = true) : famB n (fstL n k m) = true := by
  unfold fstB at h
  rw [Bool.and_eq_true] at h
  obtain ⟨n1, n8, _, _⟩ := szB_yes h.1
  exact famB_mk (decide_eq_true ⟨n1, n8⟩) (fun z hz => fstL_mem n1 n8 hz) (fstL_asc n k m)
/-- what the drawing of a first family leaves. -/
def TriDraw (w : World) (e : Ending) (w' : World) : Prop := ∃ n k m, e = .returned (.tuple #[.int .i64 n, .int .i64 k, .int .i64 m]) ∧ drawnPts n ∧ m ≤ 15 ∧ -1 ≤ k ∧ k ≤ 9 ∧ Below w.heap.size w w'
set_option maxHeartbeats 4000000 in
theorem draw_ShadowFirst (v : Value) (a : Option Addr) (len cap : Nat) (w : World) (hv : v = .slice a len cap) (hc : len ≤ cap) (hcap : cap ≤ 9223372036854775807) (hB : Bytes w w.heap.size a len) :
    Calls Tryd.prog 7 #[v] w (TriDraw w) := by
  have h0 := Lib.hid (rd_open v a len cap w hv hc hcap hB)
  subst hv
  go_enter Tryd.func7, Tryd.ntmps7
  go_wp2_with fail
  refine h0.out.mono ?_
  rintro e w0 ⟨r, rfl, hr, hR0, hb0, hz0⟩
  have hrw : w.heap.size ≤ r := by omega
  replace hb0 := Lib.hid hb0
  replace hR0 := Lib.hid hR0
  replace hr := Lib.hid hr
  clear h0
  go_wp2_with fail
  refine (rd_points r _ 0 w0 hR0.out (by omega) (by omega)).mono ?_
  rintro e w1 ⟨n, rfl, hn, hR1, hO1⟩
  have hb1 := Lib.hid (hO1.below hb0.out hrw hb0.out.size)
  replace hR1 := Lib.hid hR1
  clear hO1 hR0
  have n0 : 0 ≤ n ∧ n ≤ 9 := by rcases hn with rfl | rfl | ⟨h1, h2⟩ <;> omega
  obtain ⟨n0, n9⟩ := n0
  replace hn := Lib.hid hn
  obtain ⟨M, hM⟩ : ∃ M, max 1 n = M := ⟨_, rfl⟩
  have M1 : 1 ≤ M ∧ M ≤ 9 := by omega
  obtain ⟨M1, M9⟩ := M1
  go_wp2_with fail
  refine (rd_pick r _ (0 + 2) (M + 1) w1 hR1.out (by omega) (by omega) (by omega)).mono ?_
  rintro e w2 ⟨x, rfl, hx, hR2, hO2⟩
  obtain ⟨x1, x2, x3, x4⟩ := hx
  have hb2 := Lib.hid (hO2.below hb1.out hrw hb1.out.size)
  replace hR2 := Lib.hid hR2
  clear hO2 hR1
  go_wp2_with fail
  refine (rd_pick r _ (0 + 2 + 1) 20 w2 hR2.out (by omega) (by omega) (by omega)).mono ?_
  rintro e w3 ⟨y, rfl, hy, hR3, hO3⟩
  obtain ⟨y1, y2, y3, y4⟩ := hy
  have hb3 := Lib.hid (hO3.below hb2.out hrw hb2.out.size)
  replace hR3 := Lib.hid hR3
  clear hO3 hR2
  go_wp2_with fail
  refine (rd_pick r _ (0 + 2 + 1 + 1) 16 w3 hR3.out (by omega) (by omega) (by omega)).mono ?_
  rintro e w4 ⟨z, rfl, hz, hR4, hO4⟩
  obtain ⟨z1, z2, z3, z4⟩ := hz
  have hb4 := Lib.hid (hO4.below hb3.out hrw hb3.out.size)
  replace hR4 := Lib.hid hR4
  clear hO4 hR3
  go_wp2_with fail
  refine (rd_pick r _ (0 + 2 + 1 + 1 + 1) 20 w4 hR4.out (by omega) (by omega) (by omega)).mono ?_
  rintro e w5 ⟨u, rfl, hu, hR5, hO5⟩
  obtain ⟨u1, u2, u3, u4⟩ := hu
  have hb5 := Lib.hid (hO5.below hb4.out hrw hb4.out.size)
  clear hO5 hR4 hR5
  go_wp2_with fail
  go_ret3
  exact ⟨_, _, _, rfl, hn.out, by omega, by omega, by omega, hb5.out⟩
set_option maxHeartbeats 2000000 in
theorem same_ints (v u : Value) (xs ys : List Int) (S : Nat) (w : World) (hx : Row w S v xs) (hy : Row w S u ys) (hl : xs.length ≤ 1073741824) (hm : ys.length ≤ 1073741824) :
    Calls Tryd.prog 10 #[v, u] w fun e w' => e = .returned (.bool (sameB xs ys)) ∧ ∃ n, w' = w.drewN n := by
  obtain ⟨a, cap, rfl, ha⟩ := hx
  obtain ⟨c, cap2, rfl, hc⟩ := hy
  by_cases hne : xs.length = ys.length
  · have hb : (((xs.length : Nat) : Int) != ((ys.length : Nat) : Int)) = false := by simp [hne]
    have hne' := Lib.hid hne
    have ha := Lib.hid ha
    have hc := Lib.hid hc
    clear hne
    go_enter Tryd.func10, Tryd.ntmps10
    go_wp2
    go_loopw [5] (fun i wr => ∃ k : Nat, k ≤ xs.length ∧ i = .int .i64 k ∧ Hid (∃ n, wr = w.drewN n) ∧ Hid (∀ j, j < k → xs.getD j 0 = ys.getD j 0)) (fun i _ => xs.length - (intOf i).toNat)
    case atStart => exact ⟨0, Nat.zero_le _, rfl, Lib.hid ⟨0, rfl⟩, Lib.hid (fun j hj => by omega)⟩
    case round =>
      obtain ⟨k, hk, rfl, hw, hsame⟩ := hrel
      obtain ⟨n, rfl⟩ := hw.out
      clear hw
      by_cases hlt : k < xs.length
      · obtain ⟨b1, o1, rfl, s1, c1⟩ := ha.out (by omega)
        have hlt2 : k < ys.length := by have := hne'.out; omega
        obtain ⟨b2, o2, rfl, s2, c2⟩ := hc.out (by omega)
        have k1 : (0 : Int) ≤ (k : Int) := by omega
        have k2 : (k : Int) < (xs.length : Nat) := by omega
        have k3 : (k : Int) < (ys.length : Nat) := by omega
        have e1 := c1 k hlt
        have e2 := c2 k hlt2
        obtain ⟨x, hx⟩ : ∃ x, xs.getD k 0 = x := ⟨_, rfl⟩
        obtain ⟨y, hy⟩ : ∃ y, ys.getD k 0 = y := ⟨_, rfl⟩
        rw [hx] at e1
        rw [hy] at e2
        by_cases hxy : x = y
        · have hsame' := Lib.hid (show ∀ j, j < k + 1 → xs.getD j 0 = ys.getD j 0 from fun j hj => by
            by_cases e : j = k
            · subst e; rw [hx, hy]; exact hxy
            · exact hsame.out j (by omega))
          have hd : (x != y) = false := by simp [hxy]
          clear hsame hxy hx hy c1 c2
          go_wp2
          go_quiet (fail)
          go_wp2
          go_roundw
          case rel => exact ⟨k + 1, by omega, by go_num, Lib.hid ⟨_, by first | rfl | exact drewN_add _ _ _⟩, hsame'⟩
          case measure => simp [intOf]; omega
        · have hf := Lib.hid (show false = sameB xs ys from (decide_eq_false (fun e => hxy (by rw [← hx, ← hy, e]))).symm)
          have hd : (x != y) = true := by simp [hxy]
          clear hsame hxy hx hy c1 c2
          go_wp2
          go_quiet (fail)
          go_wp2
          go_ret
          exact ⟨ret_bool hf.out, _, by first | rfl | exact drewN_add _ _ _⟩
      · have hf := Lib.hid (show true = sameB xs ys from (same_step hne'.out (fun j hj => hsame.out j (by omega))).symm)
        go_wp2
        go_ret
        exact ⟨ret_bool hf.out, _, rfl⟩
  · have hb : (((xs.length : Nat) : Int) != ((ys.length : Nat) : Int)) = true := by simp; omega
    have hf := Lib.hid (show false = sameB xs ys from (decide_eq_false (fun e => hne (by rw [e]))).symm)
    clear ha hc hne
    go_enter Tryd.func10, Tryd.ntmps10
    go_wp2
    go_ret
    exact ⟨ret_bool hf.out, 0, rfl⟩


theorem same_self1 (L : List Int) : sameB L L = true := decide_eq_true rfl
set_option maxRecDepth 100000 in
set_option maxHeartbeats 8000000 in
theorem law_FnFirst (v : Value) (a : Option Addr) (len cap : Nat) (w : World) (hv : v = .slice a len cap) (hc : len ≤ cap) (hcap : cap ≤ 9223372036854775807) (hB : Bytes w w.heap.size a len) (hT : Tab w) :
    Calls Tryd.prog 3 #[v] w fun e w' => e = .returned (.bool true) ∧ Below w.heap.size w w' := by
  by_cases hl : (1048576 : Int) < (len : Nat)
  · subst hv
    clear hB
    go_enter Tryd.func3, Tryd.ntmps3
    go_wp2_with fail
    go_ret
    exact ⟨rfl, Below.refl _ _⟩
  · have hdr := Lib.hid (draw_ShadowFirst v a len cap w hv hc hcap hB)
    have htl := hT.lt
    replace hT := Lib.hid hT
    subst hv
    clear hB
    go_enter Tryd.func3, Tryd.ntmps3
    go_wp2_with fail
    refine hdr.out.mono ?_
    rintro e w1 ⟨n, k, m, rfl, hn, m15, k0, k9, hb1⟩
    have hi := im_ShadowFirst n k m w1
    have hs := sp_ShadowFirst_own n k m
    have hsame := fun L => same_self1 L
    have z1 := hb1.size
    replace hb1 := Lib.hid hb1
    replace hsame := Lib.hid hsame
    clear hdr
    rcases (by cases fstB n k m <;> simp : fstB n k m = true ∨ fstB n k m = false) with hf | hf
    · have hlen := fstL_len hf
      have hfam := fst_fam hf
      have hsz : szB n k = true := by unfold fstB at hf; rw [Bool.and_eq_true] at hf; exact hf.1
      obtain ⟨n1, n8, kk0, kn⟩ := szB_yes hsz
      have n6 : n ≤ 6 := by rcases hn with rfl | rfl | ⟨_, h⟩ <;> omega
      have hfa := fun k1 => fst_facts hf n6 k1 m15
      rw [hf] at hi hs
      obtain ⟨L, hL⟩ : ∃ L, fstL n k m = L := ⟨_, rfl⟩
      simp only [ifL, if_true] at hi hs
      rw [hL] at hi hs hlen hfam
      simp only [hL] at hfa
      have hll : L.length ≤ 256 := famB_len hfam
      replace hi := Lib.hid hi
      replace hs := Lib.hid hs
      replace hL := Lib.hid hL
      replace hf := Lib.hid hf
      replace hsz := Lib.hid hsz
      replace hn := Lib.hid hn
      have hlen2 : (((L.length : Nat) : Int) == m) = true := by rw [hlen]; simp
      replace hlen := Lib.hid hlen
      replace hfa := Lib.hid hfa
      go_wp2_with fail
      refine hi.out.mono ?_
      rintro e w2 ⟨v2, rfl, hO2, hb2⟩
      obtain ⟨a2, c2, rfl, _⟩ := id hO2
      have z2 := hb2.size
      replace hb2 := Lib.hid (hb1.out.trans (hb2.mono z1))
      replace hO2 := Lib.hid hO2
      go_wp2_with fail
      refine (hs.out w2).mono ?_
      rintro e w3 ⟨v3, rfl, hO3, hb3⟩
      obtain ⟨a3, c3, rfl, _⟩ := id hO3
      have z3 := hb3.size
      have hR2 := Lib.hid (hO2.out.row.below hb3 (Nat.le_refl _))
      replace hb3 := Lib.hid (hb2.out.trans (hb3.mono (by omega)))
      have hq := Lib.hid (same_ints _ _ L L w3.heap.size w3 (hR2.out.mono z3) hO3.row (by omega) (by omega))
      clear hO3 hO2
      go_wp2_with fail
      refine hq.out.mono ?_
      rintro e w' ⟨rfl, q, rfl⟩
      rw [hsame.out]
      by_cases k1 : 1 ≤ k
      · obtain ⟨f1, f2, f3, f4⟩ := hfa.out k1
        have hTw : Tab (w3.drewN q) := hT.out.below (below_drewN hb3.out q) (by omega)
        have hso := im_ShadowOf n (.slice a2 L.length c2) L w2.heap.size (w3.drewN q) (hR2.out.drewN q) (show w2.heap.size ≤ w3.heap.size from z3) (by omega) hTw
        rw [hfam] at hso
        simp only [ifL, if_true] at hso
        have hle := im_ShadowLeast m k
        have hfi := im_ShadowFirst n (k - 1) ((sortL (dnL L)).length : Nat)
        rw [f1] at hle
        rw [f3, f4] at hfi
        simp only [ifL, if_true] at hfi
        have hsl : (sortL (dnL L)).length ≤ 1000 := dn_len (famB_lt hfam)
        obtain ⟨T, hTT⟩ : ∃ T, sortL (dnL L) = T := ⟨_, rfl⟩
        rw [hTT] at hso hfi hsl f2
        rw [f2] at hle
        replace hso := Lib.hid hso
        replace hle := Lib.hid hle
        replace hfi := Lib.hid hfi
        replace f1 := Lib.hid f1
        replace f2 := Lib.hid f2
        replace f3 := Lib.hid f3
        replace f4 := Lib.hid f4
        replace hTT := Lib.hid hTT
        replace hfam := Lib.hid hfam
        have hte : (((T.length : Nat) : Int) == ((T.length : Nat) : Int)) = true := by simp
        clear hi hs hTw hq
        go_wp2_with fail
        refine hso.out.mono ?_
        rintro e w4 ⟨v4, rfl, hO4, hb4⟩
        obtain ⟨a4, c4, rfl, _⟩ := id hO4
        have z4 : w3.heap.size ≤ w4.heap.size := hb4.size
        have hb4 := Lib.hid ((below_drewN hb3.out q).trans (hb4.mono (show w.heap.size ≤ w3.heap.size by omega)))
        replace hO4 := Lib.hid hO4.row
        go_wp2_with fail
        refine (hle.out w4).mono ?_
        rintro e w5 ⟨rfl, hb5⟩
        have z5 := hb5.size
        have hR5 := Lib.hid (hO4.out.below hb5 (Nat.le_refl _))
        replace hb5 := Lib.hid (hb4.out.trans (hb5.mono (by omega)))
        go_wp2_with fail
        refine (hfi.out w5).mono ?_
        rintro e w6 ⟨v6, rfl, hO6, hb6⟩
        obtain ⟨a6, c6, rfl, _⟩ := id hO6
        have z6 := hb6.size
        have hR6 := Lib.hid (hR5.out.below hb6 (by omega))
        replace hb6 := Lib.hid (hb5.out.trans (hb6.mono (by omega)))
        have hq2 := Lib.hid (same_ints _ _ T T w6.heap.size w6 hO6.row (hR6.out.mono (by omega)) (by omega) (by omega))
        clear hO6
        go_wp2_with fail
        refine hq2.out.mono ?_
        rintro e w' ⟨rfl, q2, rfl⟩
        rw [hsame.out]
        go_wp2_with fail
        go_ret
        exact ⟨rfl, below_drewN hb6.out q2⟩
      · have k2 : k < 1 := by omega
        clear hi hs
        go_wp2_with fail
        go_ret
        exact ⟨rfl, below_drewN hb3.out q⟩
    · rw [hf] at hi hs
      simp only [ifL, Bool.false_eq_true, if_false] at hi hs
      replace hi := Lib.hid hi
      replace hs := Lib.hid hs
      replace hf := Lib.hid hf
      replace hn := Lib.hid hn
      go_wp2_with fail
      refine hi.out.mono ?_
      rintro e w2 ⟨v2, rfl, hO2, hb2⟩
      obtain ⟨a2, c2, rfl, _⟩ := id hO2
      have z2 := hb2.size
      replace hb2 := Lib.hid (hb1.out.trans (hb2.mono z1))
      replace hO2 := Lib.hid hO2
      go_wp2_with fail
      refine (hs.out w2).mono ?_
      rintro e w3 ⟨v3, rfl, hO3, hb3⟩
      obtain ⟨a3, c3, rfl, _⟩ := id hO3
      have z3 := hb3.size
      have hR2 := Lib.hid (hO2.out.row.below hb3 (Nat.le_refl _))
      replace hb3 := Lib.hid (hb2.out.trans (hb3.mono (by omega)))
      have hR3 := Lib.hid hO3.row
      have hq := Lib.hid (same_ints _ _ [] [] w3.heap.size w3 (hR2.out.mono z3) hO3.row (by simp) (by simp))
      have hqq := Lib.hid (fun q => same_ints _ _ [] [] w3.heap.size (w3.drewN q) ((hR2.out.mono z3).drewN q) (hR3.out.drewN q) (by simp) (by simp))
      clear hO3 hO2
      go_wp2_with fail
      refine hq.out.mono ?_
      rintro e w' ⟨rfl, q, rfl⟩
      rw [hsame.out]
      go_wp2_with fail
      refine (hqq.out q).mono ?_
      rintro e w' ⟨rfl, q2, rfl⟩
      rw [hsame.out]
      go_wp2_with fail
      go_ret
      exact ⟨rfl, below_drewN hb3.out _⟩
end Go.Proofs.YtcejbebepjkpnaaDoor
