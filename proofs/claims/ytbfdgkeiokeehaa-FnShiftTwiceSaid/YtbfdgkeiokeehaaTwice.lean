/- The law FnShiftTwice: shifted twice is shifted once. -/
import Derived.Test.YtbfdgkeiokeehaaDraw4
import Derived.Test.YtbfdgkeiokeehaaTnLaw
namespace Go.Proofs.Ytbfdgkeiokeehaa
open Go.ChangeShapes Go.WideShapes Go.ChangeAt Go.RowKit Go.Proofs

theorem same_l (v u : Value) (xs ys : List Int) (S : Nat) (w : World) (hx : Row w S v xs) (hy : Row w S u ys) (hl : xs.length ≤ 1073741824) (hm : ys.length ≤ 1073741824) :
    Calls Try.prog 14 #[v, u] w fun e w' => e = .returned (.bool (sameB xs ys)) ∧ ∃ n, w' = w.drewN n := by
  obtain ⟨a, cap, rfl, ha⟩ := hx
  obtain ⟨c, cap2, rfl, hc⟩ := hy
  by_cases hne : xs.length = ys.length
  · have hb : (((xs.length : Nat) : Int) != ((ys.length : Nat) : Int)) = false := by simp [hne]
    have hne' := Lib.hid hne
    have ha := Lib.hid ha
    have hc := Lib.hid hc
    clear hne
    go_enter Try.func14, Try.ntmps14
    go_wp2
    go_loopw [5] (fun i wr => ∃ k : Nat, k ≤ xs.length ∧ i = .int .i64 k ∧ Hid (∃ n, wr = w.drewN n) ∧ Hid (∀ j, j < k → xs.getD j 0 = ys.getD j 0)) (fun i _ => xs.length - (intOf i).toNat)
    case atStart => exact ⟨0, Nat.zero_le _, rfl, Lib.hid ⟨0, rfl⟩, Lib.hid (fun j hj => by omega)⟩
    case round =>
      obtain ⟨k, hk, rfl, hw, hsame⟩ := hrel
      obtain ⟨n, rfl⟩ := hw.out
      clear hw
      by_cases hlt : k < xs.length
      · obtain ⟨b1, o1, rfl, s1, c1⟩ := ha.out (by omega)
        have hlt2 : k < ys.length := by have := hne'.out; omega
        obtain ⟨b2, o2, rfl, s2, c2⟩ := hc.out (by omega)
        have k1 : (0 : Int) ≤ (k : Int) := by omega
        have k2 : (k : Int) < (xs.length : Nat) := by omega
        have k3 : (k : Int) < (ys.length : Nat) := by omega
        have e1 := c1 k hlt
        have e2 := c2 k hlt2
        obtain ⟨x, hx⟩ : ∃ x, xs.getD k 0 = x := ⟨_, rfl⟩
        obtain ⟨y, hy⟩ : ∃ y, ys.getD k 0 = y := ⟨_, rfl⟩
        rw [hx] at e1
        rw [hy] at e2
        by_cases hxy : x = y
        · have hsame' := Lib.hid (show ∀ j, j < k + 1 → xs.getD j 0 = ys.getD j 0 from fun j hj => by
            by_cases e : j = k
            · subst e; rw [hx, hy]; exact hxy
            · exact hsame.out j (by omega))
          have hd : (x != y) = false := by simp [hxy]
          clear hsame hxy hx hy c1 c2
          go_wp2
          go_quiet (fail)
          go_wp2
          go_roundw
          case rel => exact ⟨k + 1, by omega, by go_num, Lib.hid ⟨_, by first | rfl | exact drewN_add _ _ _⟩, hsame'⟩
          case measure => simp [intOf]; omega
        · have hf := Lib.hid (show false = sameB xs ys from (decide_eq_false (fun e => hxy (by rw [← hx, ← hy, e]))).symm)
          have hd : (x != y) = true := by simp [hxy]
          clear hsame hxy hx hy c1 c2
          go_wp2
          go_quiet (fail)
          go_wp2
          go_ret
          exact ⟨ret_bool hf.out, _, by first | rfl | exact drewN_add _ _ _⟩
      · have hf := Lib.hid (show true = sameB xs ys from (same_step hne'.out (fun j hj => hsame.out j (by omega))).symm)
        go_wp2
        go_ret
        exact ⟨ret_bool hf.out, _, rfl⟩
  · have hb : (((xs.length : Nat) : Int) != ((ys.length : Nat) : Int)) = true := by simp; omega
    have hf := Lib.hid (show false = sameB xs ys from (decide_eq_false (fun e => hne (by rw [e]))).symm)
    clear ha hc hne
    go_enter Try.func14, Try.ntmps14
    go_wp2
    go_ret
    exact ⟨ret_bool hf.out, 0, rfl⟩
/-- what a draw of a number, a family and two points gives. -/
def ShiftDraw (w : World) (e : Ending) (w' : World) : Prop := ∃ n u xs i k, e = .returned (.tuple #[.int .i64 n, u, .int .i64 i, .int .i64 k]) ∧ xs.length ≤ 300 ∧ Own w' w.heap.size w'.heap.size u xs ∧ Below w.heap.size w w'
set_option maxRecDepth 100000 in
set_option maxHeartbeats 1000000 in
theorem draw_ShiftOf (v : Value) (a : Option Addr) (len cap : Nat) (w : World) (hv : v = .slice a len cap) (hc : len ≤ cap) (hcap : cap ≤ 9223372036854775807) (hB : Bytes w w.heap.size a len) :
    Calls Try.prog 11 #[v] w (ShiftDraw w) := by
  have h0 := Lib.hid (rd_open v a len cap w hv hc hcap hB)
  clear hv hc hcap hB
  go_enter Try.func11, Try.ntmps11
  go_wp2_with fail
  refine (h0.out).mono ?_
  rintro e w0 ⟨r, rfl, hr, hR0, hb0, hz0⟩
  have hrw : w.heap.size ≤ r := by omega
  replace hr := Lib.hid hr
  replace hR0 := Lib.hid hR0
  replace hb0 := Lib.hid hb0
  go_wp2_with fail
  refine (rd_points r _ 0 w0 hR0.out (by omega) (by omega)).mono ?_
  rintro e w1 ⟨n, rfl, hn, hR1, hO1⟩
  have hn1 : 0 ≤ n ∧ n ≤ 9 := by unfold drawnPts at hn; omega
  obtain ⟨hn1, hn2⟩ := hn1
  have hz1 := hO1.size
  have hb1 := Lib.hid (hO1.below hb0.out hrw hb0.out.size)
  have hrl1 := hR1.lt
  replace hR1 := Lib.hid hR1
  clear hn hO1 hR0
  go_wp2_with fail
  refine (draw_family r _ (0 + 2) n w1 hR1.out (by omega) (by omega) hn1 hn2).mono ?_
  rintro e w2 ⟨v2, L, p2, rfl, hL, hF2, hR2, q1, q2, hO2⟩
  obtain ⟨fa, fc, rfl, _⟩ := id hF2
  have hz2 := hO2.size
  have hz01 := hb1.out.size
  have hb2 := Lib.hid (hO2.below hb1.out hrw hb1.out.size)
  replace hR2 := Lib.hid hR2
  replace hF2 := Lib.hid hF2
  clear hO2 hR1
  have hM1 : max 1 n ≤ 10 := by omega
  have hM0 : 1 ≤ max 1 n := by omega
  obtain ⟨M, hM⟩ : ∃ M : Int, max 1 n = M := ⟨_, rfl⟩
  rw [hM] at hM1 hM0
  go_wp2_with fail
  refine (rd_pick r _ p2 M w2 hR2.out q1 (by omega) (by omega)).mono ?_
  rintro e w3 ⟨i, rfl, hi, hR3, hO3⟩
  have hz3 := hO3.size
  have hF3 := Lib.hid (hF2.out.only hO3 hrl1 (Nat.le_refl _))
  have hb3 := Lib.hid (hO3.below hb2.out hrw hb2.out.size)
  replace hR3 := Lib.hid hR3
  clear hi hO3 hR2
  have q3 : 0 ≤ p2 + 1 := by omega
  go_wp2_with fail
  refine (rd_pick r _ (p2 + 1) 20 w3 hR3.out q3 (by omega) (by omega)).mono ?_
  rintro e w4 ⟨y, rfl, ⟨y1, y2, y3, y4⟩, hR4, hO4⟩
  have y5 : y < 20 := y3 (by omega)
  have hz4 := hO4.size
  have hF4 := Lib.hid (hF3.out.only hO4 hrl1 (by omega))
  have hb4 := Lib.hid (hO4.below hb3.out hrw hb3.out.size)
  replace hR4 := Lib.hid hR4
  clear y3 y4 hO4 hR3
  go_wp2_with fail
  have hm1 : M + y / 19 ≤ 1000000 := by omega
  have q4 : 0 ≤ p2 + 1 + 1 := by omega
  refine (rd_pick r _ (p2 + 1 + 1) (M + y / 19) w4 hR4.out q4 (by omega) hm1).mono ?_
  rintro e w5 ⟨k, rfl, hk, hR5, hO5⟩
  have hz5 := hO5.size
  have hF5 := Lib.hid (hF4.out.only hO5 hrl1 (by omega))
  have hb5 := Lib.hid (hO5.below hb4.out hrw hb4.out.size)
  clear hk hO5 hR4 hR5
  go_wp2_with fail
  exact bodyPost_ret (v := .tuple #[.int .i64 n, .slice fa L.length fc, .int .i64 i, .int .i64 k]) (by simp [results, Try.results11, go_sem]) rfl ⟨n, _, L, i, k, rfl, hL, hF5.out.mono (by omega) (by omega), hb5.out⟩
set_option maxRecDepth 100000 in
set_option maxHeartbeats 4000000 in
theorem law_FnShiftTwice (v : Value) (a : Option Addr) (len cap : Nat) (w : World) (hv : v = .slice a len cap) (hc : len ≤ cap) (hcap : cap ≤ 9223372036854775807) (hB : Bytes w w.heap.size a len) :
    Calls Try.prog 3 #[v] w fun e w' => e = .returned (.bool true) ∧ Below w.heap.size w w' := by
  have h0 := Lib.hid (draw_ShiftOf v a len cap w hv hc hcap hB)
  subst hv
  clear hB
  by_cases hbig : 1048576 < len
  · go_enter Try.func3, Try.ntmps3
    go_wp2_with fail
    go_ret
    exact ⟨rfl, Below.refl _ _⟩
  · go_enter Try.func3, Try.ntmps3
    go_wp2_with fail
    refine (h0.out).mono ?_
    rintro e w1 ⟨n, u, xs, i, k, rfl, hl, hO, hb⟩
    obtain ⟨ua, uc, rfl, _⟩ := id hO
    have z1 := hb.size
    have hi := im_ShiftOf n _ xs i k _ w1 hO.row (Nat.le_refl _) (by omega)
    obtain ⟨T, hT⟩ : ∃ T, tnL (fun x => movedI x i k) xs = T := ⟨_, rfl⟩
    have hs := fun (W : World) (S : Nat) (hR : Row W S (.slice ua xs.length uc) xs) (hS : S ≤ W.heap.size) => sp_ShiftOf n _ xs i k S W hR hS (by omega)
    rcases (by cases (famB n xs && (ptB n i && ptB n k)) <;> simp : (famB n xs && (ptB n i && ptB n k)) = true ∨ (famB n xs && (ptB n i && ptB n k)) = false) with hbv | hbv
    · obtain ⟨g1, g2, g3⟩ := and3 hbv
      have f1 : famB n T = true := hT ▸ tn_fam (mv_set g2 g3) g1
      have f2 : tnL (fun x => movedI x i k) T = T := by rw [← hT]; exact tn_twice g2 g3 g1
      have f5 := famB_len f1
      have hb9 : (famB n T && (ptB n i && ptB n k)) = true := by rw [f1, g2, g3]; rfl
      have hi2 := fun (W : World) (S : Nat) (v : Value) (hR : Row W S v T) (hS : S ≤ W.heap.size) => im_ShiftOf n v T i k S W hR hS (by omega)
      simp only [hb9, f2] at hi2
      have hbt := hbv
      simp only [hT, hbt] at hi hs
      replace hi := Lib.hid (show Calls _ _ _ _ (ListPost T true w1) from hi)
      replace hs := Lib.hid (show ∀ (W : World) (S : Nat), Row W S (.slice ua xs.length uc) xs → S ≤ W.heap.size → Calls Try.prog 13 #[.int .i64 n, .slice ua xs.length uc, .int .i64 i, .int .i64 k] W (ListPost T true W) from hs)
      replace hi2 := Lib.hid (show ∀ (W : World) (S : Nat) (v : Value), Row W S v T → S ≤ W.heap.size → Calls Try.prog 12 #[.int .i64 n, v, .int .i64 i, .int .i64 k] W (ListPost T true W) from hi2)
      have hsame := same_self T
      replace hO := Lib.hid hO
      replace hb := Lib.hid hb
      clear hbv hb9 hbt hT f1 f2 g1 g2 g3
      go_wp2_with fail
      refine hi.out.mono ?_
      rintro e w2 ⟨v2, rfl, hO2, hb2'⟩
      obtain ⟨va, vc, rfl, _⟩ := id hO2
      have z2 := hb2'.size
      have hU := Lib.hid (hO.out.below hb2' (Nat.le_refl _))
      replace hO2 := Lib.hid hO2
      replace hb2' := Lib.hid (hb.out.trans (hb2'.mono z1))
      clear hi
      go_wp2_with fail
      refine (hs.out w2 _ hU.out.row z2).mono ?_
      rintro e w3 ⟨v3, rfl, hO3, hb3⟩
      obtain ⟨ya, yc, rfl, _⟩ := id hO3
      have z3 := hb3.size
      have hO23 := Lib.hid (hO2.out.below hb3 (Nat.le_refl _))
      replace hO3 := Lib.hid hO3
      replace hb3 := Lib.hid (hb2'.out.trans (hb3.mono (by omega)))
      have hq : ∀ W, (∃ q, W = w3.drewN q) → Calls Try.prog 14 #[.slice va T.length vc, .slice ya T.length yc] W fun e w' => e = .returned (.bool true) ∧ ∃ n, w' = W.drewN n := by
        rintro W ⟨q, rfl⟩
        have := same_l (.slice va T.length vc) (.slice ya T.length yc) _ _ w3.heap.size (w3.drewN q) ((hO23.out.row.mono z3).drewN q) (hO3.out.row.drewN q) (by omega) (by omega)
        rw [hsame] at this
        exact this
      replace hq := Lib.hid hq
      clear hs
      go_wp2_with fail
      refine (hq.out w3 ⟨0, rfl⟩).mono ?_
      rintro e w4 ⟨rfl, q, rfl⟩
      have hO24 := Lib.hid (hO23.out.drewN q)
      have hb4 := Lib.hid (below_drewN hb3.out q)
      have z4 : w3.heap.size ≤ (w3.drewN q).heap.size := Nat.le_refl _
      obtain ⟨w4, hw4⟩ : ∃ w4, w3.drewN q = w4 := ⟨_, rfl⟩
      rw [hw4] at hO24 hb4 z4 ⊢
      go_wp2_with fail
      refine (hi2.out w4 w4.heap.size _ (hO24.out.row.mono (by omega)) (Nat.le_refl _)).mono ?_
      rintro e w5 ⟨v5, rfl, hO5, hb5⟩
      obtain ⟨xa, xc, rfl, _⟩ := id hO5
      have z5 := hb5.size
      have hO25 := Lib.hid (hO24.out.below hb5 (by omega))
      replace hO5 := Lib.hid hO5
      replace hb5 := Lib.hid (hb4.out.trans (hb5.mono (by omega)))
      have hq5 := same_l (.slice xa T.length xc) (.slice va T.length vc) _ _ w5.heap.size w5 hO5.out.row (hO25.out.row.mono (by omega)) (by omega) (by omega)
      rw [hsame] at hq5
      replace hq5 := Lib.hid hq5
      go_wp2_with fail
      refine (hq5.out).mono ?_
      rintro e w6 ⟨rfl, q6, rfl⟩
      go_wp2_with fail
      go_ret
      exact ⟨rfl, below_drewN hb5.out _⟩
    · simp only [hT, hbv] at hi hs
      replace hi := Lib.hid (show Calls _ _ _ _ (ListPost [] false w1) from hi)
      replace hs := Lib.hid (show ∀ (W : World) (S : Nat), Row W S (.slice ua xs.length uc) xs → S ≤ W.heap.size → Calls Try.prog 13 #[.int .i64 n, .slice ua xs.length uc, .int .i64 i, .int .i64 k] W (ListPost [] false W) from hs)
      replace hO := Lib.hid hO
      replace hb := Lib.hid hb
      have hsame := same_self ([] : List Int)
      clear hbv hT
      go_wp2_with fail
      refine hi.out.mono ?_
      rintro e w2 ⟨v2, rfl, hO2, hb2'⟩
      obtain ⟨va, vc, rfl, _⟩ := id hO2
      have z2 := hb2'.size
      have hU := Lib.hid (hO.out.below hb2' (Nat.le_refl _))
      replace hO2 := Lib.hid hO2
      replace hb2' := Lib.hid (hb.out.trans (hb2'.mono z1))
      clear hi
      go_wp2_with fail
      refine (hs.out w2 _ hU.out.row z2).mono ?_
      rintro e w3 ⟨v3, rfl, hO3, hb3⟩
      obtain ⟨ya, yc, rfl, _⟩ := id hO3
      have z3 := hb3.size
      have hO23 := Lib.hid (hO2.out.below hb3 (Nat.le_refl _))
      replace hO3 := Lib.hid hO3
      replace hb3 := Lib.hid (hb2'.out.trans (hb3.mono (by omega)))
      have hq : ∀ W, (∃ q, W = w3.drewN q) → Calls Try.prog 14 #[.slice va ([] : List Int).length vc, .slice ya ([] : List Int).length yc] W fun e w' => e = .returned (.bool true) ∧ ∃ n, w' = W.drewN n := by
        rintro W ⟨q, rfl⟩
        have := same_l (.slice va ([] : List Int).length vc) (.slice ya ([] : List Int).length yc) _ _ w3.heap.size (w3.drewN q) ((hO23.out.row.mono z3).drewN q) (hO3.out.row.drewN q) (by simp) (by simp)
        rw [hsame] at this
        exact this
      replace hq := Lib.hid hq
      clear hs
      go_wp2_with fail
      refine (hq.out w3 ⟨0, rfl⟩).mono ?_
      rintro e w4 ⟨rfl, q, rfl⟩
      go_wp2_with fail
      refine (hq.out _ ⟨q, rfl⟩).mono ?_
      rintro e w5 ⟨rfl, q5, rfl⟩
      go_wp2_with fail
      go_ret
      exact ⟨rfl, below_drewN hb3.out _⟩
end Go.Proofs.Ytbfdgkeiokeehaa
