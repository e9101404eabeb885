/- Laws of chapter 1 over the program and the table of bits: points, sets of a rank. -/
import Derived.Test.YtmaddbkpolecmaaDoorPd1
import Derived.Test.YtmaddbkpolecmaaDoorSameL
import Derived.BigQuiet
namespace Go.Proofs.YtmaddbkpolecmaaDoor
open Go.ChangeShapes Go.WideShapes Go.ChangeAt Go.RowKit

theorem ptsa_dec : ∀ s : Fin 256, (∀ i : Fin 8, 1 ≤ i.val → i.val < (ptsI s.val).length → (ptsI s.val).getD (i.val - 1) 0 < (ptsI s.val).getD i.val 0) ∧ ((ptsI s.val).length : Int) = cntI s.val ∧ (ptsI s.val).length ≤ 8 := by decide +kernel
theorem ptsa_facts {s : Int} (h1 : 0 ≤ s) (h2 : s < 256) : (∀ i : Nat, 1 ≤ i → i < (ptsI s).length → (ptsI s).getD (i - 1) 0 < (ptsI s).getD i 0) ∧ ((ptsI s).length : Int) = cntI s ∧ (ptsI s).length ≤ 8 := by
  have h := ptsa_dec ⟨s.toNat, by omega⟩
  have e : ((s.toNat : Nat) : Int) = s := Int.toNat_of_nonneg h1
  simp only [e] at h
  exact ⟨fun i a b => h.1 ⟨i, by omega⟩ a b, h.2⟩
set_option maxRecDepth 100000 in
set_option maxHeartbeats 2000000 in
theorem law_FnPoints (v : Value) (a : Option Addr) (len cap : Nat) (w : World) (hv : v = .slice a len cap) (hc : len ≤ cap) (hcap : cap ≤ 9223372036854775807) (hB : Bytes w w.heap.size a len) (hT : Tab w) :
    Calls Tryd.prog 4 #[v] w fun e w' => e = .returned (.bool true) ∧ Below w.heap.size w w' := by
  have h0 := Lib.hid (draw_SetPoints v a len cap w hv hc hcap hB)
  have htl := hT.lt
  replace hT := Lib.hid hT
  subst hv
  clear hB
  by_cases hbig : 1048576 < len
  · go_enter Tryd.func4, Tryd.ntmps4
    go_wp2_with fail
    go_ret
    exact ⟨rfl, Below.refl _ _⟩
  · go_enter Tryd.func4, Tryd.ntmps4
    go_wp2_with fail
    refine (h0.out).mono ?_
    rintro e w1 ⟨n, s, rfl, hb⟩
    have hz := hb.size
    have hT1 := Lib.hid (hT.out.below hb htl)
    replace hb := Lib.hid hb
    rcases (by cases setB n s <;> simp : setB n s = true ∨ setB n s = false) with h | h
    · obtain ⟨s1, s2⟩ := setB_lt h
      obtain ⟨f1, f2, f3⟩ := ptsa_facts s1 s2
      have c1 := Lib.hid (im_points_yes n s h w1 hT1.out)
      have c2 := Lib.hid (fun W => sp_points_yes n s h W)
      have c3 := Lib.hid (fun W => im_size_yes n s h W)
      have hsame : sameB (ptsI s) (ptsI s) = true := decide_eq_true rfl
      obtain ⟨xs, hxs⟩ : ∃ xs, ptsI s = xs := ⟨_, rfl⟩
      rw [hxs] at c1 c2 f1 f2 f3 hsame
      obtain ⟨c, hcc⟩ : ∃ c, cntI s = c := ⟨_, rfl⟩
      rw [hcc] at c3 f2
      have hlen := Lib.hid f2
      replace f1 := Lib.hid f1
      replace hxs := Lib.hid hxs
      replace hcc := Lib.hid hcc
      replace h := Lib.hid h
      clear f2
      go_wp2_with fail
      refine c1.out.mono ?_
      rintro e w2 ⟨v2, rfl, hO2, hb2⟩
      obtain ⟨va, vc, rfl, _⟩ := id hO2
      have z2 := hb2.size
      replace hO2 := Lib.hid hO2
      replace hb2 := Lib.hid (hb.out.trans (hb2.mono hz))
      go_wp2_with fail
      refine (c2.out _).mono ?_
      rintro e w3 ⟨v3, rfl, hO3, hb3⟩
      obtain ⟨ya, yc, rfl, _⟩ := id hO3
      have z3 := hb3.size
      have hO23 := Lib.hid (hO2.out.below hb3 (Nat.le_refl _))
      replace hb3 := Lib.hid (hb2.out.trans (hb3.mono hb2.out.size))
      have hq := same_l (.slice va xs.length vc) (.slice ya xs.length yc) _ _ w3.heap.size w3 (hO23.out.row.mono z3) hO3.row (by omega) (by omega)
      rw [hsame] at hq
      replace hq := Lib.hid hq
      clear hO3
      go_wp2_with fail
      refine hq.out.mono ?_
      rintro e w4 ⟨rfl, q, rfl⟩
      go_wp2_with (go_at_call 19; (with_reducible refine (c3.out _).mono ?_); rintro e w' ⟨rfl, rfl⟩)
      have hO4 := Lib.hid (hO23.out.drewN q)
      have hb4 := Lib.hid (below_drewN hb3.out q)
      obtain ⟨w4, hw4⟩ : ∃ w4, w3.drewN q = w4 := ⟨_, rfl⟩
      rw [hw4] at hO4 hb4 ⊢
      replace hw4 := Lib.hid hw4
      go_loopw [11] (fun i wr => ∃ k : Nat, 1 ≤ k ∧ k ≤ xs.length + 1 ∧ i = .int .i64 k ∧ Hid (∃ m, wr = w4.drewN m)) (fun i _ => xs.length + 1 - (intOf i).toNat)
      case atStart => exact ⟨1, by omega, by omega, rfl, Lib.hid ⟨0, rfl⟩⟩
      case round =>
        obtain ⟨k, hk1, hk2, rfl, hm⟩ := hrel
        obtain ⟨m, rfl⟩ := hm.out
        clear hm
        by_cases hlt : k < xs.length
        · obtain ⟨a', c', e', hcell⟩ := hO4.out.row
          injection e' with e1 e2 e3
          subst e1 e3
          obtain ⟨b1, o1, rfl, t1, cc⟩ := hcell (by omega)
          obtain ⟨j, hj⟩ : ∃ j, k - 1 = j := ⟨_, rfl⟩
          have g1 := cc k hlt
          have g2 := cc j (by omega)
          have hlts := f1.out k (by omega) hlt
          rw [hj] at hlts
          obtain ⟨x, hx⟩ : ∃ x, xs.getD k 0 = x := ⟨_, rfl⟩
          obtain ⟨y, hy⟩ : ∃ y, xs.getD j 0 = y := ⟨_, rfl⟩
          rw [hx] at g1 hlts
          rw [hy] at g2 hlts
          have hle : decide (x ≤ y) = false := decide_eq_false (by omega)
          have k0 : (0 : Int) ≤ (k : Int) := by omega
          have k3 : (k : Int) < (xs.length : Nat) := by omega
          have k4 : (0 : Int) ≤ (j : Int) := by omega
          have k5 : (j : Int) < (xs.length : Nat) := by omega
          have hw : IntKind.i64.wrap ((k : Int) - 1) = (j : Int) := by rw [IntKind.wrap_i64]; omega
          replace hj := Lib.hid hj
          replace hlts := Lib.hid hlts
          replace hx := Lib.hid hx
          replace hy := Lib.hid hy
          clear cc hcell
          go_wp2
          go_quiet (fail)
          go_wp2
          go_roundw
          case rel => exact ⟨k + 1, by omega, by omega, by go_num, Lib.hid ⟨_, by first | rfl | exact drewN_add _ _ _⟩⟩
          case measure => simp [intOf]; omega
        · go_wp2
          go_ret
          exact ⟨ret_bool (by rw [← hlen.out]; simp), below_drewN hb4.out _⟩
    · have c1 := Lib.hid (fun W => im_points_no n s h W)
      have c2 := Lib.hid (fun W => sp_points_no n s h W)
      have hsame : sameB ([] : List Int) [] = true := decide_eq_true rfl
      replace h := Lib.hid h
      go_wp2_with fail
      refine (c1.out _).mono ?_
      rintro e w2 ⟨v2, rfl, hO2, hb2⟩
      obtain ⟨va, vc, rfl, _⟩ := id hO2
      have z2 := hb2.size
      replace hO2 := Lib.hid hO2
      replace hb2 := Lib.hid (hb.out.trans (hb2.mono hz))
      go_wp2_with fail
      refine (c2.out _).mono ?_
      rintro e w3 ⟨v3, rfl, hO3, hb3⟩
      obtain ⟨ya, yc, rfl, _⟩ := id hO3
      have z3 := hb3.size
      have hO23 := Lib.hid (hO2.out.below hb3 (Nat.le_refl _))
      replace hb3 := Lib.hid (hb2.out.trans (hb3.mono hb2.out.size))
      have hq : ∀ W, (∃ q, W = w3.drewN q) → Calls Tryd.prog 18 #[.slice va ([] : List Int).length vc, .slice ya ([] : List Int).length yc] W fun e w' => e = .returned (.bool true) ∧ ∃ n, w' = W.drewN n := by
        rintro W ⟨q, rfl⟩
        have := same_l (.slice va ([] : List Int).length vc) (.slice ya ([] : List Int).length yc) _ _ w3.heap.size (w3.drewN q) ((hO23.out.row.mono z3).drewN q) (hO3.row.drewN q) (by simp) (by simp)
        rw [hsame] at this
        exact this
      replace hq := Lib.hid hq
      go_wp2_with fail
      refine (hq.out w3 ⟨0, rfl⟩).mono ?_
      rintro e w4 ⟨rfl, q, rfl⟩
      go_wp2_with fail
      refine (hq.out _ ⟨q, rfl⟩).mono ?_
      rintro e w5 ⟨rfl, q5, rfl⟩
      go_wp2_with fail
      go_ret
      exact ⟨rfl, below_drewN hb3.out _⟩
/-- what a draw of a number, a size and a rank gives. -/
def RankDraw (w : World) (e : Ending) (w' : World) : Prop := ∃ n k r, e = .returned (.tuple #[.int .i64 n, .int .i64 k, .int .i64 r]) ∧ Below w.heap.size w w' ∧ -2 ≤ r ∧ r ≤ 1000000
set_option maxRecDepth 100000 in
set_option maxHeartbeats 1000000 in
theorem draw_SetUnrank (v : Value) (a : Option Addr) (len cap : Nat) (w : World) (hv : v = .slice a len cap) (hc : len ≤ cap) (hcap : cap ≤ 9223372036854775807) (hB : Bytes w w.heap.size a len) :
    Calls Tryd.prog 25 #[v] w (RankDraw w) := by
  have h0 := Lib.hid (rd_open v a len cap w hv hc hcap hB)
  clear hv hc hcap hB
  go_enter Tryd.func25, Tryd.ntmps25
  go_wp2_with fail
  refine (h0.out).mono ?_
  rintro e w0 ⟨r, rfl, hr, hR0, hb0, hz0⟩
  have hrw : w.heap.size ≤ r := by omega
  replace hr := Lib.hid hr
  replace hR0 := Lib.hid hR0
  replace hb0 := Lib.hid hb0
  go_wp2_with fail
  refine (rd_points r _ 0 w0 hR0.out (by omega) (by omega)).mono ?_
  rintro e w1 ⟨n, rfl, hn, hR1, hO1⟩
  have hn1 : 0 ≤ n ∧ n ≤ 9 := by unfold drawnPts at hn; omega
  obtain ⟨hn1, hn2⟩ := hn1
  have hb1 := Lib.hid (hO1.below hb0.out hrw hb0.out.size)
  replace hR1 := Lib.hid hR1
  clear hn hO1 hR0
  have hM1 : max 1 n ≤ 10 := by omega
  have hM0 : 1 ≤ max 1 n := by omega
  obtain ⟨M, hM⟩ : ∃ M : Int, max 1 n = M := ⟨_, rfl⟩
  rw [hM] at hM1 hM0
  go_wp2_with fail
  refine (rd_pick r _ (0 + 2) (M + 1) w1 hR1.out (by omega) (by omega) (by omega)).mono ?_
  rintro e w2 ⟨k, rfl, hk, hR2, hO2⟩
  have hb2 := Lib.hid (hO2.below hb1.out hrw hb1.out.size)
  replace hR2 := Lib.hid hR2
  clear hk hO2 hR1
  go_wp2_with fail
  refine (rd_pick r _ (0 + 2 + 1) 21 w2 hR2.out (by omega) (by omega) (by omega)).mono ?_
  rintro e w3 ⟨x, rfl, ⟨x1, x2, x3, x4⟩, hR3, hO3⟩
  have hb3 := Lib.hid (hO3.below hb2.out hrw hb2.out.size)
  replace hR3 := Lib.hid hR3
  clear x3 x4 hO3 hR2
  go_wp2_with fail
  refine (rd_pick r _ (0 + 2 + 1 + 1) 20 w3 hR3.out (by omega) (by omega) (by omega)).mono ?_
  rintro e w4 ⟨y, rfl, ⟨y1, y2, y3, y4⟩, hR4, hO4⟩
  have y5 : y < 20 := y3 (by omega)
  have hb4 := Lib.hid (hO4.below hb3.out hrw hb3.out.size)
  clear y3 y4 hO4 hR3 hR4
  go_wp2_with fail
  exact bodyPost_ret (v := .tuple #[.int .i64 n, .int .i64 k, .int .i64 (x - y / 19)]) (by simp [results, Tryd.results25, go_sem]) rfl ⟨n, k, _, rfl, hb4.out, by omega, by omega⟩
theorem unr_mono_dec : ∀ k : Fin 9, ∀ r : Fin 71, ((r.val : Nat) : Int) + 1 < chI 8 k.val → unrI 0 r.val k.val < unrI 0 (r.val + 1) k.val := by decide +kernel
theorem ch8_dec : ∀ n : Fin 9, ∀ k : Fin 9, chI n.val k.val ≤ chI 8 k.val ∧ chI n.val k.val ≤ 70 := by decide +kernel
theorem unr_mono {n k r : Int} (h : unrankOk n k r) (h0 : 0 < r) : unrankOk n k (r - 1) ∧ unrI 0 (r - 1) k.toNat < unrI 0 r k.toNat := by
  obtain ⟨n1, n2, k1, k2, r1, r2⟩ := h
  have e1 : ((n.toNat : Nat) : Int) = n := Int.toNat_of_nonneg (by omega)
  have e2 : ((k.toNat : Nat) : Int) = k := Int.toNat_of_nonneg k1
  have h8 := ch8_dec ⟨n.toNat, by omega⟩ ⟨k.toNat, by omega⟩
  simp only [e1, e2] at h8
  refine ⟨⟨n1, n2, k1, k2, by omega, by omega⟩, ?_⟩
  have e3 : (((r - 1).toNat : Nat) : Int) = r - 1 := Int.toNat_of_nonneg (by omega)
  have h := unr_mono_dec ⟨k.toNat, by omega⟩ ⟨(r - 1).toNat, by omega⟩ (by simp only [e2, e3]; omega)
  simp only [e3] at h
  rw [show r - 1 + 1 = r by omega] at h
  exact h
set_option maxRecDepth 100000 in
set_option maxHeartbeats 4000000 in
theorem law_FnUnrank (v : Value) (a : Option Addr) (len cap : Nat) (w : World) (hv : v = .slice a len cap) (hc : len ≤ cap) (hcap : cap ≤ 9223372036854775807) (hB : Bytes w w.heap.size a len) (hT : Tab w) :
    Calls Tryd.prog 6 #[v] w fun e w' => e = .returned (.bool true) ∧ Below w.heap.size w w' := by
  have h0 := Lib.hid (draw_SetUnrank v a len cap w hv hc hcap hB)
  have htl := hT.lt
  replace hT := Lib.hid hT
  subst hv
  clear hB
  by_cases hbig : 1048576 < len
  · go_enter Tryd.func6, Tryd.ntmps6
    go_wp2_with fail
    go_ret
    exact ⟨rfl, Below.refl _ _⟩
  · go_enter Tryd.func6, Tryd.ntmps6
    go_wp2_with fail
    refine (h0.out).mono ?_
    rintro e w1 ⟨n, k, r, rfl, hb, r1, r2⟩
    have hz := hb.size
    have hT1 := Lib.hid (hT.out.below hb htl)
    replace hb := Lib.hid hb
    by_cases h : unrankOk n k r
    · obtain ⟨g1, g2, g3, g4, g5⟩ := unrankOk_facts h
      obtain ⟨n1, n2, k1, k2, p1, p2⟩ := id h
      have hset : setB n (unrI 0 r k.toNat) = true := setB_mk ⟨n1, n2, g2, g3⟩
      obtain ⟨s1, s2⟩ := setB_lt hset
      have c1 := Lib.hid (fun W => im_unrank_yes n k r h W)
      have c2 := Lib.hid (fun W => sp_unrank_yes n k r h W)
      have c3 := im_SetRank_yes n _ hset w1 hT1.out
      have c4 := law_size _ s1 s2
      rw [g5] at c3
      rw [g4] at c4
      have hmono := fun h0 => unr_mono h h0
      have hno : ¬ 0 < r → ¬ unrankOk n k (r - 1) := fun h1 h2 => by have := h2.2.2.2.2.1; omega
      obtain ⟨V, hV⟩ : ∃ V, unrI 0 r k.toNat = V := ⟨_, rfl⟩
      rw [hV] at c1 c2 c3 c4 hmono
      replace c3 := Lib.hid c3
      replace c4 := Lib.hid c4
      replace hV := Lib.hid hV
      replace h := Lib.hid h
      replace hset := Lib.hid hset
      clear g1 g2 g3 g4 g5 p1 p2 s1 s2
      by_cases hr0 : 0 < r
      · obtain ⟨m1, m2⟩ := hmono hr0
        have c5 := Lib.hid (fun W => im_unrank_yes n k (r - 1) m1 W)
        obtain ⟨U, hU⟩ : ∃ U, unrI 0 (r - 1) k.toNat = U := ⟨_, rfl⟩
        rw [hU] at c5 m2
        replace hU := Lib.hid hU
        replace m1 := Lib.hid m1
        clear hmono hno
        go_wp2_with (first
          | (go_at_call 23; first | ((with_reducible refine (c1.out _).mono ?_); rintro e w' ⟨rfl, rfl⟩) | ((with_reducible refine (c5.out _).mono ?_); rintro e w' ⟨rfl, rfl⟩))
          | (go_at_call 26; (with_reducible refine (c2.out _).mono ?_); rintro e w' ⟨rfl, rfl⟩)
          | (go_at_call 21; (with_reducible refine (c3.out).mono ?_); rintro e w2 ⟨rfl, hb2⟩; replace hb2 := Lib.hid (hb.out.trans (hb2.mono hz)))
          | (go_at_call 24; (with_reducible refine (c4.out _).mono ?_); rintro e w' ⟨rfl, rfl⟩))
        go_ret
        first | exact ⟨rfl, hb2.out⟩ | exact ⟨ret_bool (by simp), hb2.out⟩
      · have c5 := Lib.hid (fun W => im_unrank_no n k (r - 1) (hno hr0) W)
        clear hmono hno
        go_wp2_with (first
          | (go_at_call 23; first | ((with_reducible refine (c1.out _).mono ?_); rintro e w' ⟨rfl, rfl⟩) | ((with_reducible refine (c5.out _).mono ?_); rintro e w' ⟨rfl, rfl⟩))
          | (go_at_call 26; (with_reducible refine (c2.out _).mono ?_); rintro e w' ⟨rfl, rfl⟩)
          | (go_at_call 21; (with_reducible refine (c3.out).mono ?_); rintro e w2 ⟨rfl, hb2⟩; replace hb2 := Lib.hid (hb.out.trans (hb2.mono hz)))
          | (go_at_call 24; (with_reducible refine (c4.out _).mono ?_); rintro e w' ⟨rfl, rfl⟩))
        go_ret
        first | exact ⟨rfl, hb2.out⟩ | exact ⟨ret_bool (by simp; omega), hb2.out⟩
    · have c1 := Lib.hid (fun W => im_unrank_no n k r h W)
      have c2 := Lib.hid (fun W => sp_unrank_no n k r h W)
      replace h := Lib.hid h
      go_wp2_with (first
        | (go_at_call 23; (with_reducible refine (c1.out _).mono ?_); rintro e w' ⟨rfl, rfl⟩)
        | (go_at_call 26; (with_reducible refine (c2.out _).mono ?_); rintro e w' ⟨rfl, rfl⟩))
      go_ret
      exact ⟨rfl, hb.out⟩
end Go.Proofs.YtmaddbkpolecmaaDoor
