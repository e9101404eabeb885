/- The law of pairs. -/
import Derived.Test.YtielgfjecjoloaaCp4
import Derived.Test.YtielgfjecjoloaaPa3a
import Derived.Test.YtielgfjecjoloaaDrawS
import Derived.Test.YtielgfjecjoloaaSizeL
import Derived.Test.YtielgfjecjoloaaSameL
import Derived.BigQuiet
namespace Go.Proofs.Ytielgfjecjoloaa
open Go.ChangeShapes Go.WideShapes Go.ChangeAt Go.RowKit

theorem draw_ChainPairs (v : Value) (a : Option Addr) (len cap : Nat) (w : World) (hv : v = .slice a len cap) (hc : len ≤ cap) (hcap : cap ≤ 9223372036854775807) (hB : Bytes w w.heap.size a len) :
    Calls Try.prog 24 #[v] w (OneDraw w) := by
  have h0 := Lib.hid (draw_one v a len cap w hv hc hcap hB)
  clear hv hc hcap hB
  go_enter Try.func24, Try.ntmps24
  go_wp2_with fail
  refine (h0.out).mono ?_
  rintro e w1 ⟨n, s, rfl, hb⟩
  replace hb := Lib.hid hb
  go_wp2_with fail
  go_ret2
  exact ⟨_, _, rfl, hb.out⟩
set_option maxRecDepth 100000 in
set_option maxHeartbeats 8000000 in
theorem law_FnPairs (v : Value) (a : Option Addr) (len cap : Nat) (w : World) (hv : v = .slice a len cap) (hc : len ≤ cap) (hcap : cap ≤ 9223372036854775807) (hB : Bytes w w.heap.size a len) :
    Calls Try.prog 7 #[v] w fun e w' => e = .returned (.bool true) ∧ Below w.heap.size w w' := by
  have h0 := Lib.hid (draw_ChainPairs v a len cap w hv hc hcap hB)
  subst hv
  clear hB
  by_cases hbig : 1048576 < len
  · go_enter Try.func7, Try.ntmps7
    go_wp2_with fail
    go_ret
    exact ⟨rfl, Below.refl _ _⟩
  · go_enter Try.func7, Try.ntmps7
    go_wp2_with fail
    refine (h0.out).mono ?_
    rintro e w1 ⟨n, s, rfl, hb⟩
    have hz := hb.size
    replace hb := Lib.hid hb
    obtain ⟨xs, hxs⟩ : ∃ xs, pairsI n s = xs := ⟨_, rfl⟩
    have hxl : xs.length ≤ 1000000 := by rw [← hxs]; exact pairs_len n s
    have hsame : sameB xs xs = true := decide_eq_true rfl
    have d1 := Lib.hid (by have h := im_ChainPairs n s w1; rw [hxs] at h; exact h)
    have c2 := Lib.hid (fun W => by have h := sp_ChainPairs n s W; rw [hxs] at h; exact h)
    rcases (by cases setB n s <;> simp : setB n s = true ∨ setB n s = false) with h | h
    · obtain ⟨n1, n2, s1, s2⟩ := setB_yes h
      obtain ⟨-, s256⟩ := setB_lt h
      obtain ⟨N, rfl⟩ := Int.eq_ofNat_of_zero_le (show 0 ≤ n by omega)
      rw [Int.toNat_natCast] at s2
      have hL : xs = prL s N N := by rw [← hxs, pairsI, if_pos h, Int.toNat_natCast]
      have hlen : xs.length = N := by rw [hL]; exact pr_len s N N
      have hlaw := fun p (hp : p < N) => pr_law (N := N) (by omega) s1 s2 p hp
      rw [← hL] at hlaw
      have d1 := d1.out
      have c2 := c2.out
      rw [h] at d1
      simp only [h] at c2
      replace hlen := Lib.hid hlen
      replace d1 := Lib.hid d1
      replace c2 := Lib.hid c2
      replace hlaw := Lib.hid hlaw
      replace hL := Lib.hid hL
      replace hxs := Lib.hid hxs
      replace h := Lib.hid h
      go_wp2_with fail
      refine d1.out.mono ?_
      rintro e w2 ⟨v2, rfl, hO2, hb2⟩
      obtain ⟨va, vc, rfl, _⟩ := id hO2
      have z2 := hb2.size
      replace hO2 := Lib.hid hO2
      replace hb2 := Lib.hid (hb.out.trans (hb2.mono hz))
      go_wp2_with fail
      refine (c2.out _).mono ?_
      rintro e w3 ⟨v3, rfl, hO3, hb3⟩
      obtain ⟨ya, yc, rfl, _⟩ := id hO3
      have z3 := hb3.size
      have hO23 := Lib.hid (hO2.out.below hb3 (Nat.le_refl _))
      replace hb3 := Lib.hid (hb2.out.trans (hb3.mono hb2.out.size))
      have hq := same_l (.slice va xs.length vc) (.slice ya xs.length yc) _ _ w3.heap.size w3 (hO23.out.row.mono z3) hO3.row (by omega) (by omega)
      rw [hsame] at hq
      replace hq := Lib.hid hq
      clear hO3
      go_wp2_with fail
      refine hq.out.mono ?_
      rintro e w4 ⟨rfl, q, rfl⟩
      have hR4 : Row (w3.drewN q) w3.heap.size (.slice va xs.length vc) xs := (hO23.out.row.mono z3).drewN q
      have hb4 := Lib.hid (below_drewN hb3.out q)
      obtain ⟨w4, hw4⟩ : ∃ w4, w3.drewN q = w4 := ⟨_, rfl⟩
      rw [hw4] at hb4 hR4 ⊢
      obtain ⟨ra, rc, hre, hrow⟩ := hR4
      cases hre
      replace hrow := Lib.hid hrow
      replace hw4 := Lib.hid hw4
      have hlen := hlen.out
      rw [hlen]
      clear hO23 hq hb3
      go_wp2_with fail
      go_loopw [9] (fun i wr => ∃ k : Nat, k ≤ N ∧ i = .int .i64 (k : Nat) ∧ Hid (∃ m, wr = w4.drewN m)) (fun i _ => N - (intOf i).toNat)
      case atStart => exact ⟨0, by omega, rfl, Lib.hid ⟨0, rfl⟩⟩
      case round =>
        obtain ⟨k, hk, rfl, hm⟩ := hrel
        obtain ⟨m, hm1⟩ := hm.out
        by_cases hlt : k < N
        · obtain ⟨b1, o1, rfl, t1, cc⟩ := hrow.out (by omega)
          have k1 : (0 : Int) ≤ (k : Int) := by omega
          have k2 : (k : Int) < (N : Nat) := by omega
          have e1 : wr.cell? ⟨b1, o1 + k, none⟩ = some (.int .i64 (xs.getD k 0)) := by rw [hm1]; exact cc k (by omega)
          have hlk := hlaw.out k hlt
          obtain ⟨y, hy⟩ : ∃ y, xs.getD k 0 = y := ⟨_, rfl⟩
          rw [hy] at e1 hlk
          have hnx := Lib.hid (fun j => show ∃ p, wr.drewN j = w4.drewN p from ⟨m + j, by rw [hm1]; exact World.drewN_drewN w4 m j⟩)
          by_cases hneg : y < 0
          · replace hm1 := Lib.hid hm1
            replace hy := Lib.hid hy
            clear cc hlk
            go_wp2_with fail
            go_roundw
            case rel => exact ⟨k + 1, by omega, by go_num, Lib.hid (hnx.out 0)⟩
            case measure => simp [intOf]; omega
          · obtain ⟨t, rfl, ht, hpt, hdec⟩ := hlk (by omega)
            have e2 : wr.cell? ⟨b1, o1 + t, none⟩ = some (.int .i64 (k : Nat)) := by rw [hm1, ← hpt]; exact cc t (by omega)
            have hbit := bit20 (p := k) s1 s256 (by omega)
            have t0 : (0 : Int) ≤ (t : Int) := by omega
            have t2 : (t : Int) < (N : Nat) := by omega
            have k64 : (k : Int) < 64 := by omega
            obtain ⟨hbv, hhb⟩ : ∃ b, hasB s (k : Nat) = b := ⟨_, rfl⟩
            rw [hhb] at hdec hbit
            have hnn : ¬ ((t : Int) < 0) := by omega
            replace hm1 := Lib.hid hm1
            replace hy := Lib.hid hy
            replace hpt := Lib.hid hpt
            replace hhb := Lib.hid hhb
            clear cc hlk
            rcases (by cases hbv <;> simp : hbv = true ∨ hbv = false) with rfl | rfl
            · rw [if_pos ⟨by omega, rfl⟩] at hbit
              have hd1 : decide ((k : Int) < (t : Int)) = false := hdec
              have hd2 : ¬ ((k : Int) < (t : Int)) := of_decide_eq_false hd1
              clear hdec
              go_wp2_with fail
              go_roundw
              case rel => exact ⟨k + 1, by omega, by go_num, Lib.hid (hnx.out 0)⟩
              case measure => simp [intOf]; omega
            · rw [if_neg (by simp)] at hbit
              have hd1 : decide ((k : Int) < (t : Int)) = true := hdec
              have hd2 : (k : Int) < (t : Int) := of_decide_eq_true hd1
              clear hdec
              go_wp2_with fail
              go_roundw
              case rel => exact ⟨k + 1, by omega, by go_num, Lib.hid (hnx.out 0)⟩
              case measure => simp [intOf]; omega
        · obtain rfl : k = N := by omega
          have hfin := Lib.hid (show Below w.heap.size w wr by rw [hm1]; exact below_drewN hb4.out m)
          replace hm1 := Lib.hid hm1
          go_wp2_with fail
          go_ret
          exact ⟨ret_bool (by simp), hfin.out⟩
    · have hx0 : xs = [] := by rw [← hxs, pairsI, h, if_neg (by simp)]
      subst hx0
      have d1 := d1.out
      have c3 := c2.out
      rw [h] at d1
      simp only [h] at c3
      replace d1 := Lib.hid d1
      replace c3 := Lib.hid c3
      clear c2
      replace h := Lib.hid h
      replace hxs := Lib.hid hxs
      go_wp2_with fail
      refine d1.out.mono ?_
      rintro e w2 ⟨v2, rfl, hO2, hb2⟩
      obtain ⟨va, vc, rfl, _⟩ := id hO2
      have z2 := hb2.size
      replace hO2 := Lib.hid hO2
      replace hb2 := Lib.hid (hb.out.trans (hb2.mono hz))
      go_wp2_with fail
      refine (c3.out _).mono ?_
      rintro e w3 ⟨v3, rfl, hO3, hb3⟩
      obtain ⟨ya, yc, rfl, _⟩ := id hO3
      have z3 := hb3.size
      have hO23 := Lib.hid (hO2.out.below hb3 (Nat.le_refl _))
      replace hb3 := Lib.hid (hb2.out.trans (hb3.mono hb2.out.size))
      have hq : ∀ W, (∃ q, W = w3.drewN q) → Calls Try.prog 16 #[.slice va ([] : List Int).length vc, .slice ya ([] : List Int).length yc] W fun e w' => e = .returned (.bool true) ∧ ∃ n, w' = W.drewN n := by
        rintro W ⟨q, rfl⟩
        have := same_l (.slice va ([] : List Int).length vc) (.slice ya ([] : List Int).length yc) _ _ w3.heap.size (w3.drewN q) ((hO23.out.row.mono z3).drewN q) (hO3.row.drewN q) (by simp) (by simp)
        rw [hsame] at this
        exact this
      replace hq := Lib.hid hq
      go_wp2_with fail
      refine (hq.out w3 ⟨0, rfl⟩).mono ?_
      rintro e w4 ⟨rfl, q, rfl⟩
      go_wp2_with fail
      refine (hq.out _ ⟨q, rfl⟩).mono ?_
      rintro e w5 ⟨rfl, q5, rfl⟩
      go_wp2_with fail
      go_ret
      exact ⟨rfl, below_drewN hb3.out _⟩
end Go.Proofs.Ytielgfjecjoloaa
