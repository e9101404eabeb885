/- Laws of chapter 6 over the program: FnMost, FnStar. -/
import Derived.Test.YtaljnnjlhmlcoaaIs3
import Derived.Test.YtaljnnjlhmlcoaaSh2
import Derived.Test.YtaljnnjlhmlcoaaDraw
import Derived.Test.YtaljnnjlhmlcoaaSameL
namespace Go.Proofs.Ytaljnnjlhmlcoaa
open Go.ChangeShapes Go.WideShapes Go.ChangeAt Go.RowKit Go.Proofs

/-- points, a size and a point as they are drawn. -/
def StarDraw (w : World) (e : Ending) (w' : World) : Prop := ∃ n k p, e = .returned (.tuple #[.int .i64 n, .int .i64 k, .int .i64 p]) ∧ drawnPts n ∧ Below w.heap.size w w'
def MostDraw (w : World) (e : Ending) (w' : World) : Prop := ∃ n k, e = .returned (.tuple #[.int .i64 n, .int .i64 k]) ∧ drawnPts n ∧ Below w.heap.size w w'
set_option maxRecDepth 100000 in
set_option maxHeartbeats 2000000 in
theorem draw_Star (v : Value) (a : Option Addr) (len cap : Nat) (w : World) (hv : v = .slice a len cap) (hc : len ≤ cap) (hcap : cap ≤ 9223372036854775807) (hB : Bytes w w.heap.size a len) :
    Calls Try.prog 7 #[v] w (StarDraw w) := by
  have h0 := Lib.hid (rd_open v a len cap w hv hc hcap hB)
  clear hv hc hcap hB
  go_enter Try.func7, Try.ntmps7
  go_wp2_with fail
  refine (h0.out).mono ?_
  rintro e w0 ⟨r, rfl, hr, hR0, hb0, hz0⟩
  have hrw : w.heap.size ≤ r := by omega
  replace hr := Lib.hid hr
  replace hR0 := Lib.hid hR0
  replace hb0 := Lib.hid hb0
  go_wp2_with fail
  refine (rd_points r _ 0 w0 hR0.out (by omega) (by omega)).mono ?_
  rintro e w1 ⟨n, rfl, hn, hR1, hO1⟩
  have hb1 := Lib.hid (hO1.below hb0.out hrw hb0.out.size)
  replace hR1 := Lib.hid hR1
  have hn2 : 0 ≤ n ∧ n ≤ 9 := by unfold drawnPts at hn; omega
  obtain ⟨m1, m2⟩ := hn2
  replace hn := Lib.hid hn
  clear hO1 hR0
  go_wp2_with fail
  refine (rd_pick r _ (0 + 2) _ w1 hR1.out (by omega) (by omega) (by omega)).mono ?_
  rintro e w2 ⟨k, rfl, ⟨x1, x2, _, _⟩, hR2, hO2⟩
  have hb2 := Lib.hid (hO2.below hb1.out hrw hb1.out.size)
  replace hR2 := Lib.hid hR2
  clear hO2 hR1
  go_wp2_with fail
  refine (rd_pick r _ (0 + 2 + 1) _ w2 hR2.out (by omega) (by omega) (by omega)).mono ?_
  rintro e w3 ⟨x, rfl, ⟨y1, _, y3, _⟩, hR3, hO3⟩
  have y4 := y3 (by omega)
  have hb3 := Lib.hid (hO3.below hb2.out hrw hb2.out.size)
  replace hR3 := Lib.hid hR3
  clear hO3 hR2 y3
  go_wp2_with fail
  refine (rd_pick r _ (0 + 2 + 1 + 1) _ w3 hR3.out (by omega) (by omega) (by omega)).mono ?_
  rintro e w4 ⟨p, rfl, ⟨z1, z2, _, _⟩, hR4, hO4⟩
  have hb4 := Lib.hid (hO4.below hb3.out hrw hb3.out.size)
  clear hO4 hR4
  go_wp2_with fail
  exact bodyPost_ret (v := .tuple #[.int .i64 n, .int .i64 k, .int .i64 p]) (by simp [results, Try.results7, go_sem]) rfl ⟨n, k, p, rfl, hn.out, hb4.out⟩
set_option maxRecDepth 100000 in
theorem draw_Most (v : Value) (a : Option Addr) (len cap : Nat) (w : World) (hv : v = .slice a len cap) (hc : len ≤ cap) (hcap : cap ≤ 9223372036854775807) (hB : Bytes w w.heap.size a len) :
    Calls Try.prog 13 #[v] w (MostDraw w) := by
  have h0 := Lib.hid (draw_Star v a len cap w hv hc hcap hB)
  clear hv hc hcap hB
  go_enter Try.func13, Try.ntmps13
  go_wp2_with fail
  refine (h0.out).mono ?_
  rintro e w1 ⟨n, k, p, rfl, hn, hb⟩
  replace hn := Lib.hid hn
  replace hb := Lib.hid hb
  go_wp2_with fail
  go_ret2
  exact ⟨_, _, rfl, hn.out, hb.out⟩
theorem lev_cross_dec : ∀ n : Fin 7, ∀ k : Fin 7, 1 ≤ n.val → k.val ≤ n.val → n.val < 2 * k.val → crsB (n.val : Nat) (levL (n.val : Nat) (k.val : Nat)) (levL (n.val : Nat) (k.val : Nat)) = true := by decide +kernel
theorem lev_cross {n k : Int} (n1 : 1 ≤ n) (n2 : n ≤ 6) (k2 : k ≤ n) (h : n < 2 * k) : crsB n (levL n k) (levL n k) = true := by
  obtain ⟨N, rfl⟩ := Int.eq_ofNat_of_zero_le (show 0 ≤ n by omega)
  obtain ⟨K, rfl⟩ := Int.eq_ofNat_of_zero_le (show 0 ≤ k by omega)
  exact lev_cross_dec ⟨N, by omega⟩ ⟨K, by omega⟩ (by dsimp only; omega) (by dsimp only; omega) (by dsimp only; omega)
theorem str_dec : ∀ n : Fin 7, ∀ k : Fin 7, ∀ p : Fin 6, 1 ≤ k.val → k.val ≤ n.val → p.val < n.val → crsB (n.val : Nat) (strL (n.val : Nat) (k.val : Nat) (p.val : Nat)) (strL (n.val : Nat) (k.val : Nat) (p.val : Nat)) = true ∧
    (((strL (n.val : Nat) (k.val : Nat) (p.val : Nat)).length : Nat) : Int) = chI ((n.val : Nat) - 1) ((k.val : Nat) - 1) := by decide +kernel
theorem str_facts {n k p : Int} (n2 : n ≤ 6) (k1 : 1 ≤ k) (k2 : k ≤ n) (p1 : 0 ≤ p) (p2 : p < n) : crsB n (strL n k p) (strL n k p) = true ∧ (((strL n k p).length : Nat) : Int) = chI (n - 1) (k - 1) := by
  obtain ⟨N, rfl⟩ := Int.eq_ofNat_of_zero_le (show 0 ≤ n by omega)
  obtain ⟨K, rfl⟩ := Int.eq_ofNat_of_zero_le (show 0 ≤ k by omega)
  obtain ⟨p, rfl⟩ := Int.eq_ofNat_of_zero_le p1
  exact str_dec ⟨N, by omega⟩ ⟨K, by omega⟩ ⟨p, by omega⟩ (by dsimp only; omega) (by dsimp only; omega) (by dsimp only; omega)
set_option maxRecDepth 100000 in
set_option maxHeartbeats 4000000 in
theorem law_FnMost (v : Value) (a : Option Addr) (len cap : Nat) (w : World) (hv : v = .slice a len cap) (hc : len ≤ cap) (hcap : cap ≤ 9223372036854775807) (hB : Bytes w w.heap.size a len) :
    Calls Try.prog 4 #[v] w fun e w' => e = .returned (.bool true) ∧ Below w.heap.size w w' := by
  have h0 := Lib.hid (draw_Most v a len cap w hv hc hcap hB)
  subst hv
  clear hB
  by_cases hbig : 1048576 < len
  · go_enter Try.func4, Try.ntmps4
    go_wp2_with fail
    go_ret
    exact ⟨rfl, Below.refl _ _⟩
  · go_enter Try.func4, Try.ntmps4
    go_wp2_with fail
    refine (h0.out).mono ?_
    rintro e w1 ⟨n, k, rfl, hn, hb⟩
    have hb1 := Lib.hid hb
    have hi := im_IntersectMost n k
    have hs := sp_IntersectMost n k
    clear hb
    rcases mst_cases n k with ⟨hbv, n1, n2, k1, k2⟩ | ⟨hbv, hno⟩
    · have n6 : n ≤ 6 := by unfold drawnPts at hn; omega
      have hlv := fun W => im_LevelNew n k W
      rw [szB_mk ⟨n1, n2, by omega, k2⟩] at hlv
      have hlen := levL_len n1 n2 (show 0 ≤ k by omega) k2
      have hl256 := levL_len256 (k := k) n1 n2
      have hcr := lev_cross n1 n6 k2
      have hval : mstV n k = if 2 * k ≤ n then chI (n - 1) (k - 1) else chI n k := by unfold mstV; rw [hbv]; rfl
      rw [hbv] at hi hs
      obtain ⟨c, hcv⟩ : ∃ c, mstV n k = c := ⟨_, rfl⟩
      rw [hcv] at hi hs hval
      replace hlv := fun W => (show Calls _ _ _ _ (ListPost (levL n k) true W) from hlv W)
      obtain ⟨T, hT⟩ : ∃ T, levL n k = T := ⟨_, rfl⟩
      rw [hT] at hlv hlen hl256 hcr
      have hcc : (c != c) = false := by simp
      replace hi := Lib.hid hi
      replace hs := Lib.hid hs
      replace hlv := Lib.hid hlv
      replace hn := Lib.hid hn
      replace hbv := Lib.hid hbv
      replace hcv := Lib.hid hcv
      replace hT := Lib.hid hT
      by_cases h2 : 2 * k ≤ n
      · replace hval := Lib.hid hval
        replace hlen := Lib.hid hlen
        replace hcr := Lib.hid hcr
        go_wp2_with (first | (go_at_call 11; refine (hi.out _).mono ?_; rintro e w' ⟨rfl, rfl⟩) | (go_at_call 14; refine (hs.out _).mono ?_; rintro e w' ⟨rfl, rfl⟩))
        refine (hlv.out _).mono ?_
        rintro e w2 ⟨v2, rfl, hN, hbn⟩
        obtain ⟨c2, d2, rfl, _⟩ := id hN
        have hb2 := Lib.hid (hb1.out.trans (hbn.mono hb1.out.size))
        clear hN hbn
        go_wp2_with fail
        go_ret
        exact ⟨rfl, hb2.out⟩
      · rw [if_neg h2] at hval
        rw [← hval] at hlen
        have him := fun (W : World) (u : Value) (h1 : Row W W.heap.size u T) => im_IntersectIn n u T W.heap.size W h1 (Nat.le_refl _) (by omega)
        rw [hcr (by omega)] at him
        have hce : ((T.length : Nat) : Int) = c := hlen
        have hcb : (((T.length : Nat) : Int) == c) = true := by simp [hce]
        replace him := Lib.hid him
        replace hval := Lib.hid hval
        replace hlen := Lib.hid hlen
        replace hce := Lib.hid hce
        replace hcr := Lib.hid hcr
        go_wp2_with (first | (go_at_call 11; refine (hi.out _).mono ?_; rintro e w' ⟨rfl, rfl⟩) | (go_at_call 14; refine (hs.out _).mono ?_; rintro e w' ⟨rfl, rfl⟩))
        refine (hlv.out _).mono ?_
        rintro e w2 ⟨v2, rfl, hN, hbn⟩
        obtain ⟨c2, d2, rfl, _⟩ := id hN
        have RT2 := Lib.hid hN.row
        have hb2 := Lib.hid (hb1.out.trans (hbn.mono hb1.out.size))
        clear hN hbn
        go_wp2_with fail
        refine (him.out w2 _ RT2.out).mono ?_
        rintro e w3 ⟨rfl, hb3⟩
        replace hb3 := Lib.hid (hb2.out.trans (hb3.mono hb2.out.size))
        go_wp2_with fail
        go_ret
        exact ⟨rfl, hb3.out⟩
    · rw [hbv] at hi hs
      obtain ⟨c, hcv⟩ : ∃ c, mstV n k = c := ⟨_, rfl⟩
      rw [hcv] at hi hs
      have hcc : (c != c) = false := by simp
      have hce : (c == c) = true := by simp
      replace hi := Lib.hid hi
      replace hs := Lib.hid hs
      replace hn := Lib.hid hn
      replace hbv := Lib.hid hbv
      replace hcv := Lib.hid hcv
      clear hno
      go_wp2_with (first | (go_at_call 11; refine (hi.out _).mono ?_; rintro e w' ⟨rfl, rfl⟩) | (go_at_call 14; refine (hs.out _).mono ?_; rintro e w' ⟨rfl, rfl⟩))
      go_ret
      exact ⟨rfl, hb1.out⟩
set_option maxRecDepth 100000 in
set_option maxHeartbeats 4000000 in
theorem law_FnStar (v : Value) (a : Option Addr) (len cap : Nat) (w : World) (hv : v = .slice a len cap) (hc : len ≤ cap) (hcap : cap ≤ 9223372036854775807) (hB : Bytes w w.heap.size a len) :
    Calls Try.prog 3 #[v] w fun e w' => e = .returned (.bool true) ∧ Below w.heap.size w w' := by
  have h0 := Lib.hid (draw_Star v a len cap w hv hc hcap hB)
  subst hv
  clear hB
  by_cases hbig : 1048576 < len
  · go_enter Try.func3, Try.ntmps3
    go_wp2_with fail
    go_ret
    exact ⟨rfl, Below.refl _ _⟩
  · go_enter Try.func3, Try.ntmps3
    go_wp2_with fail
    refine (h0.out).mono ?_
    rintro e w1 ⟨n, k, p, rfl, hn, hb⟩
    have hb1 := Lib.hid hb
    have hi := im_IntersectStar n k p w1
    have hs := fun W => sp_IntersectStar n k p W
    clear hb
    obtain ⟨L, hL⟩ : ∃ L, ifL (strB n k p) (strL n k p) = L := ⟨_, rfl⟩
    rw [hL] at hi hs
    have hsame : sameB L L = true := decide_eq_true rfl
    rcases str_cases n k p with ⟨hbv, n1, n2, k1, k2, p1, p2⟩ | ⟨hbv, hno⟩
    · have n6 : n ≤ 6 := by unfold drawnPts at hn; omega
      obtain ⟨f1, f2⟩ := str_facts n6 k1 k2 p1 p2
      have hl256 := strL_len (k := k) p n1 n2
      have hLT : strL n k p = L := by rw [← hL, hbv]; rfl
      rw [hLT] at f1 f2 hl256
      have hm := im_IntersectMost n k
      have hmb : mstB n k = true := by rcases mst_cases n k with ⟨h, _⟩ | ⟨_, h⟩; exact h; exact absurd ⟨n1, n2, k1, k2⟩ h
      have hval : mstV n k = if 2 * k ≤ n then chI (n - 1) (k - 1) else chI n k := by unfold mstV; rw [hmb]; rfl
      rw [hmb] at hm
      obtain ⟨c, hcv⟩ : ∃ c, mstV n k = c := ⟨_, rfl⟩
      rw [hcv] at hm hval
      rw [hbv] at hi hs
      have him := fun (W : World) (u : Value) (h1 : Row W W.heap.size u L) => im_IntersectIn n u L W.heap.size W h1 (Nat.le_refl _) (by omega)
      rw [f1] at him
      have hcb : 2 * k ≤ n → (c == ((L.length : Nat) : Int)) = true := fun h => by rw [if_pos h] at hval; rw [f2, hval]; simp
      have hcc : (c != c) = false := by simp
      replace him := Lib.hid him
      replace hm := Lib.hid hm
      replace hi := Lib.hid hi
      replace hs := Lib.hid hs
      replace hval := Lib.hid hval
      replace f1 := Lib.hid f1
      replace f2 := Lib.hid f2
      replace hn := Lib.hid hn
      replace hbv := Lib.hid hbv
      replace hcv := Lib.hid hcv
      replace hL := Lib.hid hL
      replace hLT := Lib.hid hLT
      replace hmb := Lib.hid hmb
      replace hcb := Lib.hid hcb
      go_wp2_with fail
      refine hi.out.mono ?_
      rintro e w2 ⟨v2, rfl, hN, hbn⟩
      obtain ⟨c2, d2, rfl, _⟩ := id hN
      have RT2 := Lib.hid hN.row
      have hb2 := Lib.hid (hb1.out.trans (hbn.mono hb1.out.size))
      clear hN hbn
      go_wp2_with fail
      refine (hs.out _).mono ?_
      rintro e w3 ⟨v3, rfl, hN, hbn⟩
      obtain ⟨c3, d3, rfl, _⟩ := id hN
      have zn := hbn.size
      have RT3 := Lib.hid ((RT2.out.below hbn (Nat.le_refl _)).mono zn)
      have RM3 := Lib.hid hN.row
      have hb3 := Lib.hid (hb2.out.trans (hbn.mono hb2.out.size))
      clear hN hbn zn
      have hq3 := same_l _ _ L L w3.heap.size w3 RT3.out RM3.out (by omega) (by omega)
      rw [hsame] at hq3
      replace hq3 := Lib.hid hq3
      go_wp2_with fail
      refine hq3.out.mono ?_
      rintro e w4 ⟨rfl, q, rfl⟩
      have hb4 := Lib.hid (below_drewN hb3.out q)
      have him4 := Lib.hid (him.out (w3.drewN q) _ (RT3.out.drewN q))
      by_cases h2 : 2 * k ≤ n
      · have hcb2 := hcb.out h2
        have h2' : ¬ (n < 2 * k) := by omega
        go_wp2_with (first | (go_at_call 11; refine (hm.out _).mono ?_; rintro e w' ⟨rfl, rfl⟩))
        refine him4.out.mono ?_
        rintro e w5 ⟨rfl, hb5⟩
        replace hb5 := Lib.hid (hb4.out.trans (hb5.mono hb4.out.size))
        go_wp2_with fail
        go_ret
        exact ⟨rfl, hb5.out⟩
      · have h2' : n < 2 * k := by omega
        go_wp2_with (first | (go_at_call 11; refine (hm.out _).mono ?_; rintro e w' ⟨rfl, rfl⟩))
        refine him4.out.mono ?_
        rintro e w5 ⟨rfl, hb5⟩
        replace hb5 := Lib.hid (hb4.out.trans (hb5.mono hb4.out.size))
        go_wp2_with fail
        go_ret
        exact ⟨rfl, hb5.out⟩
    · rw [hbv] at hi hs
      have hl0 : L.length ≤ 1073741824 := by rw [← hL, hbv]; simp [ifL]
      replace hi := Lib.hid hi
      replace hs := Lib.hid hs
      replace hn := Lib.hid hn
      replace hbv := Lib.hid hbv
      replace hL := Lib.hid hL
      clear hno
      go_wp2_with fail
      refine hi.out.mono ?_
      rintro e w2 ⟨v2, rfl, hN, hbn⟩
      obtain ⟨c2, d2, rfl, _⟩ := id hN
      have RT2 := Lib.hid hN.row
      have hb2 := Lib.hid (hb1.out.trans (hbn.mono hb1.out.size))
      clear hN hbn
      go_wp2_with fail
      refine (hs.out _).mono ?_
      rintro e w3 ⟨v3, rfl, hN, hbn⟩
      obtain ⟨c3, d3, rfl, _⟩ := id hN
      have zn := hbn.size
      have RT3 := Lib.hid ((RT2.out.below hbn (Nat.le_refl _)).mono zn)
      have RM3 := Lib.hid hN.row
      have hb3 := Lib.hid (hb2.out.trans (hbn.mono hb2.out.size))
      clear hN hbn zn
      have hq3 := same_l _ _ L L w3.heap.size w3 RT3.out RM3.out hl0 hl0
      rw [hsame] at hq3
      replace hq3 := Lib.hid hq3
      go_wp2_with fail
      refine hq3.out.mono ?_
      rintro e w4 ⟨rfl, q, rfl⟩
      have hb4 := Lib.hid (below_drewN hb3.out q)
      have hq4 := same_l _ _ L L w3.heap.size (w3.drewN q) (RT3.out.drewN q) (RM3.out.drewN q) hl0 hl0
      rw [hsame] at hq4
      replace hq4 := Lib.hid hq4
      go_wp2_with fail
      refine hq4.out.mono ?_
      rintro e w5 ⟨rfl, q2, rfl⟩
      replace hb4 := Lib.hid (below_drewN hb3.out (q + q2))
      go_wp2_with fail
      go_ret
      exact ⟨rfl, hb4.out⟩
end Go.Proofs.Ytaljnnjlhmlcoaa
