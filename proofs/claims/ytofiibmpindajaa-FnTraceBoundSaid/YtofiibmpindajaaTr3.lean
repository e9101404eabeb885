/- Bounds of dimensions are those of the most, as drawn. -/
import Derived.Test.YtofiibmpindajaaTr2
import Derived.Test.YtofiibmpindajaaDraw
import Derived.Test.YtofiibmpindajaaSameL
namespace Go.Proofs.Ytofiibmpindajaa
open Go.ChangeShapes Go.WideShapes Go.ChangeAt Go.RowKit Go.Proofs

/-- points and a dimension as they are drawn. -/
def BoundDraw (w : World) (e : Ending) (w' : World) : Prop := ∃ n k, e = .returned (.tuple #[.int .i64 n, .int .i64 k]) ∧ drawnPts n ∧ Below w.heap.size w w'
set_option maxRecDepth 100000 in
set_option maxHeartbeats 2000000 in
theorem draw_TraceBound (v : Value) (a : Option Addr) (len cap : Nat) (w : World) (hv : v = .slice a len cap) (hc : len ≤ cap) (hcap : cap ≤ 9223372036854775807) (hB : Bytes w w.heap.size a len) :
    Calls Try.prog 13 #[v] w (BoundDraw w) := by
  have h0 := Lib.hid (rd_open v a len cap w hv hc hcap hB)
  clear hv hc hcap hB
  go_enter Try.func13, Try.ntmps13
  go_wp2_with fail
  refine (h0.out).mono ?_
  rintro e w0 ⟨r, rfl, hr, hR0, hb0, hz0⟩
  have hrw : w.heap.size ≤ r := by omega
  replace hr := Lib.hid hr
  replace hR0 := Lib.hid hR0
  replace hb0 := Lib.hid hb0
  go_wp2_with fail
  refine (rd_points r _ 0 w0 hR0.out (by omega) (by omega)).mono ?_
  rintro e w1 ⟨n, rfl, hn, hR1, hO1⟩
  have hb1 := Lib.hid (hO1.below hb0.out hrw hb0.out.size)
  replace hR1 := Lib.hid hR1
  replace hn := Lib.hid hn
  clear hO1 hR0
  go_wp2_with fail
  refine (rd_pick r _ (0 + 2) 9 w1 hR1.out (by omega) (by omega) (by omega)).mono ?_
  rintro e w2 ⟨k, rfl, ⟨x1, x2, _, _⟩, hR2, hO2⟩
  have hb2 := Lib.hid (hO2.below hb1.out hrw hb1.out.size)
  clear hO2 hR1 hR2
  go_wp2_with fail
  go_ret2
  exact ⟨n, _, rfl, hn.out, hb2.out⟩
/-- all sets of at most d points. -/
def mostL (n d : Int) : List Int := sortL ((sortL (upI (2 ^ n.toNat))).filter (fun x => decide (cntI x ≤ d)))
theorem most_dec : ∀ n : Fin 7, ∀ k : Fin 8, 1 ≤ n.val → k.val ≤ n.val + 1 → (((mostL (n.val : Nat) ((k.val : Nat) - 1)).length : Nat) : Int) = bndN (n.val : Nat) k.val := by decide +kernel
theorem most_len {n d : Int} (n1 : 1 ≤ n) (n2 : n ≤ 6) (d1 : -1 ≤ d) (d2 : d ≤ n) : (((mostL n d).length : Nat) : Int) = bndN n (d + 1).toNat := by
  obtain ⟨N, rfl⟩ := Int.eq_ofNat_of_zero_le (show 0 ≤ n by omega)
  obtain ⟨K, hK⟩ := Int.eq_ofNat_of_zero_le (show 0 ≤ d + 1 by omega)
  obtain rfl : d = (K : Int) - 1 := by omega
  have := most_dec ⟨N, by omega⟩ ⟨K, by omega⟩ (by dsimp only; omega) (by dsimp only; omega)
  rw [show ((K : Int) - 1 + 1).toNat = K by omega]
  exact this
set_option maxRecDepth 100000 in
set_option maxHeartbeats 4000000 in
theorem law_FnTraceBound (v : Value) (a : Option Addr) (len cap : Nat) (w : World) (hv : v = .slice a len cap) (hc : len ≤ cap) (hcap : cap ≤ 9223372036854775807) (hB : Bytes w w.heap.size a len) :
    Calls Try.prog 4 #[v] w fun e w' => e = .returned (.bool true) ∧ Below w.heap.size w w' := by
  have h0 := Lib.hid (draw_TraceBound v a len cap w hv hc hcap hB)
  subst hv
  clear hB
  by_cases hbig : 1048576 < len
  · go_enter Try.func4, Try.ntmps4
    go_wp2_with fail
    go_ret
    exact ⟨rfl, Below.refl _ _⟩
  · go_enter Try.func4, Try.ntmps4
    go_wp2_with fail
    refine (h0.out).mono ?_
    rintro e w1 ⟨n, d, rfl, hn, hb⟩
    have hb1 := Lib.hid hb
    have hi := im_TraceBound n d
    have hs := sp_TraceBound n d
    clear hb
    rcases dimB_cases n d with hbv | hbv
    · obtain ⟨n1, n2, d1, d2⟩ := dimB_yes hbv
      have n6 : n ≤ 6 := by unfold drawnPts at hn; omega
      have hlv := fun W => im_TraceMost n d W
      have hlen := most_len n1 n6 d1 d2
      have hval : bndV n d = bndN n (d + 1).toNat := by unfold bndV; rw [hbv]; rfl
      rw [← hval] at hlen
      rw [hbv] at hi hs hlv
      obtain ⟨c, hcv⟩ : ∃ c, bndV n d = c := ⟨_, rfl⟩
      rw [hcv] at hi hs hlen
      replace hlv := fun W => (show Calls _ _ _ _ (ListPost (mostL n d) true W) from hlv W)
      obtain ⟨T, hT⟩ : ∃ T, mostL n d = T := ⟨_, rfl⟩
      rw [hT] at hlv hlen
      have hcc : (c != c) = false := by simp
      have hce : (((T.length : Nat) : Int) == c) = true := by simp [hlen]
      replace hi := Lib.hid hi
      replace hs := Lib.hid hs
      replace hlv := Lib.hid hlv
      replace hn := Lib.hid hn
      replace hbv := Lib.hid hbv
      replace hcv := Lib.hid hcv
      replace hT := Lib.hid hT
      replace hlen := Lib.hid hlen
      replace hval := Lib.hid hval
      go_wp2_with (first | (go_at_call 14; refine (hi.out _).mono ?_; rintro e w' ⟨rfl, rfl⟩) | (go_at_call 15; refine (hs.out _).mono ?_; rintro e w' ⟨rfl, rfl⟩))
      refine (hlv.out _).mono ?_
      rintro e w2 ⟨v2, rfl, hN, hbn⟩
      obtain ⟨c2, d2, rfl, _⟩ := id hN
      have hb2 := Lib.hid (hb1.out.trans (hbn.mono hb1.out.size))
      clear hN hbn
      go_wp2_with fail
      go_ret
      exact ⟨rfl, hb2.out⟩
    · have hval : bndV n d = 0 := by unfold bndV; rw [hbv]; rfl
      rw [hbv, hval] at hi hs
      replace hi := Lib.hid hi
      replace hs := Lib.hid hs
      replace hn := Lib.hid hn
      replace hbv := Lib.hid hbv
      replace hval := Lib.hid hval
      go_wp2_with (first | (go_at_call 14; refine (hi.out _).mono ?_; rintro e w' ⟨rfl, rfl⟩) | (go_at_call 15; refine (hs.out _).mono ?_; rintro e w' ⟨rfl, rfl⟩))
      go_ret
      exact ⟨rfl, hb1.out⟩
end Go.Proofs.Ytofiibmpindajaa
