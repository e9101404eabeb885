/- The laws of the least shadow. -/
import Derived.Test.YtcejbebepjkpnaaLeastM
import Derived.Test.YtcejbebepjkpnaaDraw2
namespace Go.Proofs.Ytcejbebepjkpnaa
open Go.ChangeShapes Go.WideShapes Go.ChangeAt Go.RowKit Go.Proofs

set_option maxHeartbeats 1000000 in
theorem sp_ShadowLeast (m k : Int) (w : World) : Calls Try.prog 13 #[.int .i64 m, .int .i64 k] w fun e w' => e = .returned (.tuple #[.int .i64 (leaV m k), .bool (leaB m k)]) ∧ Below w.heap.size w w' := by
  by_cases hm : 0 ≤ m
  · by_cases hk : 1 ≤ k ∧ k ≤ 8
    · have a : inB k 1 8 = true := decide_eq_true hk
      have hin := l6in k 1 8
      rw [a] at hin
      replace hin := Lib.hid hin
      replace a := Lib.hid a
      by_cases m0 : m = 0
      · subst m0
        have hf := Lib.hid (show (0 : Int) = leaV 0 k from (leaV_0 rfl).symm)
        have hg := Lib.hid (show true = leaB 0 k from (leaB_mk ⟨by omega, hk.1, hk.2, .inl rfl⟩).symm)
        go_enter Try.func13, Try.ntmps13
        go_wp2_with (go_at_call 33; refine (hin.out _).mono ?_; rintro e w' ⟨rfl, rfl⟩)
        go_ret2
        exact ⟨ret_ibc hf.out hg.out, Below.refl _ _⟩
      · by_cases hc : cascOk m k
        · have hok : leaOk m k := ⟨hm, hk.1, hk.2, .inr hc⟩
          have hca := Lib.hid (sp_casc_yes m k hc w)
          have hl := Lib.hid (fun W => l3least m k hok W)
          have hg := Lib.hid (show true = leaB m k from (leaB_mk hok).symm)
          replace hc := Lib.hid hc
          replace hok := Lib.hid hok
          go_enter Try.func13, Try.ntmps13
          go_wp2_with (go_at_call 33; refine (hin.out _).mono ?_; rintro e w' ⟨rfl, rfl⟩)
          refine hca.out.mono ?_
          rintro e w1 ⟨v, rfl, hO, hb⟩
          obtain ⟨a', c', rfl, _⟩ := hO
          replace hb := Lib.hid hb
          go_wp2_with fail
          refine (hl.out _).mono ?_
          rintro e w2 ⟨rfl, hb2⟩
          replace hb2 := Lib.hid (hb.out.trans (hb2.mono hb.out.size))
          go_wp2_with fail
          go_ret2
          exact ⟨ret_ibc rfl hg.out, hb2.out⟩
        · have hok : ¬ leaOk m k := fun h => by
            rcases h.2.2.2 with h | h
            · exact m0 h
            · exact hc h
          have hca := Lib.hid (sp_casc_no m k hc w)
          have hf := Lib.hid (show (0 : Int) = leaV m k from (leaV_mk0 hok).symm)
          have hg := Lib.hid (show false = leaB m k from (leaB_mk0 hok).symm)
          replace hc := Lib.hid hc
          replace hok := Lib.hid hok
          go_enter Try.func13, Try.ntmps13
          go_wp2_with (go_at_call 33; refine (hin.out _).mono ?_; rintro e w' ⟨rfl, rfl⟩)
          refine hca.out.mono ?_
          rintro e w1 ⟨v, rfl, hO, hb⟩
          obtain ⟨a', c', rfl, _⟩ := hO
          replace hb := Lib.hid hb
          go_wp2_with fail
          go_ret2
          exact ⟨ret_ibc hf.out hg.out, hb.out⟩
    · have a : inB k 1 8 = false := decide_eq_false hk
      have hin := l6in k 1 8
      rw [a] at hin
      have hok : ¬ leaOk m k := fun h => hk ⟨h.2.1, h.2.2.1⟩
      have hf := Lib.hid (show (0 : Int) = leaV m k from (leaV_mk0 hok).symm)
      have hg := Lib.hid (show false = leaB m k from (leaB_mk0 hok).symm)
      replace hin := Lib.hid hin
      replace a := Lib.hid a
      replace hok := Lib.hid hok
      replace hk := Lib.hid hk
      go_enter Try.func13, Try.ntmps13
      go_wp2_with (go_at_call 33; refine (hin.out _).mono ?_; rintro e w' ⟨rfl, rfl⟩)
      go_ret2
      exact ⟨ret_ibc hf.out hg.out, Below.refl _ _⟩
  · have hok : ¬ leaOk m k := fun h => hm h.1
    have hf := Lib.hid (show (0 : Int) = leaV m k from (leaV_mk0 hok).symm)
    have hg := Lib.hid (show false = leaB m k from (leaB_mk0 hok).symm)
    replace hok := Lib.hid hok
    go_enter Try.func13, Try.ntmps13
    go_wp2_with fail
    go_ret2
    exact ⟨ret_ibc hf.out hg.out, Below.refl _ _⟩

theorem law_ShadowLeast (m k : Int) (w : World) : Calls Try.prog 7 #[.int .i64 m, .int .i64 k] w fun e w' => e = .returned (.bool true) ∧ Below w.heap.size w w' := by
  have hs := sp_ShadowLeast m k
  have hi := im_ShadowLeast m k
  obtain ⟨x, hx⟩ : ∃ x, leaV m k = x := ⟨_, rfl⟩
  obtain ⟨b, hb⟩ : ∃ b, leaB m k = b := ⟨_, rfl⟩
  rw [hx, hb] at hs hi
  have hbb : (b != b) = false := by simp
  have hxx : (x != x) = false := by simp
  replace hs := Lib.hid hs
  replace hi := Lib.hid hi
  replace hx := Lib.hid hx
  replace hb := Lib.hid hb
  go_enter Try.func7, Try.ntmps7
  go_wp2_with fail
  refine (hs.out _).mono ?_
  rintro e w1 ⟨rfl, hb1⟩
  replace hb1 := Lib.hid hb1
  go_wp2_with fail
  refine (hi.out _).mono ?_
  rintro e w2 ⟨rfl, hb2⟩
  replace hb2 := Lib.hid (hb1.out.trans (hb2.mono hb1.out.size))
  go_wp2_with fail
  go_ret
  exact ⟨rfl, hb2.out⟩

/-- what the drawing of a cascade's numbers leaves. -/
def PairDraw (w : World) (e : Ending) (w' : World) : Prop := ∃ m k, e = .returned (.tuple #[.int .i64 m, .int .i64 k]) ∧ 0 ≤ m ∧ m ≤ 100000000 ∧ Below w.heap.size w w'
set_option maxHeartbeats 4000000 in
theorem draw_Cascade (v : Value) (a : Option Addr) (len cap : Nat) (w : World) (hv : v = .slice a len cap) (hc : len ≤ cap) (hcap : cap ≤ 9223372036854775807) (hB : Bytes w w.heap.size a len) :
    Calls Try.prog 30 #[v] w (PairDraw w) := by
  have h0 := Lib.hid (rd_open v a len cap w hv hc hcap hB)
  subst hv
  go_enter Try.func30, Try.ntmps30
  go_wp2_with fail
  refine h0.out.mono ?_
  rintro e w0 ⟨r, rfl, hr, hR0, hb0, hz0⟩
  have hrw : w.heap.size ≤ r := by omega
  replace hb0 := Lib.hid hb0
  replace hR0 := Lib.hid hR0
  replace hr := Lib.hid hr
  clear h0
  go_wp2_with fail
  refine (rd_pick r _ 0 200 w0 hR0.out (by omega) (by omega) (by omega)).mono ?_
  rintro e w1 ⟨x, rfl, hx, hR1, hO1⟩
  obtain ⟨x1, x2, x3, x4⟩ := hx
  have hb1 := Lib.hid (hO1.below hb0.out hrw hb0.out.size)
  replace hR1 := Lib.hid hR1
  clear hO1 hR0
  go_wp2_with fail
  refine (rd_pick r _ (0 + 1) 4 w1 hR1.out (by omega) (by omega) (by omega)).mono ?_
  rintro e w2 ⟨y, rfl, hy, hR2, hO2⟩
  obtain ⟨y1, y2, y3, y4⟩ := hy
  have hb2 := Lib.hid (hO2.below hb1.out hrw hb1.out.size)
  replace hR2 := Lib.hid hR2
  clear hO2 hR1
  by_cases h0 : y = 0
  · subst h0
    go_wp2_with fail
    refine (rd_pick r _ (0 + 1 + 1) 250 w2 hR2.out (by omega) (by omega) (by omega)).mono ?_
    rintro e w3 ⟨a1, rfl, ha, hR3, hO3⟩
    obtain ⟨a2, a3, a4, a5⟩ := ha
    have hb3 := Lib.hid (hO3.below hb2.out hrw hb2.out.size)
    replace hR3 := Lib.hid hR3
    clear hO3 hR2
    go_wp2_with fail
    refine (rd_pick r _ (0 + 1 + 1 + 1) 250 w3 hR3.out (by omega) (by omega) (by omega)).mono ?_
    rintro e w4 ⟨b1, rfl, hb, hR4, hO4⟩
    obtain ⟨b2, b3, b4, b5⟩ := hb
    have hb4 := Lib.hid (hO4.below hb3.out hrw hb3.out.size)
    replace hR4 := Lib.hid hR4
    clear hO4 hR3
    have p0 : 0 ≤ a1 * b1 := Int.mul_nonneg a2 b2
    have p1 : a1 * b1 ≤ 250 * 250 := Int.mul_le_mul (by omega) (by omega) b2 (by omega)
    obtain ⟨pr, hpr⟩ : ∃ pr, a1 * b1 = pr := ⟨_, rfl⟩
    rw [hpr] at p0 p1
    go_wp2_with fail
    refine (rd_pick r _ (0 + 1 + 1 + 1 + 1) 16 w4 hR4.out (by omega) (by omega) (by omega)).mono ?_
    rintro e w5 ⟨c1, rfl, hc', hR5, hO5⟩
    obtain ⟨c2, c3, c4, c5⟩ := hc'
    have hb5 := Lib.hid (hO5.below hb4.out hrw hb4.out.size)
    replace hR5 := Lib.hid hR5
    clear hO5 hR4
    go_wp2_with fail
    refine (rd_pick r _ (0 + 1 + 1 + 1 + 1 + 1) 10 w5 hR5.out (by omega) (by omega) (by omega)).mono ?_
    rintro e w6 ⟨d1, rfl, hd, hR6, hO6⟩
    have hb6 := Lib.hid (hO6.below hb5.out hrw hb5.out.size)
    clear hO6 hR5 hR6
    go_wp2_with fail
    go_ret2
    exact ⟨_, _, rfl, by omega, by omega, hb6.out⟩
  · go_wp2_with fail
    refine (rd_pick r _ (0 + 1 + 1) 10 w2 hR2.out (by omega) (by omega) (by omega)).mono ?_
    rintro e w3 ⟨d1, rfl, hd, hR6, hO6⟩
    have hb6 := Lib.hid (hO6.below hb2.out hrw hb2.out.size)
    clear hO6 hR6
    go_wp2_with fail
    go_ret2
    exact ⟨_, _, rfl, by omega, by omega, hb6.out⟩
theorem draw_ShadowLeast (v : Value) (a : Option Addr) (len cap : Nat) (w : World) (hv : v = .slice a len cap) (hc : len ≤ cap) (hcap : cap ≤ 9223372036854775807) (hB : Bytes w w.heap.size a len) :
    Calls Try.prog 11 #[v] w (PairDraw w) := by
  have h0 := Lib.hid (draw_Cascade v a len cap w hv hc hcap hB)
  subst hv
  clear hB
  go_enter Try.func11, Try.ntmps11
  go_wp2_with fail
  refine h0.out.mono ?_
  rintro e w1 ⟨m, k, rfl, m1, m2, hb1⟩
  replace hb1 := Lib.hid hb1
  go_wp2_with fail
  go_ret2
  exact ⟨_, _, rfl, m1, m2, hb1.out⟩
set_option maxHeartbeats 4000000 in
theorem law_FnLeast (v : Value) (a : Option Addr) (len cap : Nat) (w : World) (hv : v = .slice a len cap) (hc : len ≤ cap) (hcap : cap ≤ 9223372036854775807) (hB : Bytes w w.heap.size a len) :
    Calls Try.prog 3 #[v] w fun e w' => e = .returned (.bool true) ∧ Below w.heap.size w w' := by
  by_cases hl : (1048576 : Int) < (len : Nat)
  · subst hv
    clear hB
    go_enter Try.func3, Try.ntmps3
    go_wp2_with fail
    go_ret
    exact ⟨rfl, Below.refl _ _⟩
  · have hdr := Lib.hid (draw_ShadowLeast v a len cap w hv hc hcap hB)
    subst hv
    clear hB
    go_enter Try.func3, Try.ntmps3
    go_wp2_with fail
    refine hdr.out.mono ?_
    rintro e w1 ⟨m, k, rfl, m1, m2, hb1⟩
    have hs := sp_ShadowLeast m k
    have hi := im_ShadowLeast m k
    have hu := im_ShadowLeast (m + 1) k
    have hnn := leaV_nn (m := m) (k := k)
    have hup := leaV_up (m := m) (k := k)
    obtain ⟨x, hx⟩ : ∃ x, leaV m k = x := ⟨_, rfl⟩
    obtain ⟨b, hb⟩ : ∃ b, leaB m k = b := ⟨_, rfl⟩
    obtain ⟨y, hy⟩ : ∃ y, leaV (m + 1) k = y := ⟨_, rfl⟩
    obtain ⟨c, hcc⟩ : ∃ c, leaB (m + 1) k = c := ⟨_, rfl⟩
    rw [hx, hb] at hs hi
    rw [hy, hcc] at hu
    rw [hx, hb] at hnn
    rw [hx, hb, hy, hcc] at hup
    replace hs := Lib.hid hs
    replace hi := Lib.hid hi
    replace hu := Lib.hid hu
    replace hx := Lib.hid hx
    replace hb := Lib.hid hb
    replace hy := Lib.hid hy
    replace hcc := Lib.hid hcc
    replace hb1 := Lib.hid hb1
    have hxx : (x != x) = false := by simp
    have hxe : (x == x) = true := by simp
    rcases (by cases b <;> simp : b = true ∨ b = false) with rfl | rfl
    · have hn := hnn rfl
      have hup' := hup rfl
      clear hup hnn
      rcases (by cases c <;> simp : c = true ∨ c = false) with rfl | rfl
      · have hup2 := hup' rfl
        go_wp2_with fail
        refine (hi.out _).mono ?_
        rintro e w2 ⟨rfl, hb2⟩
        replace hb2 := Lib.hid (hb1.out.trans (hb2.mono hb1.out.size))
        go_wp2_with fail
        refine (hs.out _).mono ?_
        rintro e w3 ⟨rfl, hb3⟩
        replace hb3 := Lib.hid (hb2.out.trans (hb3.mono hb2.out.size))
        go_wp2_with fail
        refine (hu.out _).mono ?_
        rintro e w4 ⟨rfl, hb4⟩
        replace hb4 := Lib.hid (hb3.out.trans (hb4.mono hb3.out.size))
        go_wp2_with fail
        go_ret
        exact ⟨ret_bool (by simp; try omega), hb4.out⟩
      · clear hup'
        go_wp2_with fail
        refine (hi.out _).mono ?_
        rintro e w2 ⟨rfl, hb2⟩
        replace hb2 := Lib.hid (hb1.out.trans (hb2.mono hb1.out.size))
        go_wp2_with fail
        refine (hs.out _).mono ?_
        rintro e w3 ⟨rfl, hb3⟩
        replace hb3 := Lib.hid (hb2.out.trans (hb3.mono hb2.out.size))
        go_wp2_with fail
        refine (hu.out _).mono ?_
        rintro e w4 ⟨rfl, hb4⟩
        replace hb4 := Lib.hid (hb3.out.trans (hb4.mono hb3.out.size))
        go_wp2_with fail
        go_ret
        exact ⟨ret_bool (by simp; try omega), hb4.out⟩
    · clear hup hnn
      go_wp2_with fail
      refine (hi.out _).mono ?_
      rintro e w2 ⟨rfl, hb2⟩
      replace hb2 := Lib.hid (hb1.out.trans (hb2.mono hb1.out.size))
      go_wp2_with fail
      refine (hs.out _).mono ?_
      rintro e w3 ⟨rfl, hb3⟩
      replace hb3 := Lib.hid (hb2.out.trans (hb3.mono hb2.out.size))
      go_wp2_with fail
      go_ret
      exact ⟨ret_bool (by simp), hb3.out⟩
end Go.Proofs.Ytcejbebepjkpnaa
