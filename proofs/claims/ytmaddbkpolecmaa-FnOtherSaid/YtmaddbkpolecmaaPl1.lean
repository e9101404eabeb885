/- Laws of chapter 1 over the program: sizes, others, moved sets, ways to choose. -/
import Derived.Test.YtmaddbkpolecmaaDrawS
import Derived.Test.YtmaddbkpolecmaaSizeL
import Derived.Test.YtmaddbkpolecmaaLawsC
namespace Go.Proofs.Ytmaddbkpolecmaa
open Go.ChangeShapes Go.WideShapes Go.ChangeAt Go.RowKit

theorem oth_dec : ∀ n : Fin 9, ∀ s : Fin 256, s.val < 2 ^ n.val → (cntI (2 ^ n.val - 1 - ((s.val : Nat) : Int)) + cntI s.val = n.val ∧ bits .and .i64 (2 ^ n.val - 1 - ((s.val : Nat) : Int)) s.val = 0) ∧ 0 ≤ cntI s.val ∧ cntI s.val ≤ 8 := by decide +kernel
theorem oth_facts {n s : Int} (h : setB n s = true) : setB n (otherI n s) = true ∧ cntI (otherI n s) + cntI s = n ∧ bits .and .i64 (otherI n s) s = 0 ∧ otherI n (otherI n s) = s ∧ 0 ≤ cntI s ∧ cntI s ≤ 8 := by
  have s0 := setB_lt h
  obtain ⟨n1, n2, s1, s2⟩ := setB_yes h
  have e1 : ((s.toNat : Nat) : Int) = s := Int.toNat_of_nonneg s0.1
  have e2 : ((n.toNat : Nat) : Int) = n := Int.toNat_of_nonneg (by omega)
  obtain ⟨⟨a, b⟩, c⟩ := oth_dec ⟨n.toNat, by omega⟩ ⟨s.toNat, by omega⟩ (by
    show s.toNat < 2 ^ n.toNat
    have : ((s.toNat : Nat) : Int) < ((2 ^ n.toNat : Nat) : Int) := by rw [e1]; simpa using s2
    exact Int.ofNat_lt.1 this)
  simp only [e1, e2] at a b c
  exact ⟨setB_mk ⟨n1, n2, by unfold otherI; omega, by unfold otherI; omega⟩, a, b, by unfold otherI; omega, c⟩
set_option maxRecDepth 100000 in
set_option maxHeartbeats 2000000 in
theorem law_FnSize (v : Value) (a : Option Addr) (len cap : Nat) (w : World) (hv : v = .slice a len cap) (hc : len ≤ cap) (hcap : cap ≤ 9223372036854775807) (hB : Bytes w w.heap.size a len) :
    Calls Try.prog 3 #[v] w fun e w' => e = .returned (.bool true) ∧ Below w.heap.size w w' := by
  have h0 := Lib.hid (draw_SetSize v a len cap w hv hc hcap hB)
  subst hv
  clear hB
  by_cases hbig : 1048576 < len
  · go_enter Try.func3, Try.ntmps3
    go_wp2_with fail
    go_ret
    exact ⟨rfl, Below.refl _ _⟩
  · go_enter Try.func3, Try.ntmps3
    go_wp2_with fail
    refine (h0.out).mono ?_
    rintro e w1 ⟨n, s, rfl, hb⟩
    replace hb := Lib.hid hb
    rcases (by cases setB n s <;> simp : setB n s = true ∨ setB n s = false) with h | h
    · obtain ⟨f1, f2, f3, f4, f5, f6⟩ := oth_facts h
      obtain ⟨s1, s2⟩ := setB_lt h
      obtain ⟨n1, n2, _, _⟩ := setB_yes h
      have c1 := Lib.hid (fun W => im_size_yes n s h W)
      have c2 := Lib.hid (fun W => sp_size_yes n s h W)
      have c3 := Lib.hid (fun W => im_other_yes n s h W)
      have c4 := Lib.hid (fun W => im_size_yes n _ f1 W)
      have c5 := Lib.hid (fun W => law_size s s1 s2 W)
      obtain ⟨c, hcc⟩ : ∃ c, cntI s = c := ⟨_, rfl⟩
      obtain ⟨o, ho⟩ : ∃ o, otherI n s = o := ⟨_, rfl⟩
      obtain ⟨d, hd⟩ : ∃ d, cntI o = d := ⟨_, rfl⟩
      rw [ho] at c3 c4 f2
      rw [hd] at c4 f2
      rw [hcc] at c1 c2 c5 f2 f5 f6
      have f7 : 0 ≤ d := hd ▸ ho ▸ (oth_facts f1).2.2.2.2.1
      replace hcc := Lib.hid hcc
      replace ho := Lib.hid ho
      replace hd := Lib.hid hd
      replace h := Lib.hid h
      replace f1 := Lib.hid f1
      clear f3 f4
      go_wp2_with (first
        | (go_at_call 9; first | ((with_reducible refine (c1.out _).mono ?_); rintro e w' ⟨rfl, rfl⟩) | ((with_reducible refine (c4.out _).mono ?_); rintro e w' ⟨rfl, rfl⟩))
        | (go_at_call 10; (with_reducible refine (c2.out _).mono ?_); rintro e w' ⟨rfl, rfl⟩)
        | (go_at_call 11; (with_reducible refine (c3.out _).mono ?_); rintro e w' ⟨rfl, rfl⟩)
        | (go_at_call 12; (with_reducible refine (c5.out _).mono ?_); rintro e w' ⟨rfl, rfl⟩))
      go_ret
      first | exact ⟨rfl, hb.out⟩ | exact ⟨ret_bool (by simp), hb.out⟩
    · have c1 := Lib.hid (fun W => im_size_no n s h W)
      have c2 := Lib.hid (fun W => sp_size_no n s h W)
      replace h := Lib.hid h
      go_wp2_with (first
        | (go_at_call 9; (with_reducible refine (c1.out _).mono ?_); rintro e w' ⟨rfl, rfl⟩)
        | (go_at_call 10; (with_reducible refine (c2.out _).mono ?_); rintro e w' ⟨rfl, rfl⟩))
      go_ret
      exact ⟨rfl, hb.out⟩
set_option maxRecDepth 100000 in
set_option maxHeartbeats 2000000 in
theorem law_FnOther (v : Value) (a : Option Addr) (len cap : Nat) (w : World) (hv : v = .slice a len cap) (hc : len ≤ cap) (hcap : cap ≤ 9223372036854775807) (hB : Bytes w w.heap.size a len) :
    Calls Try.prog 4 #[v] w fun e w' => e = .returned (.bool true) ∧ Below w.heap.size w w' := by
  have h0 := Lib.hid (draw_SetOther v a len cap w hv hc hcap hB)
  subst hv
  clear hB
  by_cases hbig : 1048576 < len
  · go_enter Try.func4, Try.ntmps4
    go_wp2_with fail
    go_ret
    exact ⟨rfl, Below.refl _ _⟩
  · go_enter Try.func4, Try.ntmps4
    go_wp2_with fail
    refine (h0.out).mono ?_
    rintro e w1 ⟨n, s, rfl, hb⟩
    replace hb := Lib.hid hb
    rcases (by cases setB n s <;> simp : setB n s = true ∨ setB n s = false) with h | h
    · obtain ⟨f1, f2, f3, f4, f5, f6⟩ := oth_facts h
      have c1 := Lib.hid (fun W => im_other_yes n s h W)
      have c2 := Lib.hid (fun W => sp_other_yes n s h W)
      have c3 := Lib.hid (fun W => im_other_yes n _ f1 W)
      rw [f4] at c3
      obtain ⟨o, ho⟩ : ∃ o, otherI n s = o := ⟨_, rfl⟩
      rw [ho] at c1 c2 c3 f3
      replace ho := Lib.hid ho
      replace h := Lib.hid h
      replace f1 := Lib.hid f1
      clear f2 f4
      go_wp2_with (first
        | (go_at_call 11; first | ((with_reducible refine (c1.out _).mono ?_); rintro e w' ⟨rfl, rfl⟩) | ((with_reducible refine (c3.out _).mono ?_); rintro e w' ⟨rfl, rfl⟩))
        | (go_at_call 14; (with_reducible refine (c2.out _).mono ?_); rintro e w' ⟨rfl, rfl⟩))
      go_ret
      first | exact ⟨rfl, hb.out⟩ | exact ⟨ret_bool (by simp), hb.out⟩
    · have c1 := Lib.hid (fun W => im_other_no n s h W)
      have c2 := Lib.hid (fun W => sp_other_no n s h W)
      replace h := Lib.hid h
      go_wp2_with (first
        | (go_at_call 11; (with_reducible refine (c1.out _).mono ?_); rintro e w' ⟨rfl, rfl⟩)
        | (go_at_call 14; (with_reducible refine (c2.out _).mono ?_); rintro e w' ⟨rfl, rfl⟩))
      go_ret
      exact ⟨rfl, hb.out⟩
/-- what a draw of a number, a set and two points gives. -/
def MovedDraw (w : World) (e : Ending) (w' : World) : Prop := ∃ n s i k, e = .returned (.tuple #[.int .i64 n, .int .i64 s, .int .i64 i, .int .i64 k]) ∧ Below w.heap.size w w'
set_option maxRecDepth 100000 in
set_option maxHeartbeats 1000000 in
theorem draw_SetMoved (v : Value) (a : Option Addr) (len cap : Nat) (w : World) (hv : v = .slice a len cap) (hc : len ≤ cap) (hcap : cap ≤ 9223372036854775807) (hB : Bytes w w.heap.size a len) :
    Calls Try.prog 15 #[v] w (MovedDraw w) := by
  have h0 := Lib.hid (rd_open v a len cap w hv hc hcap hB)
  clear hv hc hcap hB
  go_enter Try.func15, Try.ntmps15
  go_wp2_with fail
  refine (h0.out).mono ?_
  rintro e w0 ⟨r, rfl, hr, hR0, hb0, hz0⟩
  have hrw : w.heap.size ≤ r := by omega
  replace hr := Lib.hid hr
  replace hR0 := Lib.hid hR0
  replace hb0 := Lib.hid hb0
  go_wp2_with fail
  refine (rd_points r _ 0 w0 hR0.out (by omega) (by omega)).mono ?_
  rintro e w1 ⟨n, rfl, hn, hR1, hO1⟩
  have hn1 : 0 ≤ n ∧ n ≤ 9 := by unfold drawnPts at hn; omega
  obtain ⟨hn1, hn2⟩ := hn1
  have hb1 := Lib.hid (hO1.below hb0.out hrw hb0.out.size)
  replace hR1 := Lib.hid hR1
  clear hn hO1 hR0
  go_wp2_with fail
  refine (draw_set r _ (0 + 2) n w1 hR1.out (by omega) (by omega) hn1 hn2).mono ?_
  rintro e w2 ⟨s, p2, rfl, s1, s2, hR2, q1, q2, hO2⟩
  have hb2 := Lib.hid (hO2.below hb1.out hrw hb1.out.size)
  replace hR2 := Lib.hid hR2
  clear hO2 hR1
  have hM1 : max 1 n ≤ 10 := by omega
  have hM0 : 1 ≤ max 1 n := by omega
  obtain ⟨M, hM⟩ : ∃ M : Int, max 1 n = M := ⟨_, rfl⟩
  rw [hM] at hM1 hM0
  go_wp2_with fail
  refine (rd_pick r _ p2 M w2 hR2.out q1 (by omega) (by omega)).mono ?_
  rintro e w3 ⟨i, rfl, hi, hR3, hO3⟩
  have hb3 := Lib.hid (hO3.below hb2.out hrw hb2.out.size)
  replace hR3 := Lib.hid hR3
  clear hi hO3 hR2
  have q3 : 0 ≤ p2 + 1 := by omega
  go_wp2_with fail
  refine (rd_pick r _ (p2 + 1) 20 w3 hR3.out q3 (by omega) (by omega)).mono ?_
  rintro e w4 ⟨y, rfl, ⟨y1, y2, y3, y4⟩, hR4, hO4⟩
  have y5 : y < 20 := y3 (by omega)
  have hb4 := Lib.hid (hO4.below hb3.out hrw hb3.out.size)
  replace hR4 := Lib.hid hR4
  clear y3 y4 hO4 hR3
  go_wp2_with fail
  have hm1 : M + y / 19 ≤ 1000000 := by omega
  have q4 : 0 ≤ p2 + 1 + 1 := by omega
  refine (rd_pick r _ (p2 + 1 + 1) (M + y / 19) w4 hR4.out q4 (by omega) hm1).mono ?_
  rintro e w5 ⟨k, rfl, hk, hR5, hO5⟩
  have hb5 := Lib.hid (hO5.below hb4.out hrw hb4.out.size)
  clear hk hO5 hR4 hR5
  go_wp2_with fail
  exact bodyPost_ret (v := .tuple #[.int .i64 n, .int .i64 s, .int .i64 i, .int .i64 k]) (by simp [results, Try.results15, go_sem]) rfl ⟨n, s, i, k, rfl, hb5.out⟩
theorem mvd_dec : ∀ s : Fin 256, ∀ i : Fin 8, ∀ k : Fin 8, cntI (movedI s.val i.val k.val) = cntI s.val ∧ (movedI s.val i.val k.val = s.val ∨ movedI (movedI s.val i.val k.val) k.val i.val = s.val) ∧ ∀ n : Fin 9, i.val < n.val → k.val < n.val → s.val < 2 ^ n.val → movedI s.val i.val k.val < 2 ^ n.val := by decide +kernel
theorem mvd_facts {n s i k : Int} (h : movedOk n s i k) : cntI (movedI s i k) = cntI s ∧ (movedI s i k = s ∨ movedI (movedI s i k) k i = s) ∧ movedOk n (movedI s i k) k i := by
  obtain ⟨s1, s2, i1, i2, k1, k2, n1, n2⟩ := movedOk_facts h
  obtain ⟨hs, hi, hk⟩ := h
  have i3 := ptB_yes hi
  have k3 := ptB_yes hk
  have s3 := setB_yes hs
  have e1 : ((s.toNat : Nat) : Int) = s := Int.toNat_of_nonneg s1
  have e2 : ((i.toNat : Nat) : Int) = i := Int.toNat_of_nonneg i1
  have e3 : ((k.toNat : Nat) : Int) = k := Int.toNat_of_nonneg k1
  obtain ⟨a, b, d⟩ := mvd_dec ⟨s.toNat, by omega⟩ ⟨i.toNat, by omega⟩ ⟨k.toNat, by omega⟩
  have d' := d ⟨n.toNat, by omega⟩ (by show i.toNat < n.toNat; omega) (by show k.toNat < n.toNat; omega) (by
    show s.toNat < 2 ^ n.toNat
    have : ((s.toNat : Nat) : Int) < ((2 ^ n.toNat : Nat) : Int) := by rw [e1]; simpa using s3.2.2.2
    exact Int.ofNat_lt.1 this)
  simp only [e1, e2, e3] at a b d'
  exact ⟨a, b, setB_mk ⟨n1, n2, (moved_lt s1 s2 i1 i2 k1 k2).1, d'⟩, hk, hi⟩
set_option maxRecDepth 100000 in
set_option maxHeartbeats 2000000 in
theorem law_FnMoved (v : Value) (a : Option Addr) (len cap : Nat) (w : World) (hv : v = .slice a len cap) (hc : len ≤ cap) (hcap : cap ≤ 9223372036854775807) (hB : Bytes w w.heap.size a len) :
    Calls Try.prog 5 #[v] w fun e w' => e = .returned (.bool true) ∧ Below w.heap.size w w' := by
  have h0 := Lib.hid (draw_SetMoved v a len cap w hv hc hcap hB)
  subst hv
  clear hB
  by_cases hbig : 1048576 < len
  · go_enter Try.func5, Try.ntmps5
    go_wp2_with fail
    go_ret
    exact ⟨rfl, Below.refl _ _⟩
  · go_enter Try.func5, Try.ntmps5
    go_wp2_with fail
    refine (h0.out).mono ?_
    rintro e w1 ⟨n, s, i, k, rfl, hb⟩
    replace hb := Lib.hid hb
    by_cases h : movedOk n s i k
    · obtain ⟨f1, f2, f3⟩ := mvd_facts h
      obtain ⟨s1, s2⟩ := setB_lt h.1
      obtain ⟨m1, m2⟩ := setB_lt f3.1
      have c1 := Lib.hid (fun W => im_moved_yes n s i k h W)
      have c2 := Lib.hid (fun W => sp_moved_yes n s i k h W)
      have c3 := Lib.hid (fun W => im_moved_yes n _ k i f3 W)
      have c4 := Lib.hid (fun W => law_size s s1 s2 W)
      have c5 := Lib.hid (fun W => law_size _ m1 m2 W)
      obtain ⟨o, ho⟩ : ∃ o, movedI s i k = o := ⟨_, rfl⟩
      rw [ho] at c1 c2 c3 c5 f1 f2
      rw [f1] at c5
      obtain ⟨o2, ho2⟩ : ∃ o2, movedI o k i = o2 := ⟨_, rfl⟩
      rw [ho2] at c3 f2
      obtain ⟨c, hcc⟩ : ∃ c, cntI s = c := ⟨_, rfl⟩
      rw [hcc] at c4 c5
      replace hcc := Lib.hid hcc
      replace ho := Lib.hid ho
      replace ho2 := Lib.hid ho2
      replace h := Lib.hid h
      replace f3 := Lib.hid f3
      clear f1 m1 m2
      by_cases ho3 : o = s
      · have hos : (o == s) = true := by simp [ho3]
        replace f2 := Lib.hid f2
        replace ho3 := Lib.hid ho3
        go_wp2_with (first
          | (go_at_call 16; first | ((with_reducible refine (c1.out _).mono ?_); rintro e w' ⟨rfl, rfl⟩) | ((with_reducible refine (c3.out _).mono ?_); rintro e w' ⟨rfl, rfl⟩))
          | (go_at_call 17; (with_reducible refine (c2.out _).mono ?_); rintro e w' ⟨rfl, q, rfl⟩)
          | (go_at_call 12; first | ((with_reducible refine (c5.out _).mono ?_); rintro e w' ⟨rfl, rfl⟩) | ((with_reducible refine (c4.out _).mono ?_); rintro e w' ⟨rfl, rfl⟩)))
        go_ret
        exact ⟨rfl, below_drewN hb.out _⟩
      · have hos : (o == s) = false := by simp [ho3]
        have hos2 : (o2 == s) = true := by simp [f2.resolve_left ho3]
        replace f2 := Lib.hid f2
        replace ho3 := Lib.hid ho3
        go_wp2_with (first
          | (go_at_call 16; first | ((with_reducible refine (c1.out _).mono ?_); rintro e w' ⟨rfl, rfl⟩) | ((with_reducible refine (c3.out _).mono ?_); rintro e w' ⟨rfl, rfl⟩))
          | (go_at_call 17; (with_reducible refine (c2.out _).mono ?_); rintro e w' ⟨rfl, q, rfl⟩)
          | (go_at_call 12; first | ((with_reducible refine (c5.out _).mono ?_); rintro e w' ⟨rfl, rfl⟩) | ((with_reducible refine (c4.out _).mono ?_); rintro e w' ⟨rfl, rfl⟩)))
        go_ret
        exact ⟨rfl, below_drewN hb.out _⟩
    · have c1 := Lib.hid (fun W => im_moved_no n s i k h W)
      have c2 := Lib.hid (fun W => sp_moved_no n s i k h W)
      replace h := Lib.hid h
      go_wp2_with (first
        | (go_at_call 16; (with_reducible refine (c1.out _).mono ?_); rintro e w' ⟨rfl, rfl⟩)
        | (go_at_call 17; (with_reducible refine (c2.out _).mono ?_); rintro e w' ⟨rfl, rfl⟩))
      go_ret
      exact ⟨rfl, hb.out⟩
end Go.Proofs.Ytmaddbkpolecmaa
