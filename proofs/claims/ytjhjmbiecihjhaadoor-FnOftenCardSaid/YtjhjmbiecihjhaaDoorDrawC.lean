/- The laws' reader: families as they are drawn, their capacity told; few sets. -/
import Derived.Test.YtjhjmbiecihjhaaDoorAllD
namespace Go.Proofs.YtjhjmbiecihjhaaDoor
open Go.ChangeShapes Go.WideShapes Go.ChangeAt Go.RowKit Go.Proofs

/-- a slice's length is at most its capacity. -/
def CapIs (v : Value) : Prop := ∀ a n c, v = .slice a n c → n ≤ c ∧ c ≤ maxLen
theorem OwnL.capIs {w : World} {B : Nat} {v : Value} {xs : List Int} (h : OwnL w B v xs) : CapIs v := fun a n c e => by
  rcases h.2 with ⟨hv, _⟩ | ⟨g, cap, cur, hv, _, _, h1, h2, _⟩
  · rw [hv] at e; injection e with _ e2 e3; subst e2 e3; exact ⟨Nat.le_refl _, Nat.zero_le _⟩
  · rw [hv] at e; injection e with _ e2 e3; subst e2 e3; exact ⟨h1, h2⟩
theorem capIs_lit (a : Option Addr) (n : Nat) (h : n ≤ maxLen) : CapIs (.slice a n n) := fun _ _ _ e => by injection e with _ e2 e3; subst e2 e3; exact ⟨Nat.le_refl _, h⟩
def ListPostC (L : List Int) (b : Bool) (w : World) (e : Ending) (w' : World) : Prop := ∃ v, e = .returned (.tuple #[v, .bool b]) ∧ Own w' w.heap.size w'.heap.size v L ∧ Below w.heap.size w w' ∧ CapIs v
set_option maxHeartbeats 1000000 in
theorem sp_FamilyOfC (n : Int) (lv : Value) (xs : List Int) (S : Nat) (w : World) (hx : Row w S lv xs) (hS : S ≤ w.heap.size) (hl : xs.length ≤ 1073741824) :
    Calls Tryd.prog 84 #[.int .i64 n, lv] w (ListPostC (famOfL n xs) (colB n xs) w) := by
  have hR := Lib.hid hx
  obtain ⟨a, cap, rfl, ha⟩ := hx
  replace ha := Lib.hid ha
  go_enter Tryd.func84, Tryd.ntmps84
  go_wp2_with fail
  go_loop [6] (fun q => ∃ k : Nat, k ≤ xs.length ∧ q = .int .i64 k ∧ Hid (allB n (xs.take k) = true)) (fun q => xs.length - (intOf q).toNat)
  case atStart => exact ⟨0, by omega, rfl, Lib.hid rfl⟩
  case round =>
    obtain ⟨k, hk, rfl, hall⟩ := hrel
    by_cases hlt : k < xs.length
    · obtain ⟨b1, o1, rfl, s1, c1⟩ := ha.out (by omega)
      have k1 : (0 : Int) ≤ (k : Int) := by omega
      have k2 : (k : Int) < (xs.length : Nat) := by omega
      have e1 := c1 k hlt
      obtain ⟨x, hx⟩ : ∃ x, xs.getD k 0 = x := ⟨_, rfl⟩
      rw [hx] at e1
      rcases set_in_cases n x with hs | hs
      · have hsi := Lib.hid (sp_set_in_yes n x hs)
        have hall' := Lib.hid (allB_step hlt hx hall.out hs)
        clear hall c1 hx hs
        go_wp2_with (go_at_call 29; refine (hsi.out _).mono ?_; rintro e w' ⟨rfl, rfl⟩)
        go_round
        case rel => exact ⟨k + 1, by omega, by go_num, hall'⟩
        case measure => simp [intOf]; omega
      · have hno : colB n xs = false := by unfold colB; rw [allB_fail hlt hx hs, Bool.and_false]
        have hL := Lib.hid (show [] = famOfL n xs by unfold famOfL; rw [hno]; rfl)
        replace hno := Lib.hid hno.symm
        have hsi := Lib.hid (sp_set_in_no n x hs)
        clear hall c1 hx hs
        go_wp2_with (go_at_call 29; refine (hsi.out _).mono ?_; rintro e w' ⟨rfl, rfl⟩)
        go_ret2
        exact ⟨_, ret_vb hno.out, hL.out ▸ own_empty0 _ _ _ _ _, (Below.refl _ _).alloc (Nat.le_refl _) _, capIs_lit _ 0 (Nat.zero_le _)⟩
    · obtain rfl : k = xs.length := by omega
      have hall2 := hall.out
      rw [List.take_length] at hall2
      have hpp := l1pts n
      clear hall
      rcases (by cases ptsB n <;> simp : ptsB n = true ∨ ptsB n = false) with hp | hp
      · obtain ⟨n1, n2⟩ := ptsB_yes hp
        rw [hp] at hpp
        have hf := Lib.hid (family_at n _ xs S w hR.out hS hl n1 n2 hall2)
        have hyes : colB n xs = true := by unfold colB; rw [hp, hall2]; rfl
        have hL := Lib.hid (show sortL xs = famOfL n xs by unfold famOfL; rw [if_pos hyes])
        replace hyes := Lib.hid hyes.symm
        replace hpp := Lib.hid hpp
        replace hp := Lib.hid hp
        replace hall2 := Lib.hid hall2
        go_wp2_with (go_at_call 48; refine (hpp.out _).mono ?_; rintro e w' ⟨rfl, rfl⟩)
        refine hf.out.mono ?_
        rintro e w2 ⟨v, rfl, hO, hb⟩
        obtain ⟨a', c', rfl⟩ := hO.form
        replace hO := Lib.hid hO
        replace hb := Lib.hid hb
        clear hf
        go_wp2_with fail
        go_ret2
        exact ⟨_, ret_vb hyes.out, hL.out ▸ hO.out.own, hb.out, hO.out.capIs⟩
      · rw [hp] at hpp
        have hno : colB n xs = false := by unfold colB; rw [hp]; rfl
        have hL := Lib.hid (show [] = famOfL n xs by unfold famOfL; rw [hno]; rfl)
        replace hno := Lib.hid hno.symm
        replace hpp := Lib.hid hpp
        replace hp := Lib.hid hp
        replace hall2 := Lib.hid hall2
        go_wp2_with (go_at_call 48; refine (hpp.out _).mono ?_; rintro e w' ⟨rfl, rfl⟩)
        go_ret2
        exact ⟨_, ret_vb hno.out, hL.out ▸ own_empty0 _ _ _ _ _, (Below.refl _ _).alloc (Nat.le_refl _) _, capIs_lit _ 0 (Nat.zero_le _)⟩
/-- what a drawn family is. -/
def FamDrawC (r S : Nat) (p : Int) (w : World) (e : Ending) (w' : World) : Prop := ∃ v L p', e = .returned v ∧ L.length ≤ 300 ∧ Own w' w.heap.size w'.heap.size v L ∧ Rdr w' r S p' ∧ 0 ≤ p' ∧ p' ≤ p + 100 ∧ Only r w w' ∧ CapIs v
set_option maxRecDepth 100000 in
set_option maxHeartbeats 4000000 in
theorem draw_familyC (r S : Nat) (p n : Int) (w : World) (h : Rdr w r S p) (p0 : 0 ≤ p) (p1 : p ≤ 900000) (h0 : 0 ≤ n) (h9 : n ≤ 9) : Calls Tryd.prog 69 #[.pointer (some ⟨r, 0, none⟩), .int .i64 n] w (FamDrawC r S p w) := by
  have hcap := Lib.hid (cap_at n h0 h9)
  have hrl := h.lt
  have hR0 := Lib.hid (h.alloc (.cells #[] 3))
  clear h
  go_enter Tryd.func69, Tryd.ntmps69
  go_wp2_with fail
  refine (rd_pick r S p 10 _ hR0.out p0 (by omega) (by omega)).mono ?_
  rintro e w1 ⟨m, rfl, ⟨m1, m2, m3, m4⟩, hR1, hO1⟩
  have m5 : m < 10 := m3 (by omega)
  have hL1 := Lib.hid ((OwnL.lit w (Nat.le_refl w.heap.size)).only hO1 hrl)
  replace hO1 := Lib.hid (((Only.refl r w).alloc _).trans hO1)
  replace hR1 := Lib.hid hR1
  clear m3 m4 hR0
  go_wp2_with fail
  go_loopw [5, 7] (fun u i wr => ∃ (k : Nat) (acc : List Int), (k : Int) ≤ m ∧ i = .int .i64 k ∧ acc.length = k ∧ Hid (OwnL wr w.heap.size u acc) ∧ Hid (Rdr wr r S (p + 1 + (k : Int))) ∧ Hid (Only r w wr)) (fun _ i _ => (m - intOf i).toNat)
  case atStart => exact ⟨0, [], by omega, rfl, rfl, hL1, Lib.hid (by simpa using hR1.out), hO1⟩
  case round =>
    obtain ⟨k, acc, hk, rfl, hac, hown, hR, hO⟩ := hrel
    have hzz := hO.out.size
    have hac9 : (acc.length : Int) ≤ 10 := by omega
    obtain ⟨a', c', rfl⟩ := hown.out.form
    replace hac := Lib.hid hac
    by_cases hlt : (k : Int) < m
    · go_wp2_with fail
      refine (hcap.out _).mono ?_
      rintro e w' ⟨c, rfl, ⟨c1, c2⟩, rfl⟩
      go_wp2_with fail
      refine (rd_pick r S (p + 1 + (k : Int)) c _ hR.out (by omega) (by omega) (by omega)).mono ?_
      rintro e w4 ⟨z, rfl, hz, hR4, hO4⟩
      clear hz
      have hown4 := Lib.hid (hown.out.only hO4 hrl)
      have hO5 := Lib.hid (hO.out.trans hO4)
      have ep : p + 1 + (k : Int) + 1 = p + 1 + ((k + 1 : Nat) : Int) := by omega
      rw [ep] at hR4
      replace hR4 := Lib.hid hR4
      replace ep := Lib.hid ep
      have hlt4 := hO5.out.size
      clear hO4
      go_wp2_with (at_builtin; refine app_int rfl _ _ rfl w.heap.size _ acc rfl (hown4.out.alloc _) z w4.heap.size rfl (cell_new _ _ _) (by omega) (by simp; omega) ?_; intro v' w5 hown5 hb5)
      go_roundw
      case rel => exact ⟨k + 1, acc ++ [z], by omega, by go_num, by rw [List.length_append, hac.out]; rfl, Lib.hid hown5, Lib.hid ((hR4.out.alloc _).below hb5 hrl), Lib.hid ((hO5.out.alloc _).then hb5 (Nat.le_refl _))⟩
      case measure => simp [intOf]; omega
    · have hfo := Lib.hid (sp_FamilyOfC n (.slice a' acc.length c') acc wr.heap.size wr hown.out.own.row (Nat.le_refl _) (by omega))
      obtain ⟨p2, hp2⟩ : ∃ p2, p + 1 + (k : Int) = p2 := ⟨_, rfl⟩
      rw [hp2] at hR
      have q1 : 0 ≤ p2 := by omega
      have q2 : p2 ≤ p + 11 := by omega
      clear hp2
      go_wp2_with fail
      refine (hfo.out).mono ?_
      rintro e w2 ⟨v2, rfl, hF2, hb2, hCF⟩
      have hrl2 : r < wr.heap.size := by omega
      have hown2 := Lib.hid (hown.out.below hb2 (Nat.le_refl _))
      have hR2 := Lib.hid (hR.out.below hb2 hrl2)
      have hO2 := Lib.hid (hO.out.trans (Only.of_below hb2 (Nat.le_refl _)))
      have hz2 := hb2.size
      obtain ⟨fa, fc, rfl, _⟩ := id hF2
      rcases (by cases colB n acc <;> simp : colB n acc = true ∨ colB n acc = false) with hcb | hcb
      · have hfl := colB_len hcb
        have hfe : famOfL n acc = sortL acc := by unfold famOfL; rw [if_pos hcb]
        have hset := Lib.hid (fun z (hz : z ∈ sortL acc) => setB_lt ((colB_lt hcb).2.2 z (mem_sortL.1 hz)))
        obtain ⟨n1, n2, _⟩ := colB_lt hcb
        obtain ⟨F, hFF⟩ : ∃ F, sortL acc = F := ⟨_, rfl⟩
        rw [hfe] at hF2 hCF ⊢
        rw [hFF] at hF2 hCF hfl hset ⊢
        rw [hcb]
        replace hCF := Lib.hid hCF
        replace hF2 := Lib.hid hF2
        replace hFF := Lib.hid hFF
        replace hcb := Lib.hid hcb
        clear hfo hfe hb2 hown hR hO
        go_wp2_with fail
        refine (rd_pick r S p2 24 _ hR2.out (by omega) (by omega) (by omega)).mono ?_
        rintro e w3 ⟨x, rfl, hx, hR3, hO3⟩
        have hF3 := Lib.hid (hF2.out.only hO3 hrl2 (Nat.le_refl _))
        have hz33 := hO3.size
        have hown3 := Lib.hid (hown2.out.only hO3 hrl)
        replace hR3 := Lib.hid hR3
        replace hO3 := Lib.hid (hO2.out.trans hO3)
        clear hx hown2 hR2 hO2 hF2
        rcases (by by_cases e : x = 0 <;> simp [e] : (x == 0) = true ∨ (x == 0) = false) with hz | hz
        · go_wp2_with fail
          go_ret
          exact ⟨_, acc, _, rfl, by omega, hown3.out.own, hR3.out, by omega, by omega, hO3.out, hown3.out.capIs⟩
        · go_wp2_with fail
          refine (rd_pick r S (p2 + 1) 5 _ hR3.out (by omega) (by omega) (by omega)).mono ?_
          rintro e w4 ⟨y, rfl, ⟨y1, y2, y3, y4⟩, hR4, hO4⟩
          have y5 : y < 5 := y3 (by omega)
          have hz3 := hO4.size
          have hF4 := Lib.hid (hF3.out.only hO4 hrl2 hz33)
          replace hR4 := Lib.hid hR4
          replace hO4 := Lib.hid (hO3.out.trans hO4)
          clear y3 y4 hown3 hR3 hO3 hF3
          rcases (by omega : y = 0 ∨ y = 1 ∨ 2 ≤ y) with rfl | rfl | hy
          · go_wp2_with fail
            have hS24 : w2.heap.size ≤ w4.heap.size := by omega
            go_loopw [10, 11] (fun v q wq => ∃ (j : Nat) (L : List Int), j ≤ F.length ∧ q = .int .i64 j ∧ L.length ≤ j ∧ Hid (OwnL wq w4.heap.size v L) ∧ Hid (Below w4.heap.size w4 wq)) (fun _ q _ => F.length - (intOf q).toNat)
            case atStart => exact ⟨0, [], by omega, rfl, by simp, Lib.hid (OwnL.lit w4 (Nat.le_refl _)), Lib.hid ((Below.refl _ _).alloc (Nat.le_refl _) _)⟩
            case round =>
              obtain ⟨j, L, hj, rfl, hLj, hown5, hbel⟩ := hrel
              obtain ⟨a5, c5, rfl⟩ := hown5.out.form
              have hsz := hbel.out.size
              by_cases hlj : j < F.length
              · obtain ⟨a6, c6, e6, hcell⟩ := hF4.out
                injection e6 with e7 e8 e9
                subst e7 e9
                obtain ⟨b1, o1, rfl, s0, s1, cc, _⟩ := hcell (by omega)
                have j1 : (0 : Int) ≤ (j : Int) := by omega
                have j2 : (j : Int) < (F.length : Nat) := by omega
                have e1 := (hbel.out.cell (p := ⟨b1, o1 + j, none⟩) (show b1 < w4.heap.size by omega)).trans (cc j hlj)
                obtain ⟨z, hz0⟩ : ∃ z, F.getD j 0 = z := ⟨_, rfl⟩
                rw [hz0] at e1
                obtain ⟨z1, z2⟩ := hset.out z (by rw [← hz0]; exact getD_mem hlj)
                obtain ⟨t, ht⟩ : ∃ t, cntI z = t := ⟨_, rfl⟩
                have hsz1 := l1size z z1 z2
                rw [ht] at hsz1
                replace hsz1 := Lib.hid hsz1
                replace ht := Lib.hid ht
                replace hz0 := Lib.hid hz0
                clear cc hcell
                have hB1 : w4.heap.size ≤ (wr.alloc (.cells #[.int .i64 z] 3)).heap.size := by rw [World.size_alloc]; omega
                have hLL : L.length ≤ 1073741824 := by omega
                go_wp2_with (first | (go_at_call 85; refine (hsz1.out _).mono ?_; rintro e w' ⟨rfl, rfl⟩) | (at_builtin; refine app_int rfl _ _ rfl w4.heap.size _ L rfl (hown5.out.alloc _) z wr.heap.size rfl (cell_new _ _ _) hLL hB1 ?_; intro v' w7 hown7 hb7))
                · exact ⟨⟨j + 1, L ++ [z], by omega, by go_num, by simp; omega, Lib.hid hown7, Lib.hid ((hbel.out.alloc hsz _).trans hb7)⟩, by simp [intOf]; omega⟩
                · exact ⟨⟨j + 1, L, by omega, by go_num, by omega, hown5, hbel⟩, by simp [intOf]; omega⟩
              · go_wp2_with fail
                go_ret
                exact ⟨_, L, _, rfl, by omega, hown5.out.own.mono (by omega) (Nat.le_refl _), hR4.out.below hbel.out (by omega), by omega, by omega, hO4.out.then hbel.out (by omega), hown5.out.capIs⟩
          · go_wp2_with fail
            refine (rd_pick r S (p2 + 1 + 1) 2 _ hR4.out (by omega) (by omega) (by omega)).mono ?_
            rintro e w5 ⟨z, rfl, hz5, hR5, hO5⟩
            have hF5 := Lib.hid (hF4.out.only hO5 hrl2 (by omega))
            have hz45 := hO5.size
            replace hR5 := Lib.hid hR5
            replace hO5 := Lib.hid (hO4.out.trans hO5)
            clear hz5 hF4 hR4 hO4
            have hcl := Lib.hid (fun dn => closed_at n (.slice fa F.length fc) F w5.heap.size dn w5 (hF5.out.row.mono (by omega)) (Nat.le_refl _) (by omega) n1 n2)
            go_wp2_with fail
            refine (hcl.out _).mono ?_
            rintro e w6 ⟨v6, L6, rfl, hL6, hown6, hb6⟩
            obtain ⟨a6, c6, rfl⟩ := hown6.form
            have hz56 := hb6.size
            replace hown6 := Lib.hid hown6
            replace hb6 := Lib.hid hb6
            clear hcl
            go_wp2_with fail
            go_ret
            exact ⟨_, L6, _, rfl, by omega, hown6.out.own.mono (by omega) (Nat.le_refl _), hR5.out.below hb6.out (by omega), by omega, by omega, hO5.out.then hb6.out (by omega), hown6.out.capIs⟩
          · have hy0 : (y == 0) = false := by simp; omega
            have hy1 : (y == 1) = false := by simp; omega
            go_wp2_with fail
            go_ret
            exact ⟨_, F, _, rfl, by omega, hF4.out.mono (by omega) (by omega), hR4.out, by omega, by omega, hO4.out, hCF.out⟩
      · replace hcb := Lib.hid hcb
        rw [hcb.out]
        replace hF2 := Lib.hid hF2
        clear hfo
        go_wp2_with fail
        go_ret
        exact ⟨_, acc, _, rfl, by omega, hown2.out.own, hR2.out, by omega, by omega, hO2.out, hown2.out.capIs⟩
/-- what a draw of a number and a family gives. -/
def GivenDrawC (w : World) (e : Ending) (w' : World) : Prop := ∃ n u xs, e = .returned (.tuple #[.int .i64 n, u]) ∧ xs.length ≤ 300 ∧ Own w' w.heap.size w'.heap.size u xs ∧ Below w.heap.size w w' ∧ CapIs u ∧ drawnPts n
set_option maxRecDepth 100000 in
set_option maxHeartbeats 1000000 in
theorem draw_givenC (v : Value) (a : Option Addr) (len cap : Nat) (w : World) (hv : v = .slice a len cap) (hc : len ≤ cap) (hcap : cap ≤ 9223372036854775807) (hB : Bytes w w.heap.size a len) :
    Calls Tryd.prog 79 #[v] w (GivenDrawC w) := by
  have h0 := Lib.hid (rd_open v a len cap w hv hc hcap hB)
  clear hv hc hcap hB
  go_enter Tryd.func79, Tryd.ntmps79
  go_wp2_with fail
  refine (h0.out).mono ?_
  rintro e w0 ⟨r, rfl, hr, hR0, hb0, hz0⟩
  have hrw : w.heap.size ≤ r := by omega
  replace hr := Lib.hid hr
  replace hR0 := Lib.hid hR0
  replace hb0 := Lib.hid hb0
  go_wp2_with fail
  refine (rd_points r _ 0 w0 hR0.out (by omega) (by omega)).mono ?_
  rintro e w1 ⟨n, rfl, hn, hR1, hO1⟩
  have hn1 : 0 ≤ n ∧ n ≤ 9 := by unfold drawnPts at hn; omega
  obtain ⟨hn1, hn2⟩ := hn1
  have hdp := Lib.hid hn
  have hb1 := Lib.hid (hO1.below hb0.out hrw hb0.out.size)
  replace hR1 := Lib.hid hR1
  clear hn hO1 hR0
  go_wp2_with fail
  refine (draw_familyC r _ (0 + 2) n w1 hR1.out (by omega) (by omega) hn1 hn2).mono ?_
  rintro e w2 ⟨v2, L, p2, rfl, hL, hF2, hR2, q1, q2, hO2, hCF⟩
  obtain ⟨fa, fc, rfl, _⟩ := id hF2
  have hz01 := hb1.out.size
  have hb2 := Lib.hid (hO2.below hb1.out hrw hb1.out.size)
  replace hF2 := Lib.hid hF2
  replace hCF := Lib.hid hCF
  clear hO2 hR1 hR2
  go_wp2_with fail
  go_ret2
  exact ⟨_, _, L, rfl, hL, hF2.out.mono (by omega) (Nat.le_refl _), hb2.out, hCF.out, hdp.out⟩
theorem Own.cut9 {w : World} {B S : Nat} {a : Option Addr} {xs : List Int} {c : Nat} (h : Own w B S (.slice a xs.length c) xs) {m : Nat} (hm : m ≤ xs.length) : Own w B S (.slice a m c) (xs.take m) := by
  obtain ⟨a', c', e, h⟩ := h
  injection e with e1 e2 e3
  subst e1 e3
  have hl : (xs.take m).length = m := by rw [List.length_take]; omega
  refine ⟨a, c, by rw [hl], fun hp => ?_⟩
  rw [hl] at hp
  obtain ⟨b, off, rfl, h1, h2, h3, h4⟩ := h (by omega)
  refine ⟨b, off, rfl, h1, h2, fun i hi => ?_, fun i hi => h4 i (by rw [hl] at hi; omega)⟩
  rw [hl] at hi
  have := h3 i (by omega)
  rw [this, List.getD_eq_getElem?_getD, List.getD_eq_getElem?_getD, List.getElem?_take_of_lt hi]
/-- what a draw of a number and few sets gives. -/
def FewDraw (w : World) (e : Ending) (w' : World) : Prop := ∃ n u xs, e = .returned (.tuple #[.int .i64 n, u]) ∧ xs.length ≤ 9 ∧ Own w' w.heap.size w'.heap.size u xs ∧ Below w.heap.size w w' ∧ CapIs u ∧ drawnPts n
set_option maxRecDepth 100000 in
theorem draw_few (v : Value) (a : Option Addr) (len cap : Nat) (w : World) (hv : v = .slice a len cap) (hc : len ≤ cap) (hcap : cap ≤ 9223372036854775807) (hB : Bytes w w.heap.size a len) :
    Calls Tryd.prog 61 #[v] w (FewDraw w) := by
  have h0 := Lib.hid (draw_givenC v a len cap w hv hc hcap hB)
  clear hv hc hcap hB
  go_enter Tryd.func61, Tryd.ntmps61
  go_wp2_with fail
  refine (h0.out).mono ?_
  rintro e w1 ⟨n, u, xs, rfl, hl, hO, hb, hC, hd⟩
  obtain ⟨ua, uc, rfl, _⟩ := id hO
  obtain ⟨c1, c2⟩ := hC _ _ _ rfl
  have hml : uc ≤ maxLen := c2
  replace hO := Lib.hid hO
  replace hb := Lib.hid hb
  replace hC := Lib.hid hC
  replace hd := Lib.hid hd
  by_cases h9 : xs.length ≤ 9
  · go_wp2_with fail
    go_ret2
    exact ⟨_, _, xs, rfl, h9, hO.out, hb.out, hC.out, hd.out⟩
  · have k1 : (9 : Int) ≤ (uc : Nat) := by omega
    have hO9 := Lib.hid (hO.out.cut9 (m := 9) (by omega))
    have hC9 : CapIs (.slice ua 9 uc) := fun _ _ _ e => by injection e with _ e2 e3; subst e2 e3; exact ⟨by omega, c2⟩
    replace hC9 := Lib.hid hC9
    have hl9 : (xs.take 9).length ≤ 9 := by rw [List.length_take]; omega
    replace hl9 := Lib.hid hl9
    have he9 : (xs.take 9).length = 9 := by rw [List.length_take]; omega
    replace he9 := Lib.hid he9
    go_wp2_with fail
    go_quiet (fail)
    go_wp2_with fail
    go_ret2
    exact ⟨_, _, xs.take 9, rfl, hl9.out, hO9.out.drewN _, below_drewN hb.out _, hC9.out, hd.out⟩
end Go.Proofs.YtjhjmbiecihjhaaDoor
