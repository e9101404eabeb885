/- Ball order has all sets, small ones first: the draw and the law. -/
import Derived.Test.YtgfmfecalhmplaaDoorBoA
import Derived.Test.YtgfmfecalhmplaaDoorAllSL
import Derived.Test.YtgfmfecalhmplaaDoorFams4
namespace Go.Proofs.YtgfmfecalhmplaaDoor
open Go.ChangeShapes Go.WideShapes Go.ChangeAt Go.RowKit Go.Proofs

set_option maxHeartbeats 1000000 in
theorem sp_BoundaryOrder (n : Int) (w : World) : Calls Tryd.prog 12 #[.int .i64 n] w (ListPost (ifL (ptsB n) (orL n)) (ptsB n) w) := by
  have hpp := fun W => l1pts n W
  rcases (by cases ptsB n <;> simp : ptsB n = true ∨ ptsB n = false) with hp | hp
  · obtain ⟨n1, n2⟩ := ptsB_yes hp
    have ho := Lib.hid (sp_order n n1 n2 w)
    rw [hp] at hpp ⊢
    show Calls Tryd.prog 12 #[.int .i64 n] w (ListPost (orL n) true w)
    replace hpp := Lib.hid hpp
    replace hp := Lib.hid hp
    go_enter Tryd.func12, Tryd.ntmps12
    go_wp2_with (go_at_call 35; refine (hpp.out _).mono ?_; rintro e w' ⟨rfl, rfl⟩)
    refine ho.out.mono ?_
    rintro e w1 ⟨v, rfl, hO, hb, _⟩
    obtain ⟨a', c', rfl⟩ := hO.form
    replace hO := Lib.hid hO.own
    replace hb := Lib.hid hb
    go_wp2_with fail
    go_ret2
    exact ⟨_, rfl, hO.out, hb.out⟩
  · rw [hp] at hpp ⊢
    replace hpp := Lib.hid hpp
    replace hp := Lib.hid hp
    go_enter Tryd.func12, Tryd.ntmps12
    go_wp2_with (go_at_call 35; refine (hpp.out _).mono ?_; rintro e w' ⟨rfl, rfl⟩)
    go_ret2
    exact ⟨_, rfl, own_empty0 _ _ _ _ _, (Below.refl _ _).alloc (Nat.le_refl _) _⟩
theorem orL_len {n : Int} (n1 : 1 ≤ n) (n2 : n ≤ 8) : (orL n).length = 2 ^ n.toNat := by
  obtain ⟨p1, p2, p3⟩ := pow_nat n1 n2
  unfold orL
  rw [up_sort, unL_len, ku_len _ p1]
theorem orL_set {n : Int} (n1 : 1 ≤ n) (n2 : n ≤ 8) : ∀ z ∈ orL n, setB n z = true := fun z hz => by
  unfold orL at hz
  rw [up_sort] at hz
  obtain ⟨k, hk, rfl⟩ := List.mem_map.1 hz
  obtain ⟨p1, p2, p3⟩ := pow_nat n1 n2
  obtain ⟨x, x1, x2, rfl⟩ := ku_mem p1 hk
  rw [(bk_facts x1 (by omega)).2.2]
  have e : ((2 ^ n.toNat : Nat) : Int) = 2 ^ n.toNat := by simp
  exact setB_mk ⟨n1, n2, x1, by omega⟩
set_option maxRecDepth 100000 in
set_option maxHeartbeats 1000000 in
theorem draw_Order (v : Value) (a : Option Addr) (len cap : Nat) (w : World) (hv : v = .slice a len cap) (hc : len ≤ cap) (hcap : cap ≤ 9223372036854775807) (hB : Bytes w w.heap.size a len) :
    Calls Tryd.prog 10 #[v] w fun e w' => ∃ n, e = .returned (.int .i64 n) ∧ drawnPts n ∧ Below w.heap.size w w' := by
  have h0 := Lib.hid (rd_open v a len cap w hv hc hcap hB)
  clear hv hc hcap hB
  go_enter Tryd.func10, Tryd.ntmps10
  go_wp2_with fail
  refine (h0.out).mono ?_
  rintro e w0 ⟨r, rfl, hr, hR0, hb0, hz0⟩
  have hrw : w.heap.size ≤ r := by omega
  replace hr := Lib.hid hr
  replace hR0 := Lib.hid hR0
  replace hb0 := Lib.hid hb0
  go_wp2_with fail
  refine (rd_points r _ 0 w0 hR0.out (by omega) (by omega)).mono ?_
  rintro e w1 ⟨n, rfl, hn, hR1, hO1⟩
  have hb1 := Lib.hid (hO1.below hb0.out hrw hb0.out.size)
  replace hn := Lib.hid hn
  clear hO1 hR0 hR1
  go_wp2_with fail
  go_ret
  exact ⟨_, rfl, hn.out, hb1.out⟩
theorem cnt_key : ∀ s : Fin 256, cntI (s.val : Nat) = bkI (s.val : Nat) / 256 := by decide +kernel
theorem or_size {n : Int} (n1 : 1 ≤ n) (n2 : n ≤ 8) {i : Nat} (h0 : 0 < i) (h : i < (orL n).length) : cntI ((orL n).getD (i - 1) 0) ≤ cntI ((orL n).getD i 0) := by
  have husz := upI_lt n1 n2
  have hK := kL_isK (xs := sortL (upI (2 ^ n.toNat))) (fun x hx => setB_lt (husz x hx))
  have hA : Asc (kL (sortL (upI (2 ^ n.toNat)))) := asc_sortL _
  unfold orL at h ⊢
  rw [unL_len] at h
  rw [unL_get (by omega), unL_get h]
  obtain ⟨a1, a2, a3⟩ := hK _ (getD_mem (i := i - 1) (by omega))
  obtain ⟨b1, b2, b3⟩ := hK _ (getD_mem h)
  have hlt := asc_get hA (i := i - 1) (j := i) (by omega) h
  rw [← a3, ← b3] at hlt
  have c1 := all256 (P := fun s => cntI s = bkI s / 256) cnt_key a1 a2
  have c2 := all256 (P := fun s => cntI s = bkI s / 256) cnt_key b1 b2
  omega
theorem or_fam {n : Int} (n1 : 1 ≤ n) (n2 : n ≤ 8) : colB n (orL n) = true ∧ (famOfL n (orL n)).length = 2 ^ n.toNat := by
  have hc : colB n (orL n) = true := by
    unfold colB
    rw [ptsB_mk n1 n2]
    exact List.all_eq_true.2 (orL_set n1 n2)
  refine ⟨hc, ?_⟩
  have e : famOfL n (orL n) = sortL (orL n) := by unfold famOfL; rw [if_pos hc]
  rw [e]
  have h : sortL (orL n) = upI (2 ^ n.toNat) := sortL_eq (asc_upI _) (fun z => by
    obtain ⟨p1, p2, p3⟩ := pow_nat n1 n2
    constructor
    · intro hz
      have := setB_yes (orL_set n1 n2 z hz)
      have e : ((2 ^ n.toNat : Nat) : Int) = 2 ^ n.toNat := by simp
      exact mem_upI.2 ⟨this.2.2.1, by omega⟩
    · intro hz
      have hz2 := mem_upI.1 hz
      unfold orL unL
      rw [up_sort]
      refine List.mem_map.2 ⟨bkI z, ?_, (bk_facts hz2.1 (by omega)).2.2⟩
      unfold kL
      rw [mem_sortL]
      exact List.mem_map_of_mem hz)
  rw [h, upI_len]
set_option maxRecDepth 100000 in
set_option maxHeartbeats 4000000 in
theorem law_FnOrder (v : Value) (a : Option Addr) (len cap : Nat) (w : World) (hv : v = .slice a len cap) (hc : len ≤ cap) (hcap : cap ≤ 9223372036854775807) (hB : Bytes w w.heap.size a len) (hT : Tab w) :
    Calls Tryd.prog 3 #[v] w fun e w' => e = .returned (.bool true) ∧ Below w.heap.size w w' := by
  have htl := hT.lt
  have h0 := Lib.hid (draw_Order v a len cap w hv hc hcap hB)
  subst hv
  replace hT := Lib.hid hT
  clear hB
  by_cases hbig : 1048576 < len
  · go_enter Tryd.func3, Tryd.ntmps3
    go_wp2_with fail
    go_ret
    exact ⟨rfl, Below.refl _ _⟩
  · go_enter Tryd.func3, Tryd.ntmps3
    go_wp2_with fail
    refine (h0.out).mono ?_
    rintro e w1 ⟨n, rfl, hdn, hb⟩
    have z1 := hb.size
    have hi := im_BoundaryOrder n w1 (hT.out.below hb htl)
    have hs := fun W => sp_BoundaryOrder n W
    have hb1 := Lib.hid hb
    clear hb h0
    rcases (by cases ptsB n <;> simp : ptsB n = true ∨ ptsB n = false) with hp | hp
    · obtain ⟨n1, n2⟩ := ptsB_yes hp
      have hlen := orL_len n1 n2
      have hz := fun z h => setB_lt (orL_set n1 n2 z h)
      obtain ⟨hcb, hfl⟩ := or_fam n1 n2
      have hsz := fun i h0 h => or_size n1 n2 (i := i) h0 h
      have hfo := fun (W : World) (u : Value) (hr : Row W W.heap.size u (orL n)) => im_FamilyOf n u (orL n) _ W hr (Nat.le_refl _) (by have := (kL_up_len n1 n2).1; omega)
      obtain ⟨p1, p2, p3⟩ := pow_nat n1 n2
      obtain ⟨N, hN⟩ : ∃ N : Nat, 2 ^ n.toNat = N := ⟨_, rfl⟩
      have hNi : (2 : Int) ^ n.toNat = (N : Nat) := by rw [← hN]; simp
      have hn0 : (0 : Int) ≤ n := by omega
      have hn64 : n < 64 := by omega
      rw [hN] at p1 p2 p3 hlen hfl
      rw [hp] at hi hs
      rw [hcb] at hfo
      change Calls Tryd.prog 11 #[.int .i64 n] w1 (ListPost (orL n) true w1) at hi
      change ∀ W, Calls Tryd.prog 12 #[.int .i64 n] W (ListPost (orL n) true W) at hs
      obtain ⟨L, hL⟩ : ∃ L, orL n = L := ⟨_, rfl⟩
      rw [hL] at hi hs hlen hz hsz hfo hfl
      obtain ⟨F, hF⟩ : ∃ F, famOfL n L = F := ⟨_, rfl⟩
      rw [hF] at hfo hfl
      have hsame : sameB L L = true := decide_eq_true rfl
      have hLl : L.length ≤ 256 := by omega
      replace hi := Lib.hid hi
      replace hs := Lib.hid hs
      replace hfo := Lib.hid hfo
      replace hz := Lib.hid hz
      replace hsz := Lib.hid hsz
      replace hL := Lib.hid hL
      replace hF := Lib.hid hF
      replace hN := Lib.hid hN
      replace hNi := Lib.hid hNi
      replace hcb := Lib.hid hcb
      replace hp := Lib.hid hp
      replace hdn := Lib.hid hdn
      have hlenH := Lib.hid hlen
      have hflH := Lib.hid hfl
      clear hlen hfl
      go_wp2_with fail
      refine (hi.out).mono ?_
      rintro e w2 ⟨v2, rfl, hO2, hb2⟩
      obtain ⟨a2, c2, rfl, _⟩ := id hO2
      have z2 := hb2.size
      have R2 := Lib.hid hO2.row
      replace hb2 := Lib.hid (hb1.out.trans (hb2.mono z1))
      clear hO2 hi
      go_wp2_with fail
      refine (hs.out w2).mono ?_
      rintro e w3 ⟨v3, rfl, hO3, hb3⟩
      obtain ⟨a3, c3, rfl, _⟩ := id hO3
      have z3 := hb3.size
      have R3 := Lib.hid ((R2.out.below hb3 (Nat.le_refl _)).mono z3)
      have hq := same_l _ _ L L w3.heap.size w3 R3.out hO3.row (by omega) (by omega)
      rw [hsame] at hq
      replace hq := Lib.hid hq
      replace hb3 := Lib.hid (hb2.out.trans (hb3.mono (by omega)))
      clear hO3 hs R2
      go_wp2_with fail
      refine hq.out.mono ?_
      rintro e w4 ⟨rfl, q, rfl⟩
      have R4 : Hid (Row (w3.drewN q) (w3.drewN q).heap.size _ L) := Lib.hid (R3.out.drewN q)
      have hfo4 := Lib.hid (hfo.out (w3.drewN q) _ R4.out)
      have hb4 := Lib.hid (below_drewN hb3.out q)
      obtain ⟨w4, hw4⟩ : ∃ w4, w3.drewN q = w4 := ⟨_, rfl⟩
      have z4 : w.heap.size ≤ w4.heap.size := by rw [← hw4]; exact hb3.out.size
      rw [hw4] at R4 hfo4 hb4 ⊢
      replace hw4 := Lib.hid hw4
      clear hq hfo R3
      go_wp2_with fail
      refine hfo4.out.mono ?_
      rintro e w5 ⟨v5, rfl, hO5, hb5⟩
      obtain ⟨a5, c5, rfl, _⟩ := id hO5
      have z5 := hb5.size
      have R5 := Lib.hid ((R4.out.below hb5 (Nat.le_refl _)).mono z5)
      replace hb5 := Lib.hid (hb4.out.trans (hb5.mono z4))
      obtain ⟨a6, c6, he, hcell⟩ := R5.out
      injection he with he1 he2 he3
      subst he1 he3
      replace hcell := Lib.hid hcell
      clear hfo4 R4 hO5
      go_wp2_with fail
      go_loopw [10] (fun q wr => ∃ k : Nat, 1 ≤ k ∧ (k ≤ L.length) ∧ q = .int .i64 k ∧ Hid (∃ q, wr = w5.drewN q)) (fun q _ => L.length - (intOf q).toNat)
      case atStart => exact ⟨1, by omega, by have := hlenH.out; omega, rfl, Lib.hid ⟨0, rfl⟩⟩
      case round =>
        obtain ⟨k, hk1, hk, rfl, hw⟩ := hrel
        by_cases hlt : k < L.length
        · obtain ⟨b1, o1, rfl, t1, c1⟩ := hcell.out (by omega)
          have k1 : (0 : Int) ≤ (k : Int) := by omega
          have k2 : (k : Int) < (L.length : Nat) := by omega
          have hwd : ∀ p, Hid (∃ q, wr.drewN p = w5.drewN q) := fun p => by
            obtain ⟨q, h⟩ := hw.out
            exact Lib.hid ⟨q + p, by rw [h]; exact World.drewN_drewN _ _ _⟩
          obtain ⟨m, hm⟩ : ∃ m : Nat, k - 1 = m := ⟨_, rfl⟩
          have hm1 : (k : Int) - 1 = (m : Int) := by omega
          have hmw : IntKind.i64.wrap ((k : Int) - 1) = (m : Int) := by rw [IntKind.wrap_i64]; omega
          have hm2 : (0 : Int) ≤ (m : Int) := by omega
          have hm3 : (m : Int) < (L.length : Nat) := by omega
          have e1 : wr.cell? ⟨b1, o1 + k, none⟩ = some (.int .i64 (L.getD k 0)) := by
            obtain ⟨q, h⟩ := hw.out
            rw [h]; exact c1 k hlt
          have e2 : wr.cell? ⟨b1, o1 + m, none⟩ = some (.int .i64 (L.getD m 0)) := by
            obtain ⟨q, h⟩ := hw.out
            rw [h]; exact c1 m (by omega)
          have hcmp := hsz.out k (by omega) hlt
          rw [hm] at hcmp
          obtain ⟨x1, x2⟩ := hz.out (L.getD k 0) (getD_mem hlt)
          obtain ⟨y1, y2⟩ := hz.out (L.getD m 0) (getD_mem (by omega))
          obtain ⟨x, hx⟩ : ∃ x, L.getD k 0 = x := ⟨_, rfl⟩
          obtain ⟨y, hy⟩ : ∃ y, L.getD m 0 = y := ⟨_, rfl⟩
          rw [hx] at e1 hcmp x1 x2
          rw [hy] at e2 hcmp y1 y2
          have s1 := fun W => (law_size x x1 x2 W).mono (fun _ _ h => (⟨h.1, h.2.symm⟩ : _ ∧ _))
          have s2 := fun W => (law_size y y1 y2 W).mono (fun _ _ h => (⟨h.1, h.2.symm⟩ : _ ∧ _))
          obtain ⟨c, hc1⟩ : ∃ c, cntI x = c := ⟨_, rfl⟩
          obtain ⟨d, hd1⟩ : ∃ d, cntI y = d := ⟨_, rfl⟩
          rw [hc1] at s1 hcmp
          rw [hd1] at s2 hcmp
          replace s1 := Lib.hid s1
          replace s2 := Lib.hid s2
          replace hc1 := Lib.hid hc1
          replace hd1 := Lib.hid hd1
          replace hx := Lib.hid hx
          replace hy := Lib.hid hy
          replace hm := Lib.hid hm
          clear c1 hw
          go_wp2_with fail
          go_quiet (first | (go_at_call 15; with_reducible exact Calls.quiet_of_same (s1.out _)) | (go_at_call 15; with_reducible exact Calls.quiet_of_same (s2.out _)))
          go_wp2_with fail
          go_roundw
          case rel => exact ⟨k + 1, by omega, by omega, by go_num, hwd _⟩
          case measure => simp [intOf]; omega
        · obtain rfl : k = L.length := by omega
          have hl1 := hlenH.out
          have hl2 := hflH.out
          have hfin := Lib.hid (show Below w.heap.size w wr by
            obtain ⟨q, h⟩ := hw.out
            rw [h]; exact below_drewN hb5.out q)
          have hg1 : ((F.length : Nat) : Int) = (N : Nat) := by omega
          have hg2 : ((L.length : Nat) : Int) = (N : Nat) := by omega
          clear hl1 hl2
          go_wp2_with fail
          go_ret
          exact ⟨rfl, hfin.out⟩
    · have hi2 := hi
      rw [hp] at hi hs
      change Calls Tryd.prog 11 #[.int .i64 n] w1 (ListPost [] false w1) at hi
      change ∀ W, Calls Tryd.prog 12 #[.int .i64 n] W (ListPost [] false W) at hs
      have hsame : sameB [] [] = true := decide_eq_true rfl
      replace hi := Lib.hid hi
      replace hs := Lib.hid hs
      replace hp := Lib.hid hp
      replace hdn := Lib.hid hdn
      clear hi2
      go_wp2_with fail
      refine (hi.out).mono ?_
      rintro e w2 ⟨v2, rfl, hO2, hb2⟩
      obtain ⟨a2, c2, rfl, _⟩ := id hO2
      have z2 := hb2.size
      have R2 := Lib.hid hO2.row
      replace hb2 := Lib.hid (hb1.out.trans (hb2.mono z1))
      clear hO2 hi
      go_wp2_with fail
      refine (hs.out w2).mono ?_
      rintro e w3 ⟨v3, rfl, hO3, hb3⟩
      obtain ⟨a3, c3, rfl, _⟩ := id hO3
      have z3 := hb3.size
      have R3 := Lib.hid ((R2.out.below hb3 (Nat.le_refl _)).mono z3)
      have hq0 := fun q => same_l _ _ [] [] w3.heap.size (w3.drewN q) (R3.out.drewN q) (hO3.row.drewN q) (by simp) (by simp)
      simp only [hsame] at hq0
      have hq := fun (W : World) (h : ∃ q, W = w3.drewN q) => Exists.elim h (fun q e => by have h2 := hq0 q; rw [← e] at h2; exact h2)
      replace hq := Lib.hid hq
      replace hb3 := Lib.hid (hb2.out.trans (hb3.mono (by omega)))
      clear hO3 hs R2
      go_wp2_with fail
      refine (hq.out w3 ⟨0, rfl⟩).mono ?_
      rintro e w4 ⟨rfl, q, rfl⟩
      go_wp2_with fail
      refine (hq.out _ ⟨_, by first | rfl | exact World.drewN_drewN _ _ _⟩).mono ?_
      rintro e w4 ⟨rfl, q2, rfl⟩
      go_wp2_with fail
      go_ret
      exact ⟨rfl, below_drewN hb3.out _⟩
end Go.Proofs.YtgfmfecalhmplaaDoor
