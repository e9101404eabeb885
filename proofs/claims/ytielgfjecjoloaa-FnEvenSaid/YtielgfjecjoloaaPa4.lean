/- The law of families of sets of one size. -/
import Derived.Test.YtielgfjecjoloaaPa1
import Derived.Test.YtielgfjecjoloaaEvB
import Derived.Test.YtielgfjecjoloaaDrawF
import Derived.Test.YtielgfjecjoloaaSpec7
namespace Go.Proofs.Ytielgfjecjoloaa
open Go.ChangeShapes Go.WideShapes Go.ChangeAt Go.RowKit Go.Proofs
theorem mkL_len256 (p : Nat → Bool) (m : Nat) : (mkL p m).length ≤ m := by
  unfold mkL
  have := List.length_filter_le (fun z : Int => p z.toNat) (upI m)
  rw [upI_len] at this
  exact this
set_option maxRecDepth 100000 in
set_option maxHeartbeats 4000000 in
theorem draw_even (v : Value) (a : Option Addr) (len cap : Nat) (w : World) (hv : v = .slice a len cap) (hc : len ≤ cap) (hcap : cap ≤ 9223372036854775807) (hB : Bytes w w.heap.size a len) :
    Calls Try.prog 57 #[v] w (GivenDraw w) := by
  have h0 := Lib.hid (rd_open v a len cap w hv hc hcap hB)
  clear hv hc hcap hB
  go_enter Try.func57, Try.ntmps57
  go_wp2_with fail
  refine (h0.out).mono ?_
  rintro e w0 ⟨r, rfl, hr, hR0, hb0, hz0⟩
  have hrw : w.heap.size ≤ r := by omega
  replace hr := Lib.hid hr
  replace hR0 := Lib.hid hR0
  replace hb0 := Lib.hid hb0
  go_wp2_with fail
  refine (rd_pick r _ 0 6 w0 hR0.out (by omega) (by omega) (by omega)).mono ?_
  rintro e w1 ⟨x, rfl, ⟨m1, m2, m3, m4⟩, hR1, hO1⟩
  have m5 : x < 6 := m3 (by omega)
  have hb1 := Lib.hid (hO1.below hb0.out hrw hb0.out.size)
  obtain ⟨n, hn⟩ : ∃ n, 1 + x = n := ⟨_, rfl⟩
  have n1 : 1 ≤ n := by omega
  have n6 : n ≤ 6 := by omega
  have hwn : IntKind.i64.wrap (1 + x) = n := by rw [IntKind.wrap_i64]; omega
  have hwn2 : wrap64 (1 + x) = n := by unfold wrap64; omega
  replace hR1 := Lib.hid hR1
  clear m3 m4 hO1 hR0
  go_wp2_with fail
  refine (rd_pick r _ 1 (n + 1) w1 hR1.out (by omega) (by omega) (by omega)).mono ?_
  rintro e w2 ⟨k, rfl, hk, hR2, hO2⟩
  clear hk
  have hb2 := Lib.hid (hO2.below hb1.out hrw hb1.out.size)
  have hz2 := hb2.out.size
  have hrl2 := hR2.lt
  have hlv := Lib.hid (level_at n k w2 n1 (by omega))
  have hLl := mkL_len256 (fun j => cntI (j : Nat) == k) (2 ^ n.toNat)
  have hpw := (pow_nat n1 (show n ≤ 8 by omega)).1
  obtain ⟨L, hL⟩ : ∃ L, mkL (fun j => cntI (j : Nat) == k) (2 ^ n.toNat) = L := ⟨_, rfl⟩
  rw [hL] at hlv hLl
  have hL3 : L.length ≤ 256 := by omega
  replace hL := Lib.hid hL
  replace hR2 := Lib.hid hR2
  clear hO2 hR1 hLl hpw
  go_wp2_with fail
  refine hlv.out.mono ?_
  rintro e w3 ⟨v3, rfl, hO3, hb3⟩
  obtain ⟨a3, c3, rfl⟩ := hO3.form
  have hz3 := hb3.size
  have hR3 := Lib.hid ((hR2.out.below hb3 hrl2).alloc (.cells #[] 3))
  have hA3 := hO3.own
  have hb23 := Lib.hid (hb2.out.trans (hb3.mono hz2))
  have hO3W := Lib.hid ((Only.refl r w3).alloc (.cells #[] 3))
  have hL0 := Lib.hid (OwnL.lit w3 (Nat.le_refl w3.heap.size))
  replace hA3 := Lib.hid hA3
  have hrl3 : r < w3.heap.size := by omega
  clear hO3 hb3 hR2
  go_wp2_with fail
  obtain ⟨W, hW⟩ : ∃ W, w3.alloc (.cells #[] 3) = W := ⟨_, rfl⟩
  have hWs : W.heap.size = w3.heap.size + 1 := by rw [← hW]; simp
  rw [hW] at hR3 hL0 hO3W ⊢
  replace hW := Lib.hid hW
  go_loopw [8, 9] (fun u i wr => ∃ (j : Nat) (acc : List Int), j ≤ L.length ∧ i = .int .i64 (j : Nat) ∧ acc.length ≤ j ∧ Hid (OwnL wr w3.heap.size u acc) ∧ Hid (Rdr wr r w.heap.size (1 + 1 + (j : Int))) ∧ Hid (Only r w3 wr)) (fun _ i _ => L.length - (intOf i).toNat)
  case atStart => exact ⟨0, [], by omega, rfl, by simp, hL0, Lib.hid (by simpa using hR3.out), hO3W⟩
  case round =>
    obtain ⟨j, acc, hj, rfl, hac, hown, hR, hO⟩ := hrel
    have hzz := hO.out.size
    obtain ⟨a', c', rfl⟩ := hown.out.form
    by_cases hlt : j < L.length
    · have j1 : (0 : Int) ≤ (j : Int) := by omega
      have j2 : (j : Int) < (L.length : Nat) := by omega
      go_wp2_with fail
      refine (rd_pick r _ (1 + 1 + (j : Int)) 2 _ hR.out (by omega) (by omega) (by omega)).mono ?_
      rintro e w4 ⟨z, rfl, ⟨z1, z2, z3, -⟩, hR4, hO4⟩
      have z4 : z < 2 := z3 (by omega)
      have hown4 := Lib.hid (hown.out.only hO4 hrl3)
      have hO5 := Lib.hid (hO.out.trans hO4)
      have hA5 := hA3.out.only hO5.out (show r < w2.heap.size from hrl2) (Nat.le_refl _)
      obtain ⟨ra, rc, he, hcells⟩ := hA5.row
      cases he
      obtain ⟨b1, o1, rfl, t1, cc⟩ := hcells (by omega)
      have e1 := cc j hlt
      obtain ⟨y, hy⟩ : ∃ y, L.getD j 0 = y := ⟨_, rfl⟩
      rw [hy] at e1
      have ep : 1 + 1 + (j : Int) + 1 = 1 + 1 + ((j + 1 : Nat) : Int) := by omega
      rw [ep] at hR4
      replace hR4 := Lib.hid hR4
      replace ep := Lib.hid ep
      replace hy := Lib.hid hy
      have hlt4 := hO5.out.size
      have hlen9 : acc.length ≤ 1073741824 := by omega
      have hrl4 : r < w4.heap.size := by omega
      clear hO4 cc hcells z3 hA5
      rcases (by omega : z = 0 ∨ z = 1) with rfl | rfl
      · have hB9 : w3.heap.size ≤ (w4.alloc (.cells #[.int .i64 y] 3)).heap.size := by rw [World.size_alloc]; omega
        go_wp2_with (at_builtin; refine app_int rfl _ _ rfl w3.heap.size _ acc rfl (hown4.out.alloc _) y w4.heap.size rfl (cell_new _ _ _) hlen9 hB9 ?_; intro v' w5 hown5 hb5)
        go_roundw
        case rel => exact ⟨j + 1, acc ++ [y], by omega, by go_num, by rw [List.length_append, List.length_singleton]; omega, Lib.hid hown5, Lib.hid ((hR4.out.alloc _).below hb5 hrl3), Lib.hid ((hO5.out.alloc _).then hb5 (Nat.le_refl _))⟩
        case measure => simp [intOf]; omega
      · go_wp2_with fail
        go_roundw
        case rel => exact ⟨j + 1, acc, by omega, by go_num, by omega, hown4, hR4, hO5⟩
        case measure => simp [intOf]; omega
    · have hfin := Lib.hid (hO.out.below hb23.out hrw hb23.out.size)
      go_wp2_with fail
      go_ret2
      exact ⟨_, _, acc, rfl, by omega, hown.out.own.mono (by omega) (Nat.le_refl _), hfin.out⟩
theorem draw_ShadowOf (v : Value) (a : Option Addr) (len cap : Nat) (w : World) (hv : v = .slice a len cap) (hc : len ≤ cap) (hcap : cap ≤ 9223372036854775807) (hB : Bytes w w.heap.size a len) :
    Calls Try.prog 27 #[v] w (GivenDraw w) := by
  have h0 := Lib.hid (draw_given v a len cap w hv hc hcap hB)
  have h1 := Lib.hid (draw_even v a len cap w hv hc hcap hB)
  subst hv
  clear hB
  have hl0 : (0 : Int) ≤ (len : Nat) := by omega
  have hl1 : (len : Int) ≤ 9223372036854775807 := by omega
  by_cases hpar : (len : Int) % 2 = 0
  · have hp2 : ((len : Int) % 2 == 0) = true := by simp [hpar]
    have hp3 : (len : Int).tmod 2 = 0 := by rw [Int.tmod_eq_emod_of_nonneg hl0]; exact hpar
    go_enter Try.func27, Try.ntmps27
    go_wp2_with fail
    refine (h1.out).mono ?_
    rintro e w1 ⟨n, u, xs, rfl, hl, hO, hb⟩
    obtain ⟨fa, fc, rfl, _⟩ := id hO
    replace hO := Lib.hid hO
    replace hb := Lib.hid hb
    go_wp2_with fail
    go_ret2
    exact ⟨_, _, xs, rfl, hl, hO.out, hb.out⟩
  · have hp2 : ((len : Int) % 2 == 0) = false := by simp [hpar]
    have hp3 : ¬ (len : Int).tmod 2 = 0 := by rw [Int.tmod_eq_emod_of_nonneg hl0]; exact hpar
    have hp4 : ((len : Int).tmod 2 == 0) = false := by simp [hp3]
    go_enter Try.func27, Try.ntmps27
    go_wp2_with fail
    refine (h0.out).mono ?_
    rintro e w1 ⟨n, u, xs, rfl, hl, hO, hb⟩
    obtain ⟨fa, fc, rfl, _⟩ := id hO
    replace hO := Lib.hid hO
    replace hb := Lib.hid hb
    go_wp2_with fail
    go_ret2
    exact ⟨_, _, xs, rfl, hl, hO.out, hb.out⟩
theorem draw_ShadowEven (v : Value) (a : Option Addr) (len cap : Nat) (w : World) (hv : v = .slice a len cap) (hc : len ≤ cap) (hcap : cap ≤ 9223372036854775807) (hB : Bytes w w.heap.size a len) :
    Calls Try.prog 8 #[v] w (GivenDraw w) := by
  have h0 := Lib.hid (draw_ShadowOf v a len cap w hv hc hcap hB)
  clear hv hc hcap hB
  go_enter Try.func8, Try.ntmps8
  go_wp2_with fail
  refine (h0.out).mono ?_
  rintro e w1 ⟨n, u, xs, rfl, hl, hO, hb⟩
  obtain ⟨fa, fc, rfl, _⟩ := id hO
  replace hO := Lib.hid hO
  replace hb := Lib.hid hb
  go_wp2_with fail
  go_ret2
  exact ⟨_, _, xs, rfl, hl, hO.out, hb.out⟩
theorem cnt_oth_dec : ∀ n : Fin 9, ∀ s : Fin 256, s.val < 2 ^ n.val → cntI (otherI n.val s.val) = n.val - cntI s.val := by decide +kernel
theorem cnt_oth {n s : Int} (h : setB n s = true) : cntI (otherI n s) = n - cntI s := by
  obtain ⟨n1, n2, h1, h2⟩ := setB_yes h
  have p := pow_le256 n1 n2
  have e1 : ((n.toNat : Nat) : Int) = n := Int.toNat_of_nonneg (by omega)
  have e2 : ((s.toNat : Nat) : Int) = s := Int.toNat_of_nonneg h1
  have h := cnt_oth_dec ⟨n.toNat, by omega⟩ ⟨s.toNat, by omega⟩ (by
    have : ((s.toNat : Nat) : Int) < ((2 ^ n.toNat : Nat) : Int) := by rw [e2]; simpa using h2
    exact Int.ofNat_lt.1 this)
  simpa only [e1, e2] using h
set_option maxRecDepth 100000 in
theorem part_cnt_dec : ∀ x y : Fin 256, partB (x.val : Nat) (y.val : Nat) = true → cntI (x.val : Nat) = cntI (y.val : Nat) → x.val = y.val := by decide +kernel
theorem part_cnt {x y : Int} (h1 : 0 ≤ x) (h2 : x < 256) (h3 : 0 ≤ y) (h4 : y < 256) (hp : partB x y = true) (hc : cntI x = cntI y) : x = y := by
  have e1 : ((x.toNat : Nat) : Int) = x := Int.toNat_of_nonneg h1
  have e2 : ((y.toNat : Nat) : Int) = y := Int.toNat_of_nonneg h3
  have h := part_cnt_dec ⟨x.toNat, by omega⟩ ⟨y.toNat, by omega⟩
  simp only [e1, e2] at h
  have := h hp hc
  omega
theorem ev_all {n : Int} {xs : List Int} (h : evB n xs = true) : famB n xs = true ∧ 0 < xs.length ∧ ∀ x ∈ xs, cntI x = cntI (xs.getD 0 0) := by
  unfold evB evN at h
  simp only [Bool.and_eq_true, decide_eq_true_eq, Bool.not_eq_true', List.any_eq_false, bne_iff_ne, ne_eq, Decidable.not_not] at h
  exact ⟨h.1, h.2.1, h.2.2⟩
theorem ev_mk {n c : Int} {xs : List Int} (hf : famB n xs = true) (hl : 0 < xs.length) (hc : ∀ x ∈ xs, cntI x = c) : evB n xs = true := by
  unfold evB evN
  simp only [Bool.and_eq_true, decide_eq_true_eq, Bool.not_eq_true', List.any_eq_false, bne_iff_ne, ne_eq, Decidable.not_not]
  exact ⟨hf, hl, fun x hx => by rw [hc x hx, hc _ (getD_mem hl)]⟩
theorem ev_anti {n : Int} {xs : List Int} (h : evB n xs = true) : antiB xs = true := by
  obtain ⟨hf, _, hc⟩ := ev_all h
  have hz := famB_lt hf
  unfold antiB
  rw [Bool.not_eq_true', List.any_eq_false]
  intro x hx
  rw [Bool.not_eq_true, List.any_eq_false]
  intro y hy hp
  have hp : partO x y = true := hp
  unfold partO at hp
  obtain ⟨hne, hp⟩ := Bool.and_eq_true_iff.1 hp
  exact bne_iff_ne.1 hne (part_cnt (hz x hx).1 (hz x hx).2 (hz y hy).1 (hz y hy).2 hp (by rw [hc x hx, hc y hy]))
theorem ev_oth {n : Int} {xs : List Int} (h : evB n xs = true) : evB n (sortL (xs.map (otherI n))) = true := by
  obtain ⟨hf, hl, hc⟩ := ev_all h
  obtain ⟨_, _, hs⟩ := famB_all hf
  refine ev_mk (c := n - cntI (xs.getD 0 0)) (fam_other hf) ?_ ?_
  · have hm := (mem_oth (n := n) (xs := xs) (z := otherI n (xs.getD 0 0))).2 ⟨_, getD_mem hl, rfl⟩
    exact List.length_pos_of_mem hm
  · intro z hz
    obtain ⟨x, hx, rfl⟩ := mem_oth.1 hz
    rw [cnt_oth (hs x hx), hc x hx]
set_option maxRecDepth 100000 in
set_option maxHeartbeats 4000000 in
theorem law_FnEven (v : Value) (a : Option Addr) (len cap : Nat) (w : World) (hv : v = .slice a len cap) (hc : len ≤ cap) (hcap : cap ≤ 9223372036854775807) (hB : Bytes w w.heap.size a len) :
    Calls Try.prog 3 #[v] w fun e w' => e = .returned (.bool true) ∧ Below w.heap.size w w' := by
  have h0 := Lib.hid (draw_ShadowEven v a len cap w hv hc hcap hB)
  subst hv
  clear hB
  by_cases hbig : 1048576 < len
  · go_enter Try.func3, Try.ntmps3
    go_wp2_with fail
    go_ret
    exact ⟨rfl, Below.refl _ _⟩
  · go_enter Try.func3, Try.ntmps3
    go_wp2_with fail
    refine (h0.out).mono ?_
    rintro e w1 ⟨n, u, xs, rfl, hl, hO, hb⟩
    obtain ⟨ua, uc, rfl, _⟩ := id hO
    have z1 := hb.size
    have RX1 := Lib.hid hO.row
    have hi := Lib.hid (im_ShadowEven n _ xs _ w1 hO.row (Nat.le_refl _) (by omega))
    have hs := Lib.hid (fun (W : World) (hW : Below w1.heap.size w1 W) => sp_ShadowEven n _ xs w1.heap.size W (hO.row.below hW (Nat.le_refl _)) hW.size (by omega))
    have ho := Lib.hid (fun (W : World) (hW : Below w1.heap.size w1 W) => im_FamilyOther n _ xs w1.heap.size W (hO.row.below hW (Nat.le_refl _)) hW.size (by omega))
    have ha := Lib.hid (fun (W : World) (hW : Below w1.heap.size w1 W) => im_AntichainIn n _ xs w1.heap.size W (hO.row.below hW (Nat.le_refl _)) hW.size (by omega))
    replace hb := Lib.hid hb
    clear hO
    rcases (by cases evB n xs <;> simp : evB n xs = true ∨ evB n xs = false) with hev | hev
    · obtain ⟨fx, hl0, -⟩ := ev_all hev
      have hi := hi.out
      have hs := hs.out
      have ho := ho.out
      have ha := ha.out
      have g1 := ev_anti hev
      have g2 := ev_oth hev
      have fO := fam_other fx
      have lO := famB_len fO
      obtain ⟨O, hOe⟩ : ∃ O, sortL (xs.map (otherI n)) = O := ⟨_, rfl⟩
      rw [hOe] at g2 fO lO
      rw [hev] at hi
      simp only [hev, fx, hOe, g1, Bool.and_true] at hs ho ha
      have he2 := Lib.hid (fun (v : Value) (W : World) (h1 : Row W W.heap.size v O) => by have h := im_ShadowEven n v O W.heap.size W h1 (Nat.le_refl _) (by omega); rw [g2] at h; exact h)
      replace hi := Lib.hid hi
      replace hs := Lib.hid hs
      replace ho := Lib.hid (show ∀ (W : World), Below w1.heap.size w1 W → Calls Try.prog 11 #[.int .i64 n, .slice ua xs.length uc] W (ListPost O true W) from ho)
      replace ha := Lib.hid ha
      replace hOe := Lib.hid hOe
      replace hev := Lib.hid hev
      replace g1 := Lib.hid g1
      replace g2 := Lib.hid g2
      replace fx := Lib.hid fx
      replace fO := Lib.hid fO
      go_wp2_with fail
      refine hi.out.mono ?_
      rintro e w2 ⟨rfl, hb2⟩
      replace hb2 := Lib.hid hb2
      go_wp2_with fail
      refine (hs.out _ hb2.out).mono ?_
      rintro e w3 ⟨rfl, hb3⟩
      replace hb3 := Lib.hid (hb2.out.trans (hb3.mono hb2.out.size))
      go_wp2_with fail
      refine (ho.out _ hb3.out).mono ?_
      rintro e w4 ⟨v4, rfl, hO4, hb4⟩
      obtain ⟨c4, d4, rfl, _⟩ := id hO4
      have hk4 := Lib.hid (he2.out _ w4 hO4.row)
      replace hb4 := Lib.hid (hb3.out.trans (hb4.mono hb3.out.size))
      go_wp2_with fail
      refine hk4.out.mono ?_
      rintro e w5 ⟨rfl, hb5⟩
      replace hb5 := Lib.hid (hb4.out.trans (hb5.mono hb4.out.size))
      go_wp2_with fail
      refine (ha.out _ hb5.out).mono ?_
      rintro e w6 ⟨rfl, hb6⟩
      replace hb6 := Lib.hid (hb.out.trans ((hb5.out.trans (hb6.mono hb5.out.size)).mono z1))
      go_wp2_with fail
      go_ret
      exact ⟨rfl, hb6.out⟩
    · have hi := hi.out
      have hs := hs.out
      rw [hev] at hi
      simp only [hev] at hs
      replace hi := Lib.hid hi
      replace hs := Lib.hid hs
      replace hev := Lib.hid hev
      go_wp2_with fail
      refine hi.out.mono ?_
      rintro e w2 ⟨rfl, hb2⟩
      replace hb2 := Lib.hid hb2
      go_wp2_with fail
      refine (hs.out _ hb2.out).mono ?_
      rintro e w3 ⟨rfl, hb3⟩
      replace hb3 := Lib.hid (hb.out.trans ((hb2.out.trans (hb3.mono hb2.out.size)).mono z1))
      go_wp2_with fail
      go_ret
      exact ⟨rfl, hb3.out⟩
end Go.Proofs.Ytielgfjecjoloaa
