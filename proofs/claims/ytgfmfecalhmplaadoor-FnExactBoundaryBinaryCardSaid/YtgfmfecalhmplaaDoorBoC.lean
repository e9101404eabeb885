/- The first sets in binary order: the program. -/
import Derived.Test.YtgfmfecalhmplaaDoorBoB
namespace Go.Proofs.YtgfmfecalhmplaaDoor
open Go.ChangeShapes Go.WideShapes Go.ChangeAt Go.RowKit Go.Proofs

theorem up_take {M N : Nat} (h : M ≤ N) : (upI N).take M = upI M := by
  unfold upI
  rw [← List.map_take, List.take_range, Nat.min_eq_left h]
set_option maxRecDepth 100000 in
set_option maxHeartbeats 2000000 in
theorem first_in_bin (n m : Int) (w : World) : Calls Tryd.prog 48 #[binO n, .int .i64 m] w (ListPost (ifL (fiB n m) (upI m.toNat)) (fiB n m) w) := by
  have hpt := fun W => pts_bin n W
  have hpp := fun W => pts_in n W
  have hmt := mth_bin n
  replace hpt := Lib.hid hpt
  rcases (by cases ptsB n <;> simp : ptsB n = true ∨ ptsB n = false) with hp | hp
  · obtain ⟨n1, n2⟩ := ptsB_yes hp
    rw [hp] at hpp
    replace hpp := Lib.hid hpp
    obtain ⟨p1, p2, p3⟩ := pow_nat n1 n2
    obtain ⟨N, hN⟩ : ∃ N : Nat, 2 ^ n.toNat = N := ⟨_, rfl⟩
    have hNi : (2 : Int) ^ n.toNat = (N : Nat) := by rw [← hN]; simp
    have hn0 : (0 : Int) ≤ n := by omega
    have hn64 : n < 64 := by omega
    rw [hN] at p1 p2 p3
    by_cases hm : 0 ≤ m ∧ m ≤ (N : Int)
    · have hb : fiB n m = true := by unfold fiB; rw [hp, hNi]; exact decide_eq_true hm
      rw [hb]
      show Calls Tryd.prog 48 #[binO n, .int .i64 m] w (ListPost (upI m.toNat) true w)
      obtain ⟨m1, m2⟩ := hm
      obtain ⟨M, rfl⟩ : ∃ M : Nat, m = (M : Nat) := ⟨m.toNat, by omega⟩
      have hin := in_bin n n1 n2 w
      have hz : ∀ z ∈ upI N, 0 ≤ z ∧ z < 256 := fun z h => by have := mem_upI.1 h; omega
      have hol : (upI N).length = N := upI_len N
      have htk : sortL ((upI N).take M) = upI M := by rw [up_take (by omega), up_sort]
      rw [hN] at hin
      rw [show ((M : Nat) : Int).toNat = M from Int.toNat_natCast M, ← htk]
      obtain ⟨ys, hys⟩ : ∃ ys, upI N = ys := ⟨_, rfl⟩
      rw [hys] at hin hz hol ⊢
      replace htk := Lib.hid htk
      have hzt : ∀ z ∈ ys.take M, 0 ≤ z ∧ z < 256 := fun z h => hz z (List.mem_of_mem_take h)
      obtain ⟨hsl, hsz⟩ := sort_bd hzt
      have hfl := fld0b
      have hMl : M ≤ ys.length := by omega
      have hyl : ys.length ≤ 256 := by omega
      obtain ⟨ts, hts⟩ : ∃ ts, ys.take M = ts := ⟨_, rfl⟩
      have htl : ts.length ≤ 256 := by rw [← hts, List.length_take]; omega
      rw [hts] at hzt hsl hsz ⊢
      replace hts := Lib.hid hts
      replace hin := Lib.hid hin
      replace hsz := Lib.hid hsz
      replace hzt := Lib.hid hzt
      replace hz := Lib.hid hz
      replace hys := Lib.hid hys
      replace hb := Lib.hid hb
      replace hp := Lib.hid hp
      replace hN := Lib.hid hN
      replace hNi := Lib.hid hNi
      replace hol := Lib.hid hol
      go_enter Tryd.func48, Tryd.ntmps48
      go_wp2_with (first | (go_at_call 143; refine (hpt.out _).mono ?_; rintro e w' ⟨rfl, rfl⟩) | (go_at_call 32; refine (hpp.out _).mono ?_; rintro e w' ⟨rfl, rfl⟩))
      refine hin.out.mono ?_
      rintro e w1 ⟨v1, rfl, hS1, hb1⟩
      obtain ⟨a1, c1, rfl⟩ := hS1.form
      have hz1 := hb1.size
      have hfs := first_any _ ys M _ w1 hS1.row (Nat.le_refl _) (by omega) hMl
      rw [hts.out] at hfs
      replace hfs := Lib.hid hfs
      replace hb1 := Lib.hid hb1
      clear hS1 hin
      go_wp2_with fail
      refine hfs.out.mono ?_
      rintro e w2 ⟨v2, rfl, hS2, hb2⟩
      have hz2 := hb2.size
      have hfo := Lib.hid (family_of _ ts _ w2 hS2 (Nat.le_refl _) (fun k _ => by
        have := (sort_bd (xs := ts.take k) (fun z h => hzt.out z (List.mem_of_mem_take h))).1
        omega) (by omega))
      obtain ⟨a2, c2, rfl, _⟩ := id hS2
      replace hb2 := Lib.hid (hb1.out.trans (hb2.mono hz1))
      clear hS2 hfs
      go_wp2_with fail
      refine hfo.out.mono ?_
      rintro e w3 ⟨v3, rfl, hS3, hb3⟩
      obtain ⟨a3, c3, rfl⟩ := hS3.form
      have hz3 := hb3.size
      have hnum := Lib.hid (numbers_at _ _ _ w3 hS3.row (Nat.le_refl _) (by omega) hsz.out)
      replace hb3 := Lib.hid (hb2.out.trans (hb3.mono (by omega)))
      clear hS3 hfo
      go_wp2_with fail
      refine hnum.out.mono ?_
      rintro e w4 ⟨t, rfl, hO, hb4⟩
      obtain ⟨ua, uc, rfl, _⟩ := id hO
      replace hb4 := Lib.hid (hb3.out.trans (hb4.mono (by omega)))
      replace hO := Lib.hid (hO.mono (show w.heap.size ≤ w3.heap.size by omega) (Nat.le_refl _))
      go_wp2_with fail
      go_ret2
      exact ⟨_, rfl, hO.out, hb4.out⟩
    · have hb : fiB n m = false := by unfold fiB; rw [hp, hNi]; exact decide_eq_false hm
      rw [hb]
      replace hb := Lib.hid hb
      replace hp := Lib.hid hp
      replace hN := Lib.hid hN
      replace hNi := Lib.hid hNi
      by_cases h0 : m < 0
      · clear hm
        go_enter Tryd.func48, Tryd.ntmps48
        go_wp2_with (first | (go_at_call 143; refine (hpt.out _).mono ?_; rintro e w' ⟨rfl, rfl⟩) | (go_at_call 32; refine (hpp.out _).mono ?_; rintro e w' ⟨rfl, rfl⟩))
        go_ret2
        exact ⟨_, rfl, own_empty0 _ _ _ _ _, (Below.refl _ _).alloc (Nat.le_refl _) _⟩
      · have h1 : (N : Int) < m := by omega
        clear hm
        go_enter Tryd.func48, Tryd.ntmps48
        go_wp2_with (first | (go_at_call 143; refine (hpt.out _).mono ?_; rintro e w' ⟨rfl, rfl⟩) | (go_at_call 32; refine (hpp.out _).mono ?_; rintro e w' ⟨rfl, rfl⟩))
        go_ret2
        exact ⟨_, rfl, own_empty0 _ _ _ _ _, (Below.refl _ _).alloc (Nat.le_refl _) _⟩
  · have hb : fiB n m = false := by unfold fiB; rw [hp]; rfl
    rw [hp] at hpp
    rw [hb]
    replace hpp := Lib.hid hpp
    replace hb := Lib.hid hb
    replace hp := Lib.hid hp
    go_enter Tryd.func48, Tryd.ntmps48
    go_wp2_with (first | (go_at_call 143; refine (hpt.out _).mono ?_; rintro e w' ⟨rfl, rfl⟩) | (go_at_call 32; refine (hpp.out _).mono ?_; rintro e w' ⟨rfl, rfl⟩))
    go_ret2
    exact ⟨_, rfl, own_empty0 _ _ _ _ _, (Below.refl _ _).alloc (Nat.le_refl _) _⟩
set_option maxHeartbeats 1000000 in
theorem im_BoundaryBinary (n m : Int) (w : World) : Calls Tryd.prog 29 #[.int .i64 n, .int .i64 m] w (ListPost (ifL (fiB n m) (upI m.toNat)) (fiB n m) w) := by
  have hf := Lib.hid (first_in_bin n m w)
  go_enter Tryd.func29, Tryd.ntmps29
  go_wp2_with fail
  refine hf.out.mono ?_
  rintro e w1 ⟨v, rfl, hO, hb⟩
  obtain ⟨ua, uc, rfl, _⟩ := id hO
  replace hO := Lib.hid hO
  replace hb := Lib.hid hb
  go_wp2_with fail
  go_ret2
  exact ⟨_, rfl, hO.out, hb.out⟩
set_option maxHeartbeats 1000000 in
theorem im_BoundaryFirst (n m : Int) (w : World) (hT : Tab w) : Calls Tryd.prog 27 #[.int .i64 n, .int .i64 m] w (ListPost (ifL (fiB n m) (fiL n m)) (fiB n m) w) := by
  have hf := Lib.hid (first_in_ball n m w hT)
  go_enter Tryd.func27, Tryd.ntmps27
  go_wp2_with fail
  refine hf.out.mono ?_
  rintro e w1 ⟨v, rfl, hO, hb⟩
  obtain ⟨ua, uc, rfl, _⟩ := id hO
  replace hO := Lib.hid hO
  replace hb := Lib.hid hb
  go_wp2_with fail
  go_ret2
  exact ⟨_, rfl, hO.out, hb.out⟩
theorem orL_set {n : Int} (n1 : 1 ≤ n) (n2 : n ≤ 8) : ∀ z ∈ orL n, setB n z = true := fun z hz => by
  unfold orL at hz
  rw [up_sort] at hz
  obtain ⟨k, hk, rfl⟩ := List.mem_map.1 hz
  obtain ⟨p1, p2, p3⟩ := pow_nat n1 n2
  obtain ⟨x, x1, x2, rfl⟩ := ku_mem p1 hk
  rw [(bk_facts x1 (by omega)).2.2]
  have e : ((2 ^ n.toNat : Nat) : Int) = 2 ^ n.toNat := by simp
  exact setB_mk ⟨n1, n2, x1, by omega⟩
set_option maxRecDepth 100000 in
set_option maxHeartbeats 1000000 in
theorem sp_BoundaryFirst (n m : Int) (w : World) : Calls Tryd.prog 26 #[.int .i64 n, .int .i64 m] w (ListPost (ifL (fiB n m) (fiL n m)) (fiB n m) w) := by
  have hpp := fun W => l1pts n W
  rcases (by cases ptsB n <;> simp : ptsB n = true ∨ ptsB n = false) with hp | hp
  · obtain ⟨n1, n2⟩ := ptsB_yes hp
    obtain ⟨p1, p2, p3⟩ := pow_nat n1 n2
    have hol := orL_len n1 n2
    have ho := Lib.hid (sp_order n n1 n2 w)
    obtain ⟨N, hN⟩ : ∃ N : Nat, 2 ^ n.toNat = N := ⟨_, rfl⟩
    have hNi : (2 : Int) ^ n.toNat = (N : Nat) := by rw [← hN]; simp
    have hn0 : (0 : Int) ≤ n := by omega
    have hn64 : n < 64 := by omega
    rw [hN] at p1 p2 p3 hol
    have hin := l6in m 0 (N : Nat)
    rw [hp] at hpp
    replace hpp := Lib.hid hpp
    rcases (by cases inB m 0 (N : Nat) <;> simp : inB m 0 (N : Nat) = true ∨ inB m 0 (N : Nat) = false) with hk | hk
    · have hb : fiB n m = true := by unfold fiB; rw [hp, hNi]; exact hk
      obtain ⟨m1, m2⟩ := of_decide_eq_true hk
      rw [hk] at hin
      rw [hb]
      show Calls Tryd.prog 26 #[.int .i64 n, .int .i64 m] w (ListPost (fiL n m) true w)
      obtain ⟨M, rfl⟩ : ∃ M : Nat, m = (M : Nat) := ⟨m.toNat, by omega⟩
      have hfl : fiL n (M : Nat) = sortL ((orL n).take M) := rfl
      have hsetT : allB n ((orL n).take M) = true := List.all_eq_true.2 fun z hz => orL_set n1 n2 z (List.mem_of_mem_take hz)
      rw [hfl]
      obtain ⟨ys, hys⟩ : ∃ ys, orL n = ys := ⟨_, rfl⟩
      rw [hys] at ho hol hsetT ⊢
      have hMl : M ≤ ys.length := by omega
      have m3 : ((M : Nat) : Int) ≤ (N : Nat) := m2
      replace hfl := Lib.hid hfl
      replace hsetT := Lib.hid hsetT
      replace hys := Lib.hid hys
      replace hin := Lib.hid hin
      replace hb := Lib.hid hb
      replace hp := Lib.hid hp
      replace hk := Lib.hid hk
      replace hN := Lib.hid hN
      replace hNi := Lib.hid hNi
      go_enter Tryd.func26, Tryd.ntmps26
      go_wp2_with (first | (go_at_call 35; refine (hpp.out _).mono ?_; rintro e w' ⟨rfl, rfl⟩) | (go_at_call 46; refine (hin.out _).mono ?_; rintro e w' ⟨rfl, rfl⟩))
      refine ho.out.mono ?_
      rintro e w1 ⟨v, rfl, hO, hb1, ⟨g, c, rfl, q1, q2⟩⟩
      have hz1 := hb1.size
      rw [hol] at q1 hO ⊢
      obtain ⟨g2, c2, hv, q3, q4, q5, q6, q7⟩ := own_some hO (by omega)
      rw [hol] at hv
      injection hv with hv1 hv2 hv3
      injection hv1 with hv1
      injection hv1 with hv1
      subst hv1 hv3
      have hrow := row_take_i (w := w1) (S := w1.heap.size) (c := c) (k := M) (ys := ys) hMl q6 q7
      have hfa := family_at n _ _ _ w1 hrow (Nat.le_refl _) (by rw [List.length_take]; omega) n1 n2 hsetT.out
      rw [show (ys.take M).length = M by rw [List.length_take]; omega] at hfa
      have hk1 : ((M : Nat) : Int) ≤ (c : Nat) := by omega
      have hk0 : (0 : Int) ≤ ((M : Nat) : Int) := by omega
      replace hfa := Lib.hid hfa
      replace hb1 := Lib.hid hb1
      replace hol := Lib.hid hol
      clear hO hrow ho q7
      go_wp2_with fail
      refine hfa.out.mono ?_
      rintro e w2 ⟨v2, rfl, hO2, hb2⟩
      obtain ⟨a2, c2, rfl⟩ := hO2.form
      replace hO2 := Lib.hid (hO2.own.mono hz1 (Nat.le_refl _))
      replace hb2 := Lib.hid (hb1.out.trans (hb2.mono hz1))
      go_wp2_with fail
      go_ret2
      exact ⟨_, rfl, hO2.out, hb2.out⟩
    · have hb : fiB n m = false := by unfold fiB; rw [hp, hNi]; exact hk
      rw [hk] at hin
      rw [hb]
      replace hin := Lib.hid hin
      replace hb := Lib.hid hb
      replace hp := Lib.hid hp
      replace hk := Lib.hid hk
      replace hN := Lib.hid hN
      replace hNi := Lib.hid hNi
      replace hol := Lib.hid hol
      go_enter Tryd.func26, Tryd.ntmps26
      go_wp2_with (first | (go_at_call 35; refine (hpp.out _).mono ?_; rintro e w' ⟨rfl, rfl⟩) | (go_at_call 46; refine (hin.out _).mono ?_; rintro e w' ⟨rfl, rfl⟩))
      go_ret2
      exact ⟨_, rfl, own_empty0 _ _ _ _ _, (Below.refl _ _).alloc (Nat.le_refl _) _⟩
  · have hb : fiB n m = false := by unfold fiB; rw [hp]; rfl
    rw [hp] at hpp
    rw [hb]
    replace hpp := Lib.hid hpp
    replace hb := Lib.hid hb
    replace hp := Lib.hid hp
    go_enter Tryd.func26, Tryd.ntmps26
    go_wp2_with (go_at_call 35; refine (hpp.out _).mono ?_; rintro e w' ⟨rfl, rfl⟩)
    go_ret2
    exact ⟨_, rfl, own_empty0 _ _ _ _ _, (Below.refl _ _).alloc (Nat.le_refl _) _⟩
set_option maxRecDepth 100000 in
set_option maxHeartbeats 1000000 in
theorem sp_BoundaryBinary (n m : Int) (w : World) : Calls Tryd.prog 28 #[.int .i64 n, .int .i64 m] w (ListPost (ifL (fiB n m) (upI m.toNat)) (fiB n m) w) := by
  have hpp := fun W => l1pts n W
  rcases (by cases ptsB n <;> simp : ptsB n = true ∨ ptsB n = false) with hp | hp
  · obtain ⟨n1, n2⟩ := ptsB_yes hp
    obtain ⟨p1, p2, p3⟩ := pow_nat n1 n2
    obtain ⟨N, hN⟩ : ∃ N : Nat, 2 ^ n.toNat = N := ⟨_, rfl⟩
    have hNi : (2 : Int) ^ n.toNat = (N : Nat) := by rw [← hN]; simp
    have hn0 : (0 : Int) ≤ n := by omega
    have hn64 : n < 64 := by omega
    rw [hN] at p1 p2 p3
    have hin := l6in m 0 (N : Nat)
    rw [hp] at hpp
    replace hpp := Lib.hid hpp
    rcases (by cases inB m 0 (N : Nat) <;> simp : inB m 0 (N : Nat) = true ∨ inB m 0 (N : Nat) = false) with hk | hk
    · have hb : fiB n m = true := by unfold fiB; rw [hp, hNi]; exact hk
      obtain ⟨m1, m2⟩ := of_decide_eq_true hk
      rw [hk] at hin
      rw [hb]
      show Calls Tryd.prog 28 #[.int .i64 n, .int .i64 m] w (ListPost (upI m.toNat) true w)
      obtain ⟨M, rfl⟩ : ∃ M : Nat, m = (M : Nat) := ⟨m.toNat, by omega⟩
      rw [show ((M : Nat) : Int).toNat = M from Int.toNat_natCast M]
      have hM : M ≤ 256 := by omega
      replace hin := Lib.hid hin
      replace hb := Lib.hid hb
      replace hp := Lib.hid hp
      replace hk := Lib.hid hk
      replace hN := Lib.hid hN
      replace hNi := Lib.hid hNi
      go_enter Tryd.func28, Tryd.ntmps28
      go_wp2_with (first | (go_at_call 35; refine (hpp.out _).mono ?_; rintro e w' ⟨rfl, rfl⟩) | (go_at_call 46; refine (hin.out _).mono ?_; rintro e w' ⟨rfl, rfl⟩))
      go_loopw [6, 7] (fun v s wr => ∃ k : Nat, k ≤ M ∧ s = .int .i64 k ∧ Hid (OwnL wr w.heap.size v (upI k)) ∧ Hid (Below w.heap.size w wr)) (fun _ s _ => M - (intOf s).toNat)
      case atStart => exact ⟨0, by omega, rfl, Lib.hid (OwnL.lit w (Nat.le_refl _)), Lib.hid ((Below.refl _ _).alloc (Nat.le_refl _) _)⟩
      case round =>
        obtain ⟨k, hk, rfl, hown, hbel⟩ := hrel
        have hsz := hbel.out.size
        by_cases hlt : k < M
        · have k1 : (0 : Int) ≤ (k : Int) := by omega
          have k2 : (k : Int) < (M : Nat) := by omega
          have hlen : (upI k).length ≤ 1073741824 := by rw [upI_len]; omega
          have hs := upI_succ k
          obtain ⟨ys, hys⟩ : ∃ ys, upI k = ys := ⟨_, rfl⟩
          rw [hys] at hown hs hlen
          obtain ⟨a', c', rfl⟩ := hown.out.form
          have hB1 : w.heap.size ≤ (wr.alloc (.cells #[.int .i64 (k : Int)] 3)).heap.size := by rw [World.size_alloc]; omega
          replace hys := Lib.hid hys
          replace hs := Lib.hid hs.symm
          go_wp2_with (at_builtin; refine app_int rfl _ _ rfl w.heap.size _ ys rfl (hown.out.alloc _) (k : Int) wr.heap.size rfl (cell_new _ _ _) hlen hB1 ?_; intro v' w1 hown1 hb1)
          rw [hs.out] at hown1
          replace hown1 := Lib.hid hown1
          have hb2 := Lib.hid ((hbel.out.alloc hsz _).trans hb1)
          go_roundw
          case rel => exact ⟨k + 1, by omega, by go_num, hown1, hb2⟩
          case measure => simp [intOf]; omega
        · obtain rfl : k = M := by omega
          obtain ⟨a', c', rfl⟩ := hown.out.form
          have hown2 := Lib.hid hown.out.own
          clear hown
          go_wp2_with fail
          go_ret2
          exact ⟨_, rfl, hown2.out, hbel.out⟩
    · have hb : fiB n m = false := by unfold fiB; rw [hp, hNi]; exact hk
      rw [hk] at hin
      rw [hb]
      replace hin := Lib.hid hin
      replace hb := Lib.hid hb
      replace hp := Lib.hid hp
      replace hk := Lib.hid hk
      replace hN := Lib.hid hN
      replace hNi := Lib.hid hNi
      go_enter Tryd.func28, Tryd.ntmps28
      go_wp2_with (first | (go_at_call 35; refine (hpp.out _).mono ?_; rintro e w' ⟨rfl, rfl⟩) | (go_at_call 46; refine (hin.out _).mono ?_; rintro e w' ⟨rfl, rfl⟩))
      go_ret2
      exact ⟨_, rfl, own_empty0 _ _ _ _ _, (Below.refl _ _).alloc (Nat.le_refl _) _⟩
  · have hb : fiB n m = false := by unfold fiB; rw [hp]; rfl
    rw [hp] at hpp
    rw [hb]
    replace hpp := Lib.hid hpp
    replace hb := Lib.hid hb
    replace hp := Lib.hid hp
    go_enter Tryd.func28, Tryd.ntmps28
    go_wp2_with (go_at_call 35; refine (hpp.out _).mono ?_; rintro e w' ⟨rfl, rfl⟩)
    go_ret2
    exact ⟨_, rfl, own_empty0 _ _ _ _ _, (Below.refl _ _).alloc (Nat.le_refl _) _⟩
theorem fiB_yes {n m : Int} (h : fiB n m = true) : 1 ≤ n ∧ n ≤ 8 ∧ 0 ≤ m ∧ m ≤ 2 ^ n.toNat := by
  unfold fiB at h
  rw [Bool.and_eq_true] at h
  obtain ⟨a, b⟩ := ptsB_yes h.1
  have := of_decide_eq_true h.2
  exact ⟨a, b, this⟩
theorem law_BoundaryFirst_at (n m : Int) (L : List Int) (b : Bool) (hL : L.length ≤ 1000000) (P0 : World → Prop) (hP : ∀ W W', P0 W → Below W.heap.size W W' → P0 W')
    (hi : ∀ W, P0 W → Calls Tryd.prog 27 #[.int .i64 n, .int .i64 m] W fun e w' => ∃ v, e = .returned (.tuple #[v, .bool b]) ∧ Own w' W.heap.size w'.heap.size v L ∧ Below W.heap.size W w')
    (hs : ∀ W, P0 W → Calls Tryd.prog 26 #[.int .i64 n, .int .i64 m] W fun e w' => ∃ v, e = .returned (.tuple #[v, .bool b]) ∧ Own w' W.heap.size w'.heap.size v L ∧ Below W.heap.size W w')
    (w : World) (h0 : P0 w) : Calls Tryd.prog 8 #[.int .i64 n, .int .i64 m] w fun e w' => e = .returned (.bool true) ∧ Below w.heap.size w w' := by
  have hi := Lib.hid hi
  have hs := Lib.hid hs
  have h0 := Lib.hid h0
  have hP := Lib.hid hP
  have hsame : sameB L L = true := decide_eq_true rfl
  have hbb : (b != b) = false := by simp
  go_enter Tryd.func8, Tryd.ntmps8
  go_wp2_with fail
  refine (hs.out _ h0.out).mono ?_
  rintro e w1 ⟨v0, rfl, hO0, hb1⟩
  obtain ⟨a0, c0, rfl, _⟩ := id hO0
  have hO0 := Lib.hid hO0
  have h1 := Lib.hid (hP.out _ _ h0.out hb1)
  go_wp2_with fail
  refine (hi.out _ h1.out).mono ?_
  rintro e w2 ⟨v1, rfl, hO1, hb2⟩
  obtain ⟨a1, c1, rfl, _⟩ := id hO1
  have hO1 := Lib.hid hO1
  have hR0 := Lib.hid ((hO0.out.row.below hb2 (Nat.le_refl _)).mono hb2.size)
  go_wp2_with fail
  refine (eq_ints _ _ L L _ _ hO1.out.row hR0.out (by omega) (by omega)).mono ?_
  rintro e w' ⟨rfl, n1, rfl⟩
  go_wp2_with fail
  refine (mark_ints _ L 1 _ _ _ (hO1.out.drewN n1) (by omega) (by omega) (by omega)).mono ?_
  rintro e w3 ⟨rfl, hO3, hb3⟩
  have hO3 := Lib.hid hO3
  go_wp2_with fail
  have hlen : (marks 1 L.length).length ≤ 1000000 := by rw [marks_len]; exact hL
  refine (held_ints _ (marks 1 L.length) 1 _ _ (by have := hO3.out.row; exact this) (by omega) (by omega) (by omega)).mono ?_
  rintro e w' ⟨rfl, rfl⟩
  rw [heldV_marks]
  have hq : (0 : Int) ≤ 1 + (L.length : Nat) := by omega
  have hqq : ((1 : Int) + (L.length : Nat) != 1 + (L.length : Nat)) = false := by simp
  have s1 := hb1.size
  have s2 := hb2.size
  have s3 : w2.heap.size ≤ w3.heap.size := hb3.size
  have hb123 := Lib.hid ((hb1.trans (hb2.mono s1)).trans ((below_drewN (Below.refl _ w2) n1).trans (hb3.mono s1)))
  have h3 := Lib.hid (hP.out _ _ h0.out hb123.out)
  go_wp2_with fail
  refine (hi.out _ h3.out).mono ?_
  rintro e w4 ⟨v4, rfl, hO4, hb4⟩
  obtain ⟨a4, c4, rfl, _⟩ := id hO4
  have hO4 := Lib.hid hO4
  have s4 := hb4.size
  have hR4 := Lib.hid ((((hO0.out.row.below hb2 (Nat.le_refl _)).drewN n1).below hb3 (Nat.le_refl _)).below hb4 (by omega))
  have hO5 := Lib.hid (hO3.out.below hb4 s3)
  go_wp2_with fail
  refine (eq_ints _ _ L L w4.heap.size _ hO4.out.row (hR4.out.mono (by omega)) (by omega) (by omega)).mono ?_
  rintro e w' ⟨rfl, n5, rfl⟩
  go_wp2_with fail
  refine (held_ints _ (marks 1 L.length) 1 _ _ ((hO5.out.drewN n5).row) (by omega) (by omega) (by omega)).mono ?_
  rintro e w' ⟨rfl, rfl⟩
  rw [heldV_marks]
  go_wp2_with fail
  go_ret
  exact ⟨rfl, below_drewN (hb123.out.trans (hb4.mono (by omega))) n5⟩
theorem Law_BoundaryFirst (n m : Int) (w : World) (hT : Tab w) : Calls Tryd.prog 8 #[.int .i64 n, .int .i64 m] w fun e w' => e = .returned (.bool true) ∧ Below w.heap.size w w' :=
  law_BoundaryFirst_at n m _ _ (by
    rcases (by cases fiB n m <;> simp : fiB n m = true ∨ fiB n m = false) with hb | hb
    · rw [hb]
      obtain ⟨n1, n2, _⟩ := fiB_yes hb
      have := (sort_bd (xs := (orL n).take m.toNat) (fun z h => setB_lt (orL_set n1 n2 z (List.mem_of_mem_take h)))).1
      show (fiL n m).length ≤ 1000000
      unfold fiL; omega
    · rw [hb]; simp [ifL]) Tab (fun W W' h hb => h.below hb h.lt) (fun W h => im_BoundaryFirst n m W h) (fun W _ => sp_BoundaryFirst n m W) w hT
theorem law_BoundaryBinary_at (n m : Int) (L : List Int) (b : Bool) (hL : L.length ≤ 1000000) (P0 : World → Prop) (hP : ∀ W W', P0 W → Below W.heap.size W W' → P0 W')
    (hi : ∀ W, P0 W → Calls Tryd.prog 29 #[.int .i64 n, .int .i64 m] W fun e w' => ∃ v, e = .returned (.tuple #[v, .bool b]) ∧ Own w' W.heap.size w'.heap.size v L ∧ Below W.heap.size W w')
    (hs : ∀ W, P0 W → Calls Tryd.prog 28 #[.int .i64 n, .int .i64 m] W fun e w' => ∃ v, e = .returned (.tuple #[v, .bool b]) ∧ Own w' W.heap.size w'.heap.size v L ∧ Below W.heap.size W w')
    (w : World) (h0 : P0 w) : Calls Tryd.prog 9 #[.int .i64 n, .int .i64 m] w fun e w' => e = .returned (.bool true) ∧ Below w.heap.size w w' := by
  have hi := Lib.hid hi
  have hs := Lib.hid hs
  have h0 := Lib.hid h0
  have hP := Lib.hid hP
  have hsame : sameB L L = true := decide_eq_true rfl
  have hbb : (b != b) = false := by simp
  go_enter Tryd.func9, Tryd.ntmps9
  go_wp2_with fail
  refine (hs.out _ h0.out).mono ?_
  rintro e w1 ⟨v0, rfl, hO0, hb1⟩
  obtain ⟨a0, c0, rfl, _⟩ := id hO0
  have hO0 := Lib.hid hO0
  have h1 := Lib.hid (hP.out _ _ h0.out hb1)
  go_wp2_with fail
  refine (hi.out _ h1.out).mono ?_
  rintro e w2 ⟨v1, rfl, hO1, hb2⟩
  obtain ⟨a1, c1, rfl, _⟩ := id hO1
  have hO1 := Lib.hid hO1
  have hR0 := Lib.hid ((hO0.out.row.below hb2 (Nat.le_refl _)).mono hb2.size)
  go_wp2_with fail
  refine (eq_ints _ _ L L _ _ hO1.out.row hR0.out (by omega) (by omega)).mono ?_
  rintro e w' ⟨rfl, n1, rfl⟩
  go_wp2_with fail
  refine (mark_ints _ L 1 _ _ _ (hO1.out.drewN n1) (by omega) (by omega) (by omega)).mono ?_
  rintro e w3 ⟨rfl, hO3, hb3⟩
  have hO3 := Lib.hid hO3
  go_wp2_with fail
  have hlen : (marks 1 L.length).length ≤ 1000000 := by rw [marks_len]; exact hL
  refine (held_ints _ (marks 1 L.length) 1 _ _ (by have := hO3.out.row; exact this) (by omega) (by omega) (by omega)).mono ?_
  rintro e w' ⟨rfl, rfl⟩
  rw [heldV_marks]
  have hq : (0 : Int) ≤ 1 + (L.length : Nat) := by omega
  have hqq : ((1 : Int) + (L.length : Nat) != 1 + (L.length : Nat)) = false := by simp
  have s1 := hb1.size
  have s2 := hb2.size
  have s3 : w2.heap.size ≤ w3.heap.size := hb3.size
  have hb123 := Lib.hid ((hb1.trans (hb2.mono s1)).trans ((below_drewN (Below.refl _ w2) n1).trans (hb3.mono s1)))
  have h3 := Lib.hid (hP.out _ _ h0.out hb123.out)
  go_wp2_with fail
  refine (hi.out _ h3.out).mono ?_
  rintro e w4 ⟨v4, rfl, hO4, hb4⟩
  obtain ⟨a4, c4, rfl, _⟩ := id hO4
  have hO4 := Lib.hid hO4
  have s4 := hb4.size
  have hR4 := Lib.hid ((((hO0.out.row.below hb2 (Nat.le_refl _)).drewN n1).below hb3 (Nat.le_refl _)).below hb4 (by omega))
  have hO5 := Lib.hid (hO3.out.below hb4 s3)
  go_wp2_with fail
  refine (eq_ints _ _ L L w4.heap.size _ hO4.out.row (hR4.out.mono (by omega)) (by omega) (by omega)).mono ?_
  rintro e w' ⟨rfl, n5, rfl⟩
  go_wp2_with fail
  refine (held_ints _ (marks 1 L.length) 1 _ _ ((hO5.out.drewN n5).row) (by omega) (by omega) (by omega)).mono ?_
  rintro e w' ⟨rfl, rfl⟩
  rw [heldV_marks]
  go_wp2_with fail
  go_ret
  exact ⟨rfl, below_drewN (hb123.out.trans (hb4.mono (by omega))) n5⟩
theorem Law_BoundaryBinary (n m : Int) (w : World) : Calls Tryd.prog 9 #[.int .i64 n, .int .i64 m] w fun e w' => e = .returned (.bool true) ∧ Below w.heap.size w w' :=
  law_BoundaryBinary_at n m _ _ (by
    rcases (by cases fiB n m <;> simp : fiB n m = true ∨ fiB n m = false) with hb | hb
    · rw [hb]
      obtain ⟨n1, n2, m1, m2⟩ := fiB_yes hb
      have := (pow_le256 n1 n2).1
      show (upI m.toNat).length ≤ 1000000
      rw [upI_len]; omega
    · rw [hb]; simp [ifL]) (fun _ => True) (fun _ _ _ _ => trivial) (fun W _ => im_BoundaryBinary n m W) (fun W _ => sp_BoundaryBinary n m W) w trivial
end Go.Proofs.YtgfmfecalhmplaaDoor
