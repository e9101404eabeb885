/- The model: levels, traces, links, sets without a point. -/
import Derived.Test.YtapijjfhdhkakaaSpec6
import Derived.Test.YtapijjfhdhkakaaFams13
namespace Go.Proofs.Ytapijjfhdhkakaa
open Go.ChangeShapes Go.WideShapes Go.ChangeAt Go.RowKit Go.Proofs

set_option maxHeartbeats 2000000 in
theorem level_at (n kk : Int) (w : World) (n1 : 1 ≤ n) (n2 : n ≤ 8) :
    Calls Try.prog 73 #[.int .i64 n, .int .i64 kk] w (IntsPost (mkL (fun j => cntI (j : Nat) == kk) (2 ^ n.toNat)) w) := by
  obtain ⟨p1, p2, p3⟩ := pow_nat n1 n2
  obtain ⟨N, hN⟩ : ∃ N : Nat, 2 ^ n.toNat = N := ⟨_, rfl⟩
  have hNi : (2 : Int) ^ n.toNat = (N : Nat) := by rw [← hN]; simp
  have hn0 : (0 : Int) ≤ n := by omega
  have hn64 : n < 64 := by omega
  rw [hN] at p1 p2 p3 ⊢
  obtain ⟨P, hP⟩ : ∃ P : Nat → Bool, (fun j : Nat => cntI (j : Nat) == kk) = P := ⟨_, rfl⟩
  have hPk : ∀ k : Nat, (cntI (k : Nat) == kk) = P k := fun k => by rw [← hP]
  rw [hP]
  replace hP := Lib.hid hP
  replace hPk := Lib.hid hPk
  replace hN := Lib.hid hN
  replace hNi := Lib.hid hNi
  go_enter Try.func73, Try.ntmps73
  go_wp2_with fail
  go_loopw [5, 6] (fun v s wr => ∃ k : Nat, k ≤ N ∧ s = .int .i64 k ∧ Hid (OwnL wr w.heap.size v (mkL P k)) ∧ Hid (Below w.heap.size w wr)) (fun _ s _ => N - (intOf s).toNat)
  case atStart => exact ⟨0, by omega, rfl, Lib.hid (OwnL.lit w (Nat.le_refl _)), Lib.hid ((Below.refl _ _).alloc (Nat.le_refl _) _)⟩
  case round =>
    obtain ⟨k, hk, rfl, hown, hbel⟩ := hrel
    have hsz := hbel.out.size
    by_cases hlt : k < N
    · have k1 : (0 : Int) ≤ (k : Int) := by omega
      have k2 : (k : Int) < (N : Nat) := by omega
      have hsz1 := l1size (k : Int) (by omega) (by omega); have hpk := hPk.out k; obtain ⟨r, hr⟩ : ∃ r, cntI (k : Nat) = r := ⟨_, rfl⟩; rw [hr] at hsz1 hpk; replace hr := Lib.hid hr; replace hsz1 := Lib.hid hsz1
      have hlen : (mkL P k).length ≤ 1073741824 := by have := mkL_len P k; omega
      have hsu := mkL_succ P k
      rcases (by cases P k <;> simp : P k = true ∨ P k = false) with hp | hp
      · have hs : mkL P k ++ [(k : Int)] = mkL P (k + 1) := by rw [hsu, if_pos hp]
        obtain ⟨ys, hys⟩ : ∃ ys, mkL P k = ys := ⟨_, rfl⟩
        rw [hys] at hown hs hlen
        obtain ⟨a', c', rfl⟩ := hown.out.form
        have hB1 : w.heap.size ≤ (wr.alloc (.cells #[.int .i64 (k : Int)] 3)).heap.size := by rw [World.size_alloc]; omega
        clear hsu
        rw [hp] at hpk; replace hp := Lib.hid hp
        replace hys := Lib.hid hys
        replace hs := Lib.hid hs
        go_wp2_with (first | (go_at_call 120; refine (hsz1.out _).mono ?_; rintro e w' ⟨rfl, rfl⟩) | (at_builtin; refine app_int rfl _ _ rfl w.heap.size _ ys rfl (hown.out.alloc _) (k : Int) wr.heap.size rfl (cell_new _ _ _) hlen hB1 ?_; intro v' w1 hown1 hb1))
        rw [hs.out] at hown1
        replace hown1 := Lib.hid hown1
        have hb2 := Lib.hid ((hbel.out.alloc hsz _).trans hb1)
        go_roundw
        case rel => exact ⟨k + 1, by omega, by go_num, hown1, hb2⟩
        case measure => simp [intOf]; omega
      · have hs : mkL P k = mkL P (k + 1) := by rw [hsu, if_neg (by simp [hp]), List.append_nil]
        rw [hs] at hown
        obtain ⟨ys, hys⟩ : ∃ ys, mkL P (k + 1) = ys := ⟨_, rfl⟩
        rw [hys] at hown
        obtain ⟨a', c', rfl⟩ := hown.out.form
        clear hsu hs hlen
        rw [hp] at hpk; replace hp := Lib.hid hp
        replace hys := Lib.hid hys
        go_wp2_with ((go_at_call 120; refine (hsz1.out _).mono ?_; rintro e w' ⟨rfl, rfl⟩))
        go_roundw
        case rel => exact ⟨k + 1, by omega, by go_num, by rw [hys.out]; exact hown, hbel⟩
        case measure => simp [intOf]; omega
    · obtain rfl : k = N := by omega
      obtain ⟨a', c', rfl⟩ := hown.out.form
      have hown2 := Lib.hid hown.out
      clear hown
      go_wp2_with fail
      go_ret
      exact ⟨_, rfl, hown2.out, hbel.out⟩

theorem sz_in (n k : Int) : inB k 0 n = decide (0 ≤ k ∧ k ≤ n) := rfl
set_option maxHeartbeats 1000000 in
theorem sp_FamilyLevel (n k : Int) (w : World) :
    Calls Try.prog 25 #[.int .i64 n, .int .i64 k] w (ListPost (ifL (szB n k) (sortL ((sortL (upI (2 ^ n.toNat))).filter (fun x => cntI x == k)))) (szB n k) w) := by
  have hpp := l1pts n
  have hin := l6in k 0 n
  rw [sz_in] at hin
  rcases (by cases ptsB n <;> simp : ptsB n = true ∨ ptsB n = false) with hp | hp
  · obtain ⟨n1, n2⟩ := ptsB_yes hp
    rw [hp] at hpp
    replace hpp := Lib.hid hpp
    rcases (by cases decide (0 ≤ k ∧ k ≤ n) <;> simp : decide (0 ≤ k ∧ k ≤ n) = true ∨ decide (0 ≤ k ∧ k ≤ n) = false) with hk | hk
    · rw [hk] at hin
      replace hin := Lib.hid hin
      have hb : szB n k = true := by unfold szB; rw [hp, hk]; rfl
      rw [hb]
      have hlv := level_at n k w n1 n2
      rw [level_eq] at hlv
      replace hlv := Lib.hid hlv
      replace hb := Lib.hid hb
      replace hk := Lib.hid hk
      replace hp := Lib.hid hp
      show Calls Try.prog 25 #[.int .i64 n, .int .i64 k] w (ListPost (sortL ((sortL (upI (2 ^ n.toNat))).filter (fun x => cntI x == k))) true w)
      go_enter Try.func25, Try.ntmps25
      go_wp2_with (first | (go_at_call 62; refine (hpp.out _).mono ?_; rintro e w' ⟨rfl, rfl⟩) | (go_at_call 72; refine (hin.out _).mono ?_; rintro e w' ⟨rfl, rfl⟩))
      refine hlv.out.mono ?_
      rintro e w3 ⟨v, rfl, hO, hb3⟩
      obtain ⟨a', c', rfl⟩ := hO.form
      replace hb3 := Lib.hid hb3
      replace hO := Lib.hid hO.own
      go_wp2_with fail
      go_ret2
      exact ⟨_, rfl, hO.out, hb3.out⟩
    · rw [hk] at hin
      replace hin := Lib.hid hin
      have hb : szB n k = false := by unfold szB; rw [hp, hk]; rfl
      rw [hb]
      replace hb := Lib.hid hb
      replace hk := Lib.hid hk
      replace hp := Lib.hid hp
      go_enter Try.func25, Try.ntmps25
      go_wp2_with (first | (go_at_call 62; refine (hpp.out _).mono ?_; rintro e w' ⟨rfl, rfl⟩) | (go_at_call 72; refine (hin.out _).mono ?_; rintro e w' ⟨rfl, rfl⟩))
      go_ret2
      exact ⟨_, rfl, own_empty0 _ _ _ _ _, (Below.refl _ _).alloc (Nat.le_refl _) _⟩
  · rw [hp] at hpp
    replace hpp := Lib.hid hpp
    have hb : szB n k = false := by unfold szB; rw [hp]; rfl
    rw [hb]
    replace hb := Lib.hid hb
    replace hp := Lib.hid hp
    go_enter Try.func25, Try.ntmps25
    go_wp2_with (go_at_call 62; refine (hpp.out _).mono ?_; rintro e w' ⟨rfl, rfl⟩)
    go_ret2
    exact ⟨_, rfl, own_empty0 _ _ _ _ _, (Below.refl _ _).alloc (Nat.le_refl _) _⟩

theorem trace_all {n s : Int} {xs : List Int} (h : allB n xs = true) (hs : setB n s = true) : allB n (xs.map (fun x => andI x s)) = true := List.all_eq_true.2 fun z hz => by
  obtain ⟨y, hy, rfl⟩ := List.mem_map.1 hz
  exact andI_set (allB_yes h y hy) hs
theorem less_lo : ∀ s : Fin 256, ∀ p : Fin 8, hasB s.val p.val = true → ((s.val : Nat) : Int) - 2 ^ p.val = lessI s.val p.val ∧ 2 ^ p.val ≤ s.val := by decide +kernel
theorem less_yes {s p : Int} (h1 : 0 ≤ s) (h2 : s < 256) (h3 : 0 ≤ p) (h4 : p ≤ 7) (h : hasB s p = true) : s - 2 ^ p.toNat = lessI s p ∧ (2 : Int) ^ p.toNat ≤ s := by
  have h0 := less_lo ⟨s.toNat, by omega⟩ ⟨p.toNat, by omega⟩
  have e1 : ((s.toNat : Nat) : Int) = s := Int.toNat_of_nonneg h1
  have e2 : ((p.toNat : Nat) : Int) = p := Int.toNat_of_nonneg h3
  simp only [e1, e2] at h0
  obtain ⟨a, b⟩ := h0 h
  refine ⟨a, ?_⟩
  have : ((2 ^ p.toNat : Nat) : Int) = 2 ^ p.toNat := by simp
  omega
theorem link_eq {xs : List Int} {p : Int} (hA : Asc xs) (hz : ∀ z ∈ xs, 0 ≤ z ∧ z < 256) (p1 : 0 ≤ p) (p2 : p ≤ 7) : (xs.filter (fun x => hasB x p)).map (fun x => lessI x p) = sortL ((sortL (xs.filter (fun x => hasB x p))).map (fun x => lessI x p)) := by
  rw [sortL_asc (asc_filter hA _)]
  refine (sortL_asc (asc_map (asc_filter hA _) fun x hx y hy hxy => ?_)).symm
  obtain ⟨hx1, hx2⟩ := List.mem_filter.1 hx
  obtain ⟨hy1, hy2⟩ := List.mem_filter.1 hy
  have a := less_yes (hz x hx1).1 (hz x hx1).2 p1 p2 hx2
  have b := less_yes (hz y hy1).1 (hz y hy1).2 p1 p2 hy2
  omega

/-- the sets that have not p. -/
def woL (p : Int) (xs : List Int) : List Int := xs.filter (fun x => !hasB x p)
theorem woL_len (p : Int) (xs : List Int) : (woL p xs).length ≤ xs.length := List.length_filter_le _ _
/-- the sets that have p, less p. -/
def liL (p : Int) (xs : List Int) : List Int := (xs.filter (fun x => hasB x p)).map (fun x => lessI x p)
theorem liL_len (p : Int) (xs : List Int) : (liL p xs).length ≤ xs.length := by unfold liL; rw [List.length_map]; exact List.length_filter_le _ _
theorem woL_yes {p x : Int} {xs : List Int} {k : Nat} (hk : k < xs.length) (hx : xs.getD k 0 = x) (h : hasB x p = false) : woL p (xs.take (k + 1)) = woL p (xs.take k) ++ [x] := filt_yes hk hx _ (by simp [h])
theorem woL_no {p x : Int} {xs : List Int} {k : Nat} (hk : k < xs.length) (hx : xs.getD k 0 = x) (h : hasB x p = true) : woL p (xs.take (k + 1)) = woL p (xs.take k) := filt_no hk hx _ (by simp [h])
theorem liL_yes {p x : Int} {xs : List Int} {k : Nat} (hk : k < xs.length) (hx : xs.getD k 0 = x) (h : hasB x p = true) : liL p (xs.take (k + 1)) = liL p (xs.take k) ++ [lessI x p] := by unfold liL; rw [filt_yes hk hx (fun x => hasB x p) h, List.map_append]; rfl
theorem liL_no {p x : Int} {xs : List Int} {k : Nat} (hk : k < xs.length) (hx : xs.getD k 0 = x) (h : hasB x p = false) : liL p (xs.take (k + 1)) = liL p (xs.take k) := by unfold liL; rw [filt_no hk hx (fun x => hasB x p) h]

set_option maxHeartbeats 2000000 in
theorem sp_FamilyWithout (n p : Int) (lv : Value) (xs : List Int) (S : Nat) (w : World) (hx : Row w S lv xs) (hS : S ≤ w.heap.size) (hl : xs.length ≤ 100000000) :
    Calls Try.prog 52 #[.int .i64 n, lv, .int .i64 p] w (ListPost (ifL (ptB n p && famB n xs) (sortL (xs.filter (fun x => !hasB x p)))) (ptB n p && famB n xs) w) := by
  have h1 := sp_FamilyIn n lv xs S (w.alloc (.cells #[] 3)) (hx.below ((Below.refl w.heap.size w).alloc (Nat.le_refl _) _) hS) (by omega)
  obtain ⟨a, cap, rfl, ha⟩ := id hx
  rcases (by cases famB n xs <;> simp : famB n xs = true ∨ famB n xs = false) with f1 | f1
  · rw [f1] at h1 ⊢
    rw [Bool.and_true]
    obtain ⟨n1, n2, _⟩ := famB_all f1
    have a1 := famB_allB f1
    have l1 := famB_len f1
    have A1 := famB_asc f1
    have hzz := famB_lt f1
    replace h1 := Lib.hid h1
    replace f1 := Lib.hid f1
    replace a1 := Lib.hid a1
    replace A1 := Lib.hid A1
    replace hzz := Lib.hid hzz
    replace hx := Lib.hid hx
    replace ha := Lib.hid ha
    rcases (by cases ptB n p <;> simp : ptB n p = true ∨ ptB n p = false) with hB | hB
    · have hc := l6in p 0 (n - 1)
      rw [inB_pt, hB] at hc
      replace hc := Lib.hid hc
      rw [hB]
      show Calls Try.prog 52 #[.int .i64 n, .slice a xs.length cap, .int .i64 p] w (ListPost (sortL (xs.filter (fun x => !hasB x p))) true w)
      obtain ⟨p1, p3⟩ := ptB_yes hB
      have p2 : p ≤ 7 := by omega
      replace hB := Lib.hid hB
      have hou := Lib.hid (OwnL.lit w (Nat.le_refl w.heap.size))
      obtain ⟨pw1, pw2, pw3⟩ := pow8 p1 p2
      obtain ⟨LL, hLL⟩ : ∃ LL, sortL (xs.filter (fun x => !hasB x p)) = LL := ⟨_, rfl⟩
      have hEq : woL p xs = LL := by rw [← hLL]; exact (sortL_asc (asc_filter A1.out _)).symm
      replace hLL := Lib.hid hLL
      replace hEq := Lib.hid hEq
      go_enter Try.func52, Try.ntmps52
      go_wp2_with fail
      refine h1.out.mono ?_
      rintro e w1 ⟨rfl, q, rfl⟩
      go_wp2_with (go_at_call 72; refine (hc.out _).mono ?_; rintro e w' ⟨rfl, rfl⟩)
      go_loopw [8, 9] (fun v s wr => ∃ k : Nat, k ≤ xs.length ∧ s = .int .i64 k ∧ Hid (OwnL wr w.heap.size v (woL p (xs.take k))) ∧ Hid (Below w.heap.size w wr)) (fun _ s _ => xs.length - (intOf s).toNat)
      case atStart => exact ⟨0, by omega, rfl, hou, Lib.hid (below_drewN ((Below.refl _ _).alloc (Nat.le_refl _) _) q)⟩
      case round =>
        obtain ⟨k, hk, rfl, hown, hbel⟩ := hrel
        have hsz := hbel.out.size
        by_cases hlt : k < xs.length
        · obtain ⟨b1, o1, rfl, t1, c1⟩ := ha.out (by omega)
          have k1 : (0 : Int) ≤ (k : Int) := by omega
          have k2 : (k : Int) < (xs.length : Nat) := by omega
          have e1 : wr.cell? ⟨b1, o1 + k, none⟩ = some (.int .i64 (xs.getD k 0)) := (hbel.out.cell (p := ⟨b1, o1 + k, none⟩) (show b1 < w.heap.size by omega)).trans (c1 k hlt)
          obtain ⟨x, hx0⟩ : ∃ x, xs.getD k 0 = x := ⟨_, rfl⟩
          rw [hx0] at e1
          obtain ⟨z1, z2⟩ := hzz.out x (by rw [← hx0]; exact getD_mem hlt)
          have hh := l1has x p z1 z2 p1 p2
          have hlen : (woL p (xs.take k)).length ≤ 1073741824 := by have := woL_len p (xs.take k); rw [List.length_take] at this; omega
          rcases (by cases hasB x p <;> simp : hasB x p = true ∨ hasB x p = false) with hp | hp
          · rw [hp] at hh
            replace hh := Lib.hid hh
            have hst := woL_no hlt hx0 hp
            rw [← hst] at hown
            obtain ⟨zs, hzs⟩ : ∃ zs, woL p (xs.take (k + 1)) = zs := ⟨_, rfl⟩
            rw [hzs] at hown
            obtain ⟨a', c', rfl⟩ := hown.out.form
            clear hx0 c1 hst hlen
            replace hp := Lib.hid hp
            replace hzs := Lib.hid hzs
            go_wp2_with (go_at_call 101; refine (hh.out _).mono ?_; rintro e w' ⟨rfl, rfl⟩)
            go_roundw
            case rel => exact ⟨k + 1, by omega, by go_num, by rw [hzs.out]; exact hown, hbel⟩
            case measure => simp [intOf]; omega
          · rw [hp] at hh
            replace hh := Lib.hid hh
            have hst := woL_yes hlt hx0 hp
            obtain ⟨ys, hys⟩ : ∃ ys, woL p (xs.take k) = ys := ⟨_, rfl⟩
            rw [hys] at hown hst hlen
            obtain ⟨a', c', rfl⟩ := hown.out.form
            have hB1 : w.heap.size ≤ (wr.alloc (.cells #[.int .i64 x] 3)).heap.size := by rw [World.size_alloc]; omega
            skip
            clear hx0 c1
            replace hp := Lib.hid hp
            replace hys := Lib.hid hys
            replace hst := Lib.hid hst.symm
            go_wp2_with (first | (go_at_call 101; refine (hh.out _).mono ?_; rintro e w' ⟨rfl, rfl⟩) | (at_builtin; refine app_int rfl _ _ rfl w.heap.size _ ys rfl (hown.out.alloc _) x wr.heap.size rfl (cell_new _ _ _) hlen hB1 ?_; intro v' w1 hown1 hb1))
            rw [hst.out] at hown1
            replace hown1 := Lib.hid hown1
            have hb2 := Lib.hid ((hbel.out.alloc hsz _).trans hb1)
            go_roundw
            case rel => exact ⟨k + 1, by omega, by go_num, hown1, hb2⟩
            case measure => simp [intOf]; omega
        · obtain rfl : k = xs.length := by omega
          have hO := hown.out
          rw [List.take_length, hEq.out] at hO
          obtain ⟨a', c', rfl⟩ := hO.form
          replace hO := Lib.hid hO.own
          clear hown
          go_wp2_with fail
          go_ret2
          exact ⟨_, rfl, by rw [hLL.out]; exact hO.out, hbel.out⟩
    · have hc := l6in p 0 (n - 1)
      rw [inB_pt, hB] at hc
      replace hc := Lib.hid hc
      rw [hB]
      replace hB := Lib.hid hB
      go_enter Try.func52, Try.ntmps52
      go_wp2_with fail
      refine h1.out.mono ?_
      rintro e w1 ⟨rfl, q, rfl⟩
      go_wp2_with (go_at_call 72; refine (hc.out _).mono ?_; rintro e w' ⟨rfl, rfl⟩)
      go_ret2
      exact ⟨_, rfl, own_empty0 _ _ _ _ _, (below_drewN ((Below.refl _ w).alloc (Nat.le_refl _) _) q)⟩
  · rw [f1] at h1 ⊢
    rw [Bool.and_false]
    replace h1 := Lib.hid h1
    replace f1 := Lib.hid f1
    clear hx ha
    go_enter Try.func52, Try.ntmps52
    go_wp2_with fail
    refine h1.out.mono ?_
    rintro e w1 ⟨rfl, q, rfl⟩
    go_wp2_with fail
    go_ret2
    exact ⟨_, rfl, own_empty0 _ _ _ _ _, (below_drewN ((Below.refl _ w).alloc (Nat.le_refl _) _) q)⟩

set_option maxHeartbeats 2000000 in
theorem sp_FamilyLink (n p : Int) (lv : Value) (xs : List Int) (S : Nat) (w : World) (hx : Row w S lv xs) (hS : S ≤ w.heap.size) (hl : xs.length ≤ 100000000) :
    Calls Try.prog 48 #[.int .i64 n, lv, .int .i64 p] w (ListPost (ifL (ptB n p && famB n xs) (sortL ((sortL (xs.filter (fun x => hasB x p))).map (fun x => lessI x p)))) (ptB n p && famB n xs) w) := by
  have h1 := sp_FamilyIn n lv xs S (w.alloc (.cells #[] 3)) (hx.below ((Below.refl w.heap.size w).alloc (Nat.le_refl _) _) hS) (by omega)
  obtain ⟨a, cap, rfl, ha⟩ := id hx
  rcases (by cases famB n xs <;> simp : famB n xs = true ∨ famB n xs = false) with f1 | f1
  · rw [f1] at h1 ⊢
    rw [Bool.and_true]
    obtain ⟨n1, n2, _⟩ := famB_all f1
    have a1 := famB_allB f1
    have l1 := famB_len f1
    have A1 := famB_asc f1
    have hzz := famB_lt f1
    replace h1 := Lib.hid h1
    replace f1 := Lib.hid f1
    replace a1 := Lib.hid a1
    replace A1 := Lib.hid A1
    replace hzz := Lib.hid hzz
    replace hx := Lib.hid hx
    replace ha := Lib.hid ha
    rcases (by cases ptB n p <;> simp : ptB n p = true ∨ ptB n p = false) with hB | hB
    · have hc := l6in p 0 (n - 1)
      rw [inB_pt, hB] at hc
      replace hc := Lib.hid hc
      rw [hB]
      show Calls Try.prog 48 #[.int .i64 n, .slice a xs.length cap, .int .i64 p] w (ListPost (sortL ((sortL (xs.filter (fun x => hasB x p))).map (fun x => lessI x p))) true w)
      obtain ⟨p1, p3⟩ := ptB_yes hB
      have p2 : p ≤ 7 := by omega
      replace hB := Lib.hid hB
      have hou := Lib.hid (OwnL.lit w (Nat.le_refl w.heap.size))
      obtain ⟨pw1, pw2, pw3⟩ := pow8 p1 p2
      obtain ⟨LL, hLL⟩ : ∃ LL, sortL ((sortL (xs.filter (fun x => hasB x p))).map (fun x => lessI x p)) = LL := ⟨_, rfl⟩
      have hEq : liL p xs = LL := by rw [← hLL]; exact link_eq A1.out hzz.out p1 p2
      replace hLL := Lib.hid hLL
      replace hEq := Lib.hid hEq
      go_enter Try.func48, Try.ntmps48
      go_wp2_with fail
      refine h1.out.mono ?_
      rintro e w1 ⟨rfl, q, rfl⟩
      go_wp2_with (go_at_call 72; refine (hc.out _).mono ?_; rintro e w' ⟨rfl, rfl⟩)
      go_loopw [8, 9] (fun v s wr => ∃ k : Nat, k ≤ xs.length ∧ s = .int .i64 k ∧ Hid (OwnL wr w.heap.size v (liL p (xs.take k))) ∧ Hid (Below w.heap.size w wr)) (fun _ s _ => xs.length - (intOf s).toNat)
      case atStart => exact ⟨0, by omega, rfl, hou, Lib.hid (below_drewN ((Below.refl _ _).alloc (Nat.le_refl _) _) q)⟩
      case round =>
        obtain ⟨k, hk, rfl, hown, hbel⟩ := hrel
        have hsz := hbel.out.size
        by_cases hlt : k < xs.length
        · obtain ⟨b1, o1, rfl, t1, c1⟩ := ha.out (by omega)
          have k1 : (0 : Int) ≤ (k : Int) := by omega
          have k2 : (k : Int) < (xs.length : Nat) := by omega
          have e1 : wr.cell? ⟨b1, o1 + k, none⟩ = some (.int .i64 (xs.getD k 0)) := (hbel.out.cell (p := ⟨b1, o1 + k, none⟩) (show b1 < w.heap.size by omega)).trans (c1 k hlt)
          obtain ⟨x, hx0⟩ : ∃ x, xs.getD k 0 = x := ⟨_, rfl⟩
          rw [hx0] at e1
          obtain ⟨z1, z2⟩ := hzz.out x (by rw [← hx0]; exact getD_mem hlt)
          have hh := l1has x p z1 z2 p1 p2
          have hlen : (liL p (xs.take k)).length ≤ 1073741824 := by have := liL_len p (xs.take k); rw [List.length_take] at this; omega
          rcases (by cases hasB x p <;> simp : hasB x p = true ∨ hasB x p = false) with hp | hp
          · rw [hp] at hh
            replace hh := Lib.hid hh
            have hst := liL_yes hlt hx0 hp
            obtain ⟨ys, hys⟩ : ∃ ys, liL p (xs.take k) = ys := ⟨_, rfl⟩
            rw [hys] at hown hst hlen
            obtain ⟨a', c', rfl⟩ := hown.out.form
            have hB1 : ∀ o, w.heap.size ≤ (wr.alloc o).heap.size := fun o => by rw [World.size_alloc]; omega
            obtain ⟨lv1, lv2⟩ := less_yes z1 z2 p1 p2 hp
            have hV : IntKind.i64.wrap (x - IntKind.i64.wrap (2 ^ p.toNat)) = lessI x p := by
              rw [← lv1]
              have q0 : IntKind.i64.wrap ((2 : Int) ^ p.toNat) = 2 ^ p.toNat := by
                obtain ⟨T, hT⟩ : ∃ T, (2 : Int) ^ p.toNat = T := ⟨_, rfl⟩
                rw [hT] at pw1 pw2 pw3 ⊢
                rw [IntKind.wrap_i64]; omega
              rw [q0]
              obtain ⟨T, hT⟩ : ∃ T, (2 : Int) ^ p.toNat = T := ⟨_, rfl⟩
              rw [hT] at pw2 pw3 lv2 ⊢
              rw [IntKind.wrap_i64]; omega
            have hc1 := cell_new wr (.int .i64 (IntKind.i64.wrap (x - IntKind.i64.wrap (2 ^ p.toNat)))) 3
            clear hx0 c1
            replace hV := Lib.hid hV
            replace hc1 := Lib.hid hc1
            replace hB1 := Lib.hid hB1
            replace hp := Lib.hid hp
            replace hys := Lib.hid hys
            replace hst := Lib.hid hst.symm
            replace lv1 := Lib.hid lv1
            replace lv2 := Lib.hid lv2
            replace pw1 := Lib.hid pw1
            go_wp2_with (go_at_call 101; refine (hh.out _).mono ?_; rintro e w' ⟨rfl, rfl⟩)
            go_region_law (refine step_app_int rfl _ _ rfl w.heap.size _ ys rfl (OwnL.alloc (w := wr.drew) hown.out _) (IntKind.i64.wrap (x - IntKind.i64.wrap (2 ^ p.toNat))) wr.heap.size rfl hc1.out hlen (hB1.out _) ?_; intro v' w1 hown1 hb1)
            all_goals
              rw [hV.out, hst.out] at hown1
              replace hown1 := Lib.hid hown1
              have hb2 := Lib.hid ((hbel.out.drew.alloc hsz _).trans hb1)
              go_wp2_with fail
              go_roundw
              case rel => exact ⟨k + 1, by omega, by go_num, hown1, hb2⟩
              case measure => simp [intOf]; omega
          · rw [hp] at hh
            replace hh := Lib.hid hh
            have hst := liL_no hlt hx0 hp
            rw [← hst] at hown
            obtain ⟨zs, hzs⟩ : ∃ zs, liL p (xs.take (k + 1)) = zs := ⟨_, rfl⟩
            rw [hzs] at hown
            obtain ⟨a', c', rfl⟩ := hown.out.form
            clear hx0 c1 hst hlen
            replace hp := Lib.hid hp
            replace hzs := Lib.hid hzs
            go_wp2_with (go_at_call 101; refine (hh.out _).mono ?_; rintro e w' ⟨rfl, rfl⟩)
            go_roundw
            case rel => exact ⟨k + 1, by omega, by go_num, by rw [hzs.out]; exact hown, hbel⟩
            case measure => simp [intOf]; omega
        · obtain rfl : k = xs.length := by omega
          have hO := hown.out
          rw [List.take_length, hEq.out] at hO
          obtain ⟨a', c', rfl⟩ := hO.form
          replace hO := Lib.hid hO.own
          clear hown
          go_wp2_with fail
          go_ret2
          exact ⟨_, rfl, by rw [hLL.out]; exact hO.out, hbel.out⟩
    · have hc := l6in p 0 (n - 1)
      rw [inB_pt, hB] at hc
      replace hc := Lib.hid hc
      rw [hB]
      replace hB := Lib.hid hB
      go_enter Try.func48, Try.ntmps48
      go_wp2_with fail
      refine h1.out.mono ?_
      rintro e w1 ⟨rfl, q, rfl⟩
      go_wp2_with (go_at_call 72; refine (hc.out _).mono ?_; rintro e w' ⟨rfl, rfl⟩)
      go_ret2
      exact ⟨_, rfl, own_empty0 _ _ _ _ _, (below_drewN ((Below.refl _ w).alloc (Nat.le_refl _) _) q)⟩
  · rw [f1] at h1 ⊢
    rw [Bool.and_false]
    replace h1 := Lib.hid h1
    replace f1 := Lib.hid f1
    clear hx ha
    go_enter Try.func48, Try.ntmps48
    go_wp2_with fail
    refine h1.out.mono ?_
    rintro e w1 ⟨rfl, q, rfl⟩
    go_wp2_with fail
    go_ret2
    exact ⟨_, rfl, own_empty0 _ _ _ _ _, (below_drewN ((Below.refl _ w).alloc (Nat.le_refl _) _) q)⟩
end Go.Proofs.Ytapijjfhdhkakaa
