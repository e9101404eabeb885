/- The model: levels, traces, links, sets without a point. -/
import Derived.Test.YtaljnnjlhmlcoaaSpec6
import Derived.Test.YtaljnnjlhmlcoaaFams13
namespace Go.Proofs.Ytaljnnjlhmlcoaa
open Go.ChangeShapes Go.WideShapes Go.ChangeAt Go.RowKit Go.Proofs

set_option maxHeartbeats 2000000 in
theorem level_at (n kk : Int) (w : World) (n1 : 1 ≤ n) (n2 : n ≤ 8) :
    Calls Try.prog 35 #[.int .i64 n, .int .i64 kk] w (IntsPost (mkL (fun j => cntI (j : Nat) == kk) (2 ^ n.toNat)) w) := by
  obtain ⟨p1, p2, p3⟩ := pow_nat n1 n2
  obtain ⟨N, hN⟩ : ∃ N : Nat, 2 ^ n.toNat = N := ⟨_, rfl⟩
  have hNi : (2 : Int) ^ n.toNat = (N : Nat) := by rw [← hN]; simp
  have hn0 : (0 : Int) ≤ n := by omega
  have hn64 : n < 64 := by omega
  rw [hN] at p1 p2 p3 ⊢
  obtain ⟨P, hP⟩ : ∃ P : Nat → Bool, (fun j : Nat => cntI (j : Nat) == kk) = P := ⟨_, rfl⟩
  have hPk : ∀ k : Nat, (cntI (k : Nat) == kk) = P k := fun k => by rw [← hP]
  rw [hP]
  replace hP := Lib.hid hP
  replace hPk := Lib.hid hPk
  replace hN := Lib.hid hN
  replace hNi := Lib.hid hNi
  go_enter Try.func35, Try.ntmps35
  go_wp2_with fail
  go_loopw [5, 6] (fun v s wr => ∃ k : Nat, k ≤ N ∧ s = .int .i64 k ∧ Hid (OwnL wr w.heap.size v (mkL P k)) ∧ Hid (Below w.heap.size w wr)) (fun _ s _ => N - (intOf s).toNat)
  case atStart => exact ⟨0, by omega, rfl, Lib.hid (OwnL.lit w (Nat.le_refl _)), Lib.hid ((Below.refl _ _).alloc (Nat.le_refl _) _)⟩
  case round =>
    obtain ⟨k, hk, rfl, hown, hbel⟩ := hrel
    have hsz := hbel.out.size
    by_cases hlt : k < N
    · have k1 : (0 : Int) ≤ (k : Int) := by omega
      have k2 : (k : Int) < (N : Nat) := by omega
      have hsz1 := l1size (k : Int) (by omega) (by omega); have hpk := hPk.out k; obtain ⟨r, hr⟩ : ∃ r, cntI (k : Nat) = r := ⟨_, rfl⟩; rw [hr] at hsz1 hpk; replace hr := Lib.hid hr; replace hsz1 := Lib.hid hsz1
      have hlen : (mkL P k).length ≤ 1073741824 := by have := mkL_len P k; omega
      have hsu := mkL_succ P k
      rcases (by cases P k <;> simp : P k = true ∨ P k = false) with hp | hp
      · have hs : mkL P k ++ [(k : Int)] = mkL P (k + 1) := by rw [hsu, if_pos hp]
        obtain ⟨ys, hys⟩ : ∃ ys, mkL P k = ys := ⟨_, rfl⟩
        rw [hys] at hown hs hlen
        obtain ⟨a', c', rfl⟩ := hown.out.form
        have hB1 : w.heap.size ≤ (wr.alloc (.cells #[.int .i64 (k : Int)] 3)).heap.size := by rw [World.size_alloc]; omega
        clear hsu
        rw [hp] at hpk; replace hp := Lib.hid hp
        replace hys := Lib.hid hys
        replace hs := Lib.hid hs
        go_wp2_with (first | (go_at_call 60; refine (hsz1.out _).mono ?_; rintro e w' ⟨rfl, rfl⟩) | (at_builtin; refine app_int rfl _ _ rfl w.heap.size _ ys rfl (hown.out.alloc _) (k : Int) wr.heap.size rfl (cell_new _ _ _) hlen hB1 ?_; intro v' w1 hown1 hb1))
        rw [hs.out] at hown1
        replace hown1 := Lib.hid hown1
        have hb2 := Lib.hid ((hbel.out.alloc hsz _).trans hb1)
        go_roundw
        case rel => exact ⟨k + 1, by omega, by go_num, hown1, hb2⟩
        case measure => simp [intOf]; omega
      · have hs : mkL P k = mkL P (k + 1) := by rw [hsu, if_neg (by simp [hp]), List.append_nil]
        rw [hs] at hown
        obtain ⟨ys, hys⟩ : ∃ ys, mkL P (k + 1) = ys := ⟨_, rfl⟩
        rw [hys] at hown
        obtain ⟨a', c', rfl⟩ := hown.out.form
        clear hsu hs hlen
        rw [hp] at hpk; replace hp := Lib.hid hp
        replace hys := Lib.hid hys
        go_wp2_with ((go_at_call 60; refine (hsz1.out _).mono ?_; rintro e w' ⟨rfl, rfl⟩))
        go_roundw
        case rel => exact ⟨k + 1, by omega, by go_num, by rw [hys.out]; exact hown, hbel⟩
        case measure => simp [intOf]; omega
    · obtain rfl : k = N := by omega
      obtain ⟨a', c', rfl⟩ := hown.out.form
      have hown2 := Lib.hid hown.out
      clear hown
      go_wp2_with fail
      go_ret
      exact ⟨_, rfl, hown2.out, hbel.out⟩

theorem sz_in (n k : Int) : inB k 0 n = decide (0 ≤ k ∧ k ≤ n) := rfl
theorem trace_all {n s : Int} {xs : List Int} (h : allB n xs = true) (hs : setB n s = true) : allB n (xs.map (fun x => andI x s)) = true := List.all_eq_true.2 fun z hz => by
  obtain ⟨y, hy, rfl⟩ := List.mem_map.1 hz
  exact andI_set (allB_yes h y hy) hs
theorem less_lo : ∀ s : Fin 256, ∀ p : Fin 8, hasB s.val p.val = true → ((s.val : Nat) : Int) - 2 ^ p.val = lessI s.val p.val ∧ 2 ^ p.val ≤ s.val := by decide +kernel
theorem less_yes {s p : Int} (h1 : 0 ≤ s) (h2 : s < 256) (h3 : 0 ≤ p) (h4 : p ≤ 7) (h : hasB s p = true) : s - 2 ^ p.toNat = lessI s p ∧ (2 : Int) ^ p.toNat ≤ s := by
  have h0 := less_lo ⟨s.toNat, by omega⟩ ⟨p.toNat, by omega⟩
  have e1 : ((s.toNat : Nat) : Int) = s := Int.toNat_of_nonneg h1
  have e2 : ((p.toNat : Nat) : Int) = p := Int.toNat_of_nonneg h3
  simp only [e1, e2] at h0
  obtain ⟨a, b⟩ := h0 h
  refine ⟨a, ?_⟩
  have : ((2 ^ p.toNat : Nat) : Int) = 2 ^ p.toNat := by simp
  omega
theorem link_eq {xs : List Int} {p : Int} (hA : Asc xs) (hz : ∀ z ∈ xs, 0 ≤ z ∧ z < 256) (p1 : 0 ≤ p) (p2 : p ≤ 7) : (xs.filter (fun x => hasB x p)).map (fun x => lessI x p) = sortL ((sortL (xs.filter (fun x => hasB x p))).map (fun x => lessI x p)) := by
  rw [sortL_asc (asc_filter hA _)]
  refine (sortL_asc (asc_map (asc_filter hA _) fun x hx y hy hxy => ?_)).symm
  obtain ⟨hx1, hx2⟩ := List.mem_filter.1 hx
  obtain ⟨hy1, hy2⟩ := List.mem_filter.1 hy
  have a := less_yes (hz x hx1).1 (hz x hx1).2 p1 p2 hx2
  have b := less_yes (hz y hy1).1 (hz y hy1).2 p1 p2 hy2
  omega

/-- the sets that have not p. -/
def woL (p : Int) (xs : List Int) : List Int := xs.filter (fun x => !hasB x p)
theorem woL_len (p : Int) (xs : List Int) : (woL p xs).length ≤ xs.length := List.length_filter_le _ _
/-- the sets that have p, less p. -/
def liL (p : Int) (xs : List Int) : List Int := (xs.filter (fun x => hasB x p)).map (fun x => lessI x p)
theorem liL_len (p : Int) (xs : List Int) : (liL p xs).length ≤ xs.length := by unfold liL; rw [List.length_map]; exact List.length_filter_le _ _
theorem woL_yes {p x : Int} {xs : List Int} {k : Nat} (hk : k < xs.length) (hx : xs.getD k 0 = x) (h : hasB x p = false) : woL p (xs.take (k + 1)) = woL p (xs.take k) ++ [x] := filt_yes hk hx _ (by simp [h])
theorem woL_no {p x : Int} {xs : List Int} {k : Nat} (hk : k < xs.length) (hx : xs.getD k 0 = x) (h : hasB x p = true) : woL p (xs.take (k + 1)) = woL p (xs.take k) := filt_no hk hx _ (by simp [h])
theorem liL_yes {p x : Int} {xs : List Int} {k : Nat} (hk : k < xs.length) (hx : xs.getD k 0 = x) (h : hasB x p = true) : liL p (xs.take (k + 1)) = liL p (xs.take k) ++ [lessI x p] := by unfold liL; rw [filt_yes hk hx (fun x => hasB x p) h, List.map_append]; rfl
theorem liL_no {p x : Int} {xs : List Int} {k : Nat} (hk : k < xs.length) (hx : xs.getD k 0 = x) (h : hasB x p = false) : liL p (xs.take (k + 1)) = liL p (xs.take k) := by unfold liL; rw [filt_no hk hx (fun x => hasB x p) h]

end Go.Proofs.Ytaljnnjlhmlcoaa
