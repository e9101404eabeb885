/- The model: levels, traces, links, sets without a point. -/
import Derived.Test.YtofiibmpindajaaSpec6
import Derived.Test.YtofiibmpindajaaFams13
namespace Go.Proofs.Ytofiibmpindajaa
open Go.ChangeShapes Go.WideShapes Go.ChangeAt Go.RowKit Go.Proofs

theorem sz_in (n k : Int) : inB k 0 n = decide (0 ≤ k ∧ k ≤ n) := rfl
theorem trace_all {n s : Int} {xs : List Int} (h : allB n xs = true) (hs : setB n s = true) : allB n (xs.map (fun x => andI x s)) = true := List.all_eq_true.2 fun z hz => by
  obtain ⟨y, hy, rfl⟩ := List.mem_map.1 hz
  exact andI_set (allB_yes h y hy) hs
set_option maxHeartbeats 2000000 in
theorem trace_at (n s : Int) (lv : Value) (xs : List Int) (S : Nat) (w : World) (hx : Row w S lv xs) (hS : S ≤ w.heap.size) (hl : xs.length ≤ 1000) (n1 : 1 ≤ n) (n2 : n ≤ 8) (hall : allB n xs = true) (hs : setB n s = true) :
    Calls Try.prog 29 #[.int .i64 n, lv, .int .i64 s] w (IntsPost (sortL (xs.map (fun x => andI x s))) w) := by
  obtain ⟨a, cap, rfl, ha⟩ := hx
  obtain ⟨s1, s2⟩ := setB_lt hs
  replace ha := Lib.hid ha
  have hta := Lib.hid (trace_all hall hs)
  replace hall := Lib.hid hall
  replace hs := Lib.hid hs
  go_enter Try.func29, Try.ntmps29
  go_wp2_with fail
  go_loopw [7, 8] (fun v q wr => ∃ k : Nat, k ≤ xs.length ∧ q = .int .i64 k ∧ Hid (OwnL wr w.heap.size v ((xs.take k).map (fun x => andI x s))) ∧ Hid (Below w.heap.size w wr)) (fun _ q _ => xs.length - (intOf q).toNat)
  case atStart => exact ⟨0, by omega, rfl, Lib.hid (OwnL.lit w (Nat.le_refl _)), Lib.hid ((Below.refl _ _).alloc (Nat.le_refl _) _)⟩
  case round =>
    obtain ⟨k, hk, rfl, hown, hbel⟩ := hrel
    have hsz := hbel.out.size
    by_cases hlt : k < xs.length
    · obtain ⟨b1, o1, rfl, t1, c1⟩ := ha.out (by omega)
      have k1 : (0 : Int) ≤ (k : Int) := by omega
      have k2 : (k : Int) < (xs.length : Nat) := by omega
      have e1 : wr.cell? ⟨b1, o1 + k, none⟩ = some (.int .i64 (xs.getD k 0)) := (hbel.out.cell (p := ⟨b1, o1 + k, none⟩) (show b1 < w.heap.size by omega)).trans (c1 k hlt)
      obtain ⟨x, hx⟩ : ∃ x, xs.getD k 0 = x := ⟨_, rfl⟩
      rw [hx] at e1
      obtain ⟨z1, z2⟩ := setB_lt (allB_yes hall.out x (by rw [← hx]; exact getD_mem hlt))
      have ho := i64_andI z1 z2 s1 s2
      have hst := map_take hlt hx (fun x => andI x s)
      have hlen : ((xs.take k).map (fun x => andI x s)).length ≤ 1073741824 := by simp; omega
      obtain ⟨ys, hys⟩ : ∃ ys, (xs.take k).map (fun x => andI x s) = ys := ⟨_, rfl⟩
      rw [hys] at hown hst hlen
      obtain ⟨V, hV⟩ : ∃ V, andI x s = V := ⟨_, rfl⟩
      simp only [hV] at ho hst
      obtain ⟨a', c', rfl⟩ := hown.out.form
      have hB1 : w.heap.size ≤ (wr.alloc (.cells #[.int .i64 V] 3)).heap.size := by rw [World.size_alloc]; omega
      clear hx c1
      replace hV := Lib.hid hV
      replace hys := Lib.hid hys
      replace hst := Lib.hid hst.symm
      go_wp2_with (at_builtin; refine app_int rfl _ _ rfl w.heap.size _ ys rfl (hown.out.alloc _) V wr.heap.size rfl (cell_new _ _ _) hlen hB1 ?_; intro v' w1 hown1 hb1)
      rw [hst.out] at hown1
      replace hown1 := Lib.hid hown1
      have hb2 := Lib.hid ((hbel.out.alloc hsz _).trans hb1)
      go_roundw
      case rel => exact ⟨k + 1, by omega, by go_num, hown1, hb2⟩
      case measure => simp [intOf]; omega
    · obtain rfl : k = xs.length := by omega
      have hO := hown.out
      rw [List.take_length] at hO
      obtain ⟨ys, hys⟩ : ∃ ys, xs.map (fun x => andI x s) = ys := ⟨_, rfl⟩
      have hyl : ys.length ≤ 1073741824 := by rw [← hys]; simp; omega
      have hta2 := hta.out
      rw [hys] at hO hta2
      obtain ⟨a', c', rfl⟩ := hO.form
      have hfa := Lib.hid (family_at n _ ys _ wr hO.own.row (Nat.le_refl _) hyl n1 n2 hta2)
      replace hO := Lib.hid hO
      replace hys := Lib.hid hys
      replace hta2 := Lib.hid hta2
      clear hown
      go_wp2_with fail
      refine hfa.out.mono ?_
      rintro e w4 ⟨v4, rfl, hO4, hb4⟩
      obtain ⟨x1, x2, rfl⟩ := hO4.form
      replace hb4 := Lib.hid (hbel.out.trans (hb4.mono hsz))
      replace hO4 := Lib.hid (hO4.mono hsz)
      go_wp2_with fail
      go_ret
      exact ⟨_, rfl, by rw [hys.out]; exact hO4.out, hb4.out⟩

set_option maxHeartbeats 2000000 in
theorem sp_FamilyTrace (n s : Int) (lv : Value) (xs : List Int) (S : Nat) (w : World) (hx : Row w S lv xs) (hS : S ≤ w.heap.size) (hl : xs.length ≤ 100000000) :
    Calls Try.prog 10 #[.int .i64 n, lv, .int .i64 s] w (ListPost (ifL (setB n s && famB n xs) (sortL (xs.map (fun x => andI x s)))) (setB n s && famB n xs) w) := by
  have h1 := sp_FamilyIn n lv xs S w hx (by omega)
  obtain ⟨a, cap, rfl, ha⟩ := id hx
  rcases (by cases famB n xs <;> simp : famB n xs = true ∨ famB n xs = false) with f1 | f1
  · rw [f1] at h1 ⊢
    rw [Bool.and_true]
    obtain ⟨n1, n2, _⟩ := famB_all f1
    have a1 := famB_allB f1
    have l1 := famB_len f1
    have A1 := famB_asc f1
    have hzz := famB_lt f1
    replace h1 := Lib.hid h1
    replace f1 := Lib.hid f1
    replace a1 := Lib.hid a1
    replace A1 := Lib.hid A1
    replace hzz := Lib.hid hzz
    replace hx := Lib.hid hx
    replace ha := Lib.hid ha
    rcases (by cases setB n s <;> simp : setB n s = true ∨ setB n s = false) with hB | hB
    · have hc := Lib.hid (sp_set_in_yes n s hB)
      rw [hB]
      show Calls Try.prog 10 #[.int .i64 n, .slice a xs.length cap, .int .i64 s] w (ListPost (sortL (xs.map (fun x => andI x s))) true w)
      have htr := Lib.hid (fun q => trace_at n s _ xs S (w.drewN q) (hx.out.drewN q) hS (by omega) n1 n2 a1.out hB)
      replace hB := Lib.hid hB
      go_enter Try.func10, Try.ntmps10
      go_wp2_with fail
      refine h1.out.mono ?_
      rintro e w1 ⟨rfl, q, rfl⟩
      go_wp2_with (go_at_call 28; refine (hc.out _).mono ?_; rintro e w' ⟨rfl, rfl⟩)
      refine (htr.out q).mono ?_
      rintro e w3 ⟨v, rfl, hO, hb3⟩
      obtain ⟨a', c', rfl⟩ := hO.form
      replace hb3 := Lib.hid ((below_drewN (Below.refl w.heap.size w) q).trans hb3)
      replace hO := Lib.hid (own_lift hO)
      go_wp2_with fail
      go_ret2
      exact ⟨_, rfl, hO.out, hb3.out⟩
    · have hc := Lib.hid (sp_set_in_no n s hB)
      rw [hB]
      replace hB := Lib.hid hB
      go_enter Try.func10, Try.ntmps10
      go_wp2_with fail
      refine h1.out.mono ?_
      rintro e w1 ⟨rfl, q, rfl⟩
      go_wp2_with (go_at_call 28; refine (hc.out _).mono ?_; rintro e w' ⟨rfl, rfl⟩)
      go_ret2
      exact ⟨_, rfl, own_empty0 _ _ _ _ _, ((below_drewN (Below.refl _ w) q).alloc (Nat.le_refl _) _)⟩
  · rw [f1] at h1 ⊢
    rw [Bool.and_false]
    replace h1 := Lib.hid h1
    replace f1 := Lib.hid f1
    clear hx ha
    go_enter Try.func10, Try.ntmps10
    go_wp2_with fail
    refine h1.out.mono ?_
    rintro e w1 ⟨rfl, q, rfl⟩
    go_wp2_with fail
    go_ret2
    exact ⟨_, rfl, own_empty0 _ _ _ _ _, ((below_drewN (Below.refl _ w) q).alloc (Nat.le_refl _) _)⟩

theorem less_lo : ∀ s : Fin 256, ∀ p : Fin 8, hasB s.val p.val = true → ((s.val : Nat) : Int) - 2 ^ p.val = lessI s.val p.val ∧ 2 ^ p.val ≤ s.val := by decide +kernel
theorem less_yes {s p : Int} (h1 : 0 ≤ s) (h2 : s < 256) (h3 : 0 ≤ p) (h4 : p ≤ 7) (h : hasB s p = true) : s - 2 ^ p.toNat = lessI s p ∧ (2 : Int) ^ p.toNat ≤ s := by
  have h0 := less_lo ⟨s.toNat, by omega⟩ ⟨p.toNat, by omega⟩
  have e1 : ((s.toNat : Nat) : Int) = s := Int.toNat_of_nonneg h1
  have e2 : ((p.toNat : Nat) : Int) = p := Int.toNat_of_nonneg h3
  simp only [e1, e2] at h0
  obtain ⟨a, b⟩ := h0 h
  refine ⟨a, ?_⟩
  have : ((2 ^ p.toNat : Nat) : Int) = 2 ^ p.toNat := by simp
  omega
theorem link_eq {xs : List Int} {p : Int} (hA : Asc xs) (hz : ∀ z ∈ xs, 0 ≤ z ∧ z < 256) (p1 : 0 ≤ p) (p2 : p ≤ 7) : (xs.filter (fun x => hasB x p)).map (fun x => lessI x p) = sortL ((sortL (xs.filter (fun x => hasB x p))).map (fun x => lessI x p)) := by
  rw [sortL_asc (asc_filter hA _)]
  refine (sortL_asc (asc_map (asc_filter hA _) fun x hx y hy hxy => ?_)).symm
  obtain ⟨hx1, hx2⟩ := List.mem_filter.1 hx
  obtain ⟨hy1, hy2⟩ := List.mem_filter.1 hy
  have a := less_yes (hz x hx1).1 (hz x hx1).2 p1 p2 hx2
  have b := less_yes (hz y hy1).1 (hz y hy1).2 p1 p2 hy2
  omega

/-- the sets that have not p. -/
def woL (p : Int) (xs : List Int) : List Int := xs.filter (fun x => !hasB x p)
theorem woL_len (p : Int) (xs : List Int) : (woL p xs).length ≤ xs.length := List.length_filter_le _ _
/-- the sets that have p, less p. -/
def liL (p : Int) (xs : List Int) : List Int := (xs.filter (fun x => hasB x p)).map (fun x => lessI x p)
theorem liL_len (p : Int) (xs : List Int) : (liL p xs).length ≤ xs.length := by unfold liL; rw [List.length_map]; exact List.length_filter_le _ _
theorem woL_yes {p x : Int} {xs : List Int} {k : Nat} (hk : k < xs.length) (hx : xs.getD k 0 = x) (h : hasB x p = false) : woL p (xs.take (k + 1)) = woL p (xs.take k) ++ [x] := filt_yes hk hx _ (by simp [h])
theorem woL_no {p x : Int} {xs : List Int} {k : Nat} (hk : k < xs.length) (hx : xs.getD k 0 = x) (h : hasB x p = true) : woL p (xs.take (k + 1)) = woL p (xs.take k) := filt_no hk hx _ (by simp [h])
theorem liL_yes {p x : Int} {xs : List Int} {k : Nat} (hk : k < xs.length) (hx : xs.getD k 0 = x) (h : hasB x p = true) : liL p (xs.take (k + 1)) = liL p (xs.take k) ++ [lessI x p] := by unfold liL; rw [filt_yes hk hx (fun x => hasB x p) h, List.map_append]; rfl
theorem liL_no {p x : Int} {xs : List Int} {k : Nat} (hk : k < xs.length) (hx : xs.getD k 0 = x) (h : hasB x p = false) : liL p (xs.take (k + 1)) = liL p (xs.take k) := by unfold liL; rw [filt_no hk hx (fun x => hasB x p) h]

end Go.Proofs.Ytofiibmpindajaa
