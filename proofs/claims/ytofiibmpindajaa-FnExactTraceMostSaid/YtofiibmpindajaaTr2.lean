/- TraceMost: all sets of at most so many points. -/
import Derived.Test.YtofiibmpindajaaTr1
namespace Go.Proofs.Ytofiibmpindajaa
open Go.ChangeShapes Go.WideShapes Go.ChangeAt Go.RowKit Go.Proofs

theorem most_clo (d : Int) (Bk : Nat) (xs : List Int) (w : World) (hB : Bk < w.heap.size) (hc : w.cell? ⟨Bk, 0, none⟩ = some (.int .i64 d)) (hx : ∀ z ∈ xs, 0 ≤ z ∧ z < 256) :
    PredV 41 #[] #[.pointer (some ⟨Bk, 0, none⟩)] (fun x => decide (cntI x ≤ d)) xs w := fun W x hm hb => by
  have hcW : W.cell? ⟨Bk, 0, none⟩ = some (.int .i64 d) := (hb.cell (p := ⟨Bk, 0, none⟩) hB).trans hc
  obtain ⟨x1, x2⟩ := hx x hm
  have hs := fun w => (set_size x x1 x2 w).mono (fun _ _ h => (⟨h.1, h.2.symm⟩ : _ ∧ _))
  show Calls Try.prog 41 #[.int .u64 x, .pointer (some ⟨Bk, 0, none⟩)] W fun e w' => e = .returned (.bool (decide (cntI x ≤ d))) ∧ Below W.heap.size W w'
  obtain ⟨r, hr⟩ : ∃ r, cntI x = r := ⟨_, rfl⟩
  rw [hr] at hs ⊢
  replace hs := Lib.hid hs
  replace hr := Lib.hid hr
  replace hm := Lib.hid hm
  clear hx hc hb
  go_enter Try.func41, Try.ntmps41
  go_wp2_with fail
  go_quiet ((go_at_call 42; exact Calls.quiet_of_same (hs.out _)))
  go_wp2_with fail
  go_ret
  exact ⟨rfl, below_drewN (Below.refl _ _) _⟩
set_option maxHeartbeats 2000000 in
theorem im_TraceMost (n k : Int) (w : World) :
    Calls Try.prog 16 #[.int .i64 n, .int .i64 k] w (ListPost (ifL (dimB n k) (sortL ((sortL (upI (2 ^ n.toNat))).filter (fun x => decide (cntI x ≤ k))))) (dimB n k) w) := by
  have hmf := mkfunc
  have hdi := fun W => dim_in n k W
  rcases dimB_cases n k with hb | hb
  · obtain ⟨n1, n2, d1, d2⟩ := dimB_yes hb
    rw [hb] at hdi
    replace hdi := Lib.hid hdi
    rw [hb]
    have hall := all_sets n n1 n2
    have husz := upI_lt n1 n2
    obtain ⟨us, hus⟩ : ∃ us, sortL (upI (2 ^ n.toNat)) = us := ⟨_, rfl⟩
    have huA : us.length ≤ 256 := asc_len256 (hus ▸ asc_sortL _) (fun z hz => setB_lt (husz z (hus ▸ hz)))
    rw [hus] at hall husz ⊢
    have hk := fun (W : World) (lv : Value) (h0 : w.heap.size < W.heap.size) (hc : W.cell? ⟨w.heap.size, 0, none⟩ = some (.int .i64 k)) (hx : SRow W W.heap.size lv us) => kept_any 41 (enters_of Try.func41 (by kernel_rfl) rfl) #[] #[.pointer (some ⟨w.heap.size, 0, none⟩)] (fun x => decide (cntI x ≤ k)) lv us _ W hx (Nat.le_refl _) (by omega) (fun z hz => setB_lt (husz z hz)) (most_clo k w.heap.size us W h0 hc (fun z hz => setB_lt (husz z hz)))
    obtain ⟨ys, hys⟩ : ∃ ys, sortL (us.filter (fun x => decide (cntI x ≤ k))) = ys := ⟨_, rfl⟩
    have hyz : ∀ z ∈ ys, 0 ≤ z ∧ z < 256 := fun z hz => setB_lt (husz z (List.mem_filter.1 (mem_sortL.1 (hys ▸ hz))).1)
    have hyl : ys.length ≤ 256 := asc_len256 (hys ▸ asc_sortL _) hyz
    rw [hys] at hk ⊢
    have hbb := (Below.refl w.heap.size w).alloc (Nat.le_refl _) (.cells #[.int .i64 k] 3)
    have hci := new_cell_int w k
    replace hall := Lib.hid hall
    replace hk := Lib.hid hk
    replace hus := Lib.hid hus
    replace hys := Lib.hid hys
    replace hyz := Lib.hid hyz
    replace husz := Lib.hid husz
    replace hb := Lib.hid hb
    replace hbb := Lib.hid hbb
    replace hci := Lib.hid hci
    go_enter Try.func16, Try.ntmps16
    go_wp2_with (go_at_call 33; refine (hdi.out _).mono ?_; rintro e w' ⟨rfl, rfl⟩)
    refine (hall.out _).mono ?_
    rintro e w2 ⟨v2, rfl, hS2, hb2⟩
    obtain ⟨a2, c2, rfl⟩ := hS2.form
    rw [World.size_alloc] at hS2 hb2
    have hz2 := hb2.size
    rw [World.size_alloc] at hz2
    have hk2 := Lib.hid (hk.out w2 _ (by omega) ((hb2.cell (p := ⟨w.heap.size, 0, none⟩) (by simp)).trans hci.out) hS2.row)
    replace hb2 := Lib.hid (hbb.out.trans (hb2.mono (by omega)))
    clear hS2
    go_wp2_with fail
    refine hk2.out.mono ?_
    rintro e w3 ⟨v3, rfl, hS3, hb3⟩
    obtain ⟨a3, c3, rfl⟩ := hS3.form
    have hz3 := hb3.size
    have hnum := Lib.hid (numbers_at _ _ _ _ hS3.row (Nat.le_refl _) (by omega) hyz.out)
    replace hb3 := Lib.hid (hb2.out.trans (hb3.mono (by omega)))
    clear hS3 hk2 hk hall
    go_wp2_with fail
    refine hnum.out.mono ?_
    rintro e w5 ⟨t, rfl, hO, hb5⟩
    obtain ⟨ua, uc, rfl, _⟩ := id hO
    replace hb5 := Lib.hid (hb3.out.trans (hb5.mono (by omega)))
    replace hO := Lib.hid (hO.mono (show w.heap.size ≤ w3.heap.size by omega) (Nat.le_refl _))
    go_wp2_with fail
    go_ret2
    exact ⟨_, rfl, hO.out, hb5.out⟩
  · rw [hb] at hdi
    replace hdi := Lib.hid hdi
    rw [hb]
    replace hb := Lib.hid hb
    go_enter Try.func16, Try.ntmps16
    go_wp2_with (go_at_call 33; refine (hdi.out _).mono ?_; rintro e w' ⟨rfl, rfl⟩)
    go_ret2
    exact ⟨_, rfl, own_empty _ _ _ _ _, ((Below.refl _ _).alloc (Nat.le_refl _) _).alloc (by simp) _⟩
theorem most_eq (N : Nat) (d : Int) : mkL (fun j : Nat => decide (cntI (j : Nat) ≤ d)) N = sortL ((sortL (upI N)).filter (fun x => decide (cntI x ≤ d))) := by
  rw [up_sort, sortL_asc (asc_filter (asc_upI N) _)]
  unfold mkL
  exact List.filter_congr fun z hz => by show decide (cntI ((z.toNat : Nat) : Int) ≤ d) = _; rw [Int.toNat_of_nonneg (mem_upI.1 hz).1]
set_option maxHeartbeats 2000000 in
theorem sp_TraceMost (n d : Int) (w : World) :
    Calls Try.prog 21 #[.int .i64 n, .int .i64 d] w (ListPost (ifL (dimB n d) (sortL ((sortL (upI (2 ^ n.toNat))).filter (fun x => decide (cntI x ≤ d))))) (dimB n d) w) := by
  have hpp := l1pts n
  have hin := l6in d (-1) n
  rcases (by cases ptsB n <;> simp : ptsB n = true ∨ ptsB n = false) with hp | hp
  · obtain ⟨n1, n2⟩ := ptsB_yes hp
    rw [hp] at hpp
    replace hpp := Lib.hid hpp
    rcases (by cases inB d (-1) n <;> simp : inB d (-1) n = true ∨ inB d (-1) n = false) with hk | hk
    · rw [hk] at hin
      replace hin := Lib.hid hin
      have hb : dimB n d = true := by unfold dimB; rw [hp, hk]; rfl
      rw [hb]
      obtain ⟨p1, p2, p3⟩ := pow_nat n1 n2
      have hme := most_eq (2 ^ n.toNat) d
      obtain ⟨N, hN⟩ : ∃ N : Nat, 2 ^ n.toNat = N := ⟨_, rfl⟩
      have hNi : (2 : Int) ^ n.toNat = (N : Nat) := by rw [← hN]; simp
      have hn0 : (0 : Int) ≤ n := by omega
      have hn64 : n < 64 := by omega
      rw [hN] at p1 p2 p3 hme
      rw [hN, ← hme]
      obtain ⟨P, hP⟩ : ∃ P : Nat → Bool, (fun j : Nat => decide (cntI (j : Nat) ≤ d)) = P := ⟨_, rfl⟩
      have hPk : ∀ k : Nat, decide (cntI (k : Nat) ≤ d) = P k := fun k => by rw [← hP]
      rw [hP]
      clear hme
      replace hP := Lib.hid hP
      replace hPk := Lib.hid hPk
      replace hN := Lib.hid hN
      replace hNi := Lib.hid hNi
      replace hb := Lib.hid hb
      replace hk := Lib.hid hk
      replace hp := Lib.hid hp
      show Calls Try.prog 21 #[.int .i64 n, .int .i64 d] w (ListPost (mkL P N) true w)
      go_enter Try.func21, Try.ntmps21
      go_wp2_with (first | (go_at_call 35; refine (hpp.out _).mono ?_; rintro e w' ⟨rfl, rfl⟩) | (go_at_call 36; refine (hin.out _).mono ?_; rintro e w' ⟨rfl, rfl⟩))
      go_loopw [6, 7] (fun v s wr => ∃ k : Nat, k ≤ N ∧ s = .int .i64 k ∧ Hid (OwnL wr w.heap.size v (mkL P k)) ∧ Hid (Below w.heap.size w wr)) (fun _ s _ => N - (intOf s).toNat)
      case atStart => exact ⟨0, by omega, rfl, Lib.hid (OwnL.lit w (Nat.le_refl _)), Lib.hid ((Below.refl _ _).alloc (Nat.le_refl _) _)⟩
      case round =>
        obtain ⟨k, hk, rfl, hown, hbel⟩ := hrel
        have hsz := hbel.out.size
        by_cases hlt : k < N
        · have k1 : (0 : Int) ≤ (k : Int) := by omega
          have k2 : (k : Int) < (N : Nat) := by omega
          have hsz1 := l1size (k : Int) (by omega) (by omega); have hpk := hPk.out k; obtain ⟨r, hr⟩ : ∃ r, cntI (k : Nat) = r := ⟨_, rfl⟩; rw [hr] at hsz1 hpk; replace hr := Lib.hid hr; replace hsz1 := Lib.hid hsz1
          have hlen : (mkL P k).length ≤ 1073741824 := by have := mkL_len P k; omega
          have hsu := mkL_succ P k
          rcases (by cases P k <;> simp : P k = true ∨ P k = false) with hp | hp
          · have hs : mkL P k ++ [(k : Int)] = mkL P (k + 1) := by rw [hsu, if_pos hp]
            obtain ⟨ys, hys⟩ : ∃ ys, mkL P k = ys := ⟨_, rfl⟩
            rw [hys] at hown hs hlen
            obtain ⟨a', c', rfl⟩ := hown.out.form
            have hB1 : w.heap.size ≤ (wr.alloc (.cells #[.int .i64 (k : Int)] 3)).heap.size := by rw [World.size_alloc]; omega
            clear hsu
            rw [hp] at hpk
            have hpk2 := of_decide_eq_true hpk
            replace hpk := Lib.hid hpk
            replace hp := Lib.hid hp
            replace hys := Lib.hid hys
            replace hs := Lib.hid hs
            go_wp2_with (first | (go_at_call 43; refine (hsz1.out _).mono ?_; rintro e w' ⟨rfl, rfl⟩) | (at_builtin; refine app_int rfl _ _ rfl w.heap.size _ ys rfl (hown.out.alloc _) (k : Int) wr.heap.size rfl (cell_new _ _ _) hlen hB1 ?_; intro v' w1 hown1 hb1))
            rw [hs.out] at hown1
            replace hown1 := Lib.hid hown1
            have hb2 := Lib.hid ((hbel.out.alloc hsz _).trans hb1)
            go_roundw
            case rel => exact ⟨k + 1, by omega, by go_num, hown1, hb2⟩
            case measure => simp [intOf]; omega
          · have hs : mkL P k = mkL P (k + 1) := by rw [hsu, if_neg (by simp [hp]), List.append_nil]
            rw [hs] at hown
            obtain ⟨ys, hys⟩ : ∃ ys, mkL P (k + 1) = ys := ⟨_, rfl⟩
            rw [hys] at hown
            obtain ⟨a', c', rfl⟩ := hown.out.form
            clear hsu hs hlen
            rw [hp] at hpk
            have hpk2 := of_decide_eq_false hpk
            replace hpk := Lib.hid hpk
            replace hp := Lib.hid hp
            replace hys := Lib.hid hys
            go_wp2_with ((go_at_call 43; refine (hsz1.out _).mono ?_; rintro e w' ⟨rfl, rfl⟩))
            go_roundw
            case rel => exact ⟨k + 1, by omega, by go_num, by rw [hys.out]; exact hown, hbel⟩
            case measure => simp [intOf]; omega
        · obtain rfl : k = N := by omega
          obtain ⟨a', c', rfl⟩ := hown.out.form
          have hown2 := Lib.hid hown.out.own
          clear hown
          go_wp2_with fail
          go_ret2
          exact ⟨_, rfl, hown2.out, hbel.out⟩
    · rw [hk] at hin
      replace hin := Lib.hid hin
      have hb : dimB n d = false := by unfold dimB; rw [hp, hk]; rfl
      rw [hb]
      replace hb := Lib.hid hb
      replace hk := Lib.hid hk
      replace hp := Lib.hid hp
      go_enter Try.func21, Try.ntmps21
      go_wp2_with (first | (go_at_call 35; refine (hpp.out _).mono ?_; rintro e w' ⟨rfl, rfl⟩) | (go_at_call 36; refine (hin.out _).mono ?_; rintro e w' ⟨rfl, rfl⟩))
      go_ret2
      exact ⟨_, rfl, own_empty _ _ _ _ _, (Below.refl _ _).alloc (Nat.le_refl _) _⟩
  · rw [hp] at hpp
    replace hpp := Lib.hid hpp
    have hb : dimB n d = false := by unfold dimB; rw [hp]; rfl
    rw [hb]
    replace hb := Lib.hid hb
    replace hp := Lib.hid hp
    go_enter Try.func21, Try.ntmps21
    go_wp2_with (go_at_call 35; refine (hpp.out _).mono ?_; rintro e w' ⟨rfl, rfl⟩)
    go_ret2
    exact ⟨_, rfl, own_empty _ _ _ _ _, (Below.refl _ _).alloc (Nat.le_refl _) _⟩
theorem law_TraceMost_at (n k : Int) (L : List Int) (b : Bool) (hL : L.length ≤ 1000000) (P0 : World → Prop) (hP : ∀ W W', P0 W → Below W.heap.size W W' → P0 W')
    (hi : ∀ W, P0 W → Calls Try.prog 16 #[.int .i64 n, .int .i64 k] W fun e w' => ∃ v, e = .returned (.tuple #[v, .bool b]) ∧ Own w' W.heap.size w'.heap.size v L ∧ Below W.heap.size W w')
    (hs : ∀ W, P0 W → Calls Try.prog 21 #[.int .i64 n, .int .i64 k] W fun e w' => ∃ v, e = .returned (.tuple #[v, .bool b]) ∧ Own w' W.heap.size w'.heap.size v L ∧ Below W.heap.size W w')
    (w : World) (h0 : P0 w) : Calls Try.prog 7 #[.int .i64 n, .int .i64 k] w fun e w' => e = .returned (.bool true) ∧ Below w.heap.size w w' := by
  have hi := Lib.hid hi
  have hs := Lib.hid hs
  have h0 := Lib.hid h0
  have hP := Lib.hid hP
  have hsame : sameB L L = true := decide_eq_true rfl
  have hbb : (b != b) = false := by simp
  go_enter Try.func7, Try.ntmps7
  go_wp2_with fail
  refine (hs.out _ h0.out).mono ?_
  rintro e w1 ⟨v0, rfl, hO0, hb1⟩
  obtain ⟨a0, c0, rfl, _⟩ := id hO0
  have hO0 := Lib.hid hO0
  have h1 := Lib.hid (hP.out _ _ h0.out hb1)
  go_wp2_with fail
  refine (hi.out _ h1.out).mono ?_
  rintro e w2 ⟨v1, rfl, hO1, hb2⟩
  obtain ⟨a1, c1, rfl, _⟩ := id hO1
  have hO1 := Lib.hid hO1
  have hR0 := Lib.hid ((hO0.out.row.below hb2 (Nat.le_refl _)).mono hb2.size)
  go_wp2_with fail
  refine (eq_ints _ _ L L _ _ hO1.out.row hR0.out (by omega) (by omega)).mono ?_
  rintro e w' ⟨rfl, n1, rfl⟩
  go_wp2_with fail
  refine (mark_ints _ L 1 _ _ _ (hO1.out.drewN n1) (by omega) (by omega) (by omega)).mono ?_
  rintro e w3 ⟨rfl, hO3, hb3⟩
  have hO3 := Lib.hid hO3
  go_wp2_with fail
  have hlen : (marks 1 L.length).length ≤ 1000000 := by rw [marks_len]; exact hL
  refine (held_ints _ (marks 1 L.length) 1 _ _ (by have := hO3.out.row; exact this) (by omega) (by omega) (by omega)).mono ?_
  rintro e w' ⟨rfl, rfl⟩
  rw [heldV_marks]
  have hq : (0 : Int) ≤ 1 + (L.length : Nat) := by omega
  have hqq : ((1 : Int) + (L.length : Nat) != 1 + (L.length : Nat)) = false := by simp
  have s1 := hb1.size
  have s2 := hb2.size
  have s3 : w2.heap.size ≤ w3.heap.size := hb3.size
  have hb123 := Lib.hid ((hb1.trans (hb2.mono s1)).trans ((below_drewN (Below.refl _ w2) n1).trans (hb3.mono s1)))
  have h3 := Lib.hid (hP.out _ _ h0.out hb123.out)
  go_wp2_with fail
  refine (hi.out _ h3.out).mono ?_
  rintro e w4 ⟨v4, rfl, hO4, hb4⟩
  obtain ⟨a4, c4, rfl, _⟩ := id hO4
  have hO4 := Lib.hid hO4
  have s4 := hb4.size
  have hR4 := Lib.hid ((((hO0.out.row.below hb2 (Nat.le_refl _)).drewN n1).below hb3 (Nat.le_refl _)).below hb4 (by omega))
  have hO5 := Lib.hid (hO3.out.below hb4 s3)
  go_wp2_with fail
  refine (eq_ints _ _ L L w4.heap.size _ hO4.out.row (hR4.out.mono (by omega)) (by omega) (by omega)).mono ?_
  rintro e w' ⟨rfl, n5, rfl⟩
  go_wp2_with fail
  refine (held_ints _ (marks 1 L.length) 1 _ _ ((hO5.out.drewN n5).row) (by omega) (by omega) (by omega)).mono ?_
  rintro e w' ⟨rfl, rfl⟩
  rw [heldV_marks]
  go_wp2_with fail
  go_ret
  exact ⟨rfl, below_drewN (hb123.out.trans (hb4.mono (by omega))) n5⟩
theorem Law_TraceMost (n k : Int) (w : World) : Calls Try.prog 7 #[.int .i64 n, .int .i64 k] w fun e w' => e = .returned (.bool true) ∧ Below w.heap.size w w' :=
  law_TraceMost_at n k _ _ (ifL_len fun hb => sort_len fun z hz => by
    obtain ⟨n1, n2, _, _⟩ := dimB_yes hb
    exact setB_lt (upI_lt n1 n2 z (List.mem_filter.1 hz).1)) (fun _ => True) (fun _ _ _ _ => trivial) (fun W _ => im_TraceMost n k W) (fun W _ => sp_TraceMost n k W) w trivial
end Go.Proofs.Ytofiibmpindajaa
