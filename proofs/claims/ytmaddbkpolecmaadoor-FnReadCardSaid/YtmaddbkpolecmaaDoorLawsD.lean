/- The exact law of sets of a rank. -/
import Derived.Test.YtmaddbkpolecmaaDoorLawsB
import Derived.Test.YtmaddbkpolecmaaDoorBase2
namespace Go.Proofs.YtmaddbkpolecmaaDoor
open Go.ChangeShapes Go.WideShapes Go.ChangeAt Go.RowKit

theorem ret_ibb {k : IntKind} {a b : Int} {c d : Bool} (h : a = b) (h2 : c = d) : Ending.returned (.tuple #[.int k a, .bool c]) = .returned (.tuple #[.int k b, .bool d]) := by rw [h, h2]
theorem l1rank (s : Int) (h1 : 0 ≤ s) (h2 : s < 256) (w : World) : Calls Tryd.prog 42 #[.int .i64 s] w fun e w' => e = .returned (.int .i64 (rankI s)) ∧ w = w' := by
  have hst := Lib.hid (rank_steps h1 h2)
  have hr : Hid (rankTo s 8 = rankI s) := Lib.hid rfl
  go_enter Tryd.func42, Tryd.ntmps42
  go_wp2
  go_loop [3, 4, 5] (fun n k i => ∃ j : Nat, j ≤ 8 ∧ i = .int .i64 j ∧ k = .int .i64 (cntTo s j : Nat) ∧ n = .int .i64 (rankTo s j)) (fun _ _ i => 8 - (intOf i).toNat)
  case atStart => exact ⟨0, by omega, rfl, rfl, rfl⟩
  case round =>
    obtain ⟨j, hj, rfl, rfl, rfl⟩ := hrel
    have hc := cnt_le s j
    obtain ⟨r1, r2⟩ := hst.out j (by omega)
    by_cases hlt : j < 8
    · have hb := chI_bounds (n := (j : Nat)) (k := (cntTo s j + 1 : Nat)) (by omega) (by omega) (by omega) (by omega)
      obtain ⟨b1, b2⟩ := hb
      simp only [Int.natCast_add, Int.cast_ofNat_Int] at b1 b2
      rcases (by cases hasB s (j : Nat) <;> simp : hasB s (j : Nat) = true ∨ hasB s (j : Nat) = false) with hi | hi
      · have e1 := Lib.hid (show cntTo s (j + 1) = cntTo s j + 1 by simp [cntTo, hi])
        have e2 := Lib.hid (show rankTo s (j + 1) = rankTo s j + chI (j : Nat) ((cntTo s j : Nat) + 1) by simp [rankTo, hi])
        go_wp2_with (first | (go_at_call 39; refine (l1has _ _ h1 h2 (by omega) (by omega) _).mono ?_; rintro e w' ⟨rfl, rfl⟩) | (go_at_call 56; refine (sp_choose_in _ _ (by omega) (by omega) (by omega) (by omega) _).mono ?_; rintro e w' ⟨rfl, rfl⟩) | go_in)
        go_round
        case rel => exact ⟨j + 1, by omega, by go_num, by rw [e1.out]; go_num, by rw [e2.out]⟩
        case measure => simp [intOf]; omega
      · have e1 := Lib.hid (show cntTo s (j + 1) = cntTo s j by simp [cntTo, hi])
        have e2 := Lib.hid (show rankTo s (j + 1) = rankTo s j by simp [rankTo, hi])
        go_wp2_with (first | (go_at_call 39; refine (l1has _ _ h1 h2 (by omega) (by omega) _).mono ?_; rintro e w' ⟨rfl, rfl⟩) | go_in)
        go_round
        case rel => exact ⟨j + 1, by omega, by go_num, by rw [e1.out], by rw [e2.out]⟩
        case measure => simp [intOf]; omega
    · obtain rfl : j = 8 := by omega
      go_wp2
      go_ret
      exact ⟨ret_int hr.out, rfl⟩

/-- the greatest top from k - 1 on. -/
def topOf (m k : Int) : Int := topI m k (k - 1) 42
theorem topOf_bd {m k : Int} (hk : 1 ≤ k) (hk2 : k ≤ 8) : 0 ≤ topOf m k ∧ topOf m k ≤ 41 := by
  have := top_bd m k 42 (k - 1)
  unfold topOf
  omega
theorem top_of (m k : Int) (hk : 1 ≤ k) (hk2 : k ≤ 8) (w : World) : Calls Tryd.prog 57 #[.int .i64 m, .int .i64 k] w fun e w' => e = .returned (.int .i64 (topOf m k)) ∧ w = w' := by
  have hT : Hid (topI m k (k - 1) 42 = topOf m k) := Lib.hid rfl
  go_enter Tryd.func57, Tryd.ntmps57
  go_wp2
  go_loop [5] (fun t => ∃ (x : Int) (f : Nat), t = .int .i64 x ∧ k - 1 ≤ x ∧ x ≤ 41 ∧ x + f = k + 41 ∧ Hid (topI m k x f = topOf m k)) (fun t => (41 - intOf t).toNat)
  case atStart => exact ⟨k - 1, 42, rfl, by omega, by omega, by omega, hT⟩
  case round =>
    obtain ⟨x, f, rfl, x1, x2, x3, hx⟩ := hrel
    obtain ⟨g, rfl⟩ : ∃ g, f = g + 1 := ⟨f - 1, by omega⟩
    by_cases ha : x ≤ 40
    · by_cases hb : chI (x + 1) k ≤ m
      · have hy := Lib.hid (show topI m k (x + 1) g = topOf m k by have := hx.out; unfold topI at this; rwa [if_pos ⟨ha, hb⟩] at this)
        clear hx
        go_wp2_with (first | (go_at_call 44; refine (choose_in _ _ (by omega) (by omega) (by omega) (by omega) _).mono ?_; rintro e w' ⟨rfl, rfl⟩) | go_in)
        go_round
        case rel => exact ⟨x + 1, g, rfl, by omega, by omega, by omega, hy⟩
        case measure => simp [intOf]; omega
      · have hy := Lib.hid (show x = topOf m k by have := hx.out; unfold topI at this; rwa [if_neg (fun c => hb c.2)] at this)
        clear hx
        go_wp2_with (first | (go_at_call 44; refine (choose_in _ _ (by omega) (by omega) (by omega) (by omega) _).mono ?_; rintro e w' ⟨rfl, rfl⟩) | go_in)
        go_ret
        exact ⟨ret_int hy.out, rfl⟩
    · have hy := Lib.hid (show x = topOf m k by have := hx.out; unfold topI at this; rwa [if_neg (fun c => ha c.1)] at this)
      clear hx
      go_wp2_with fail
      go_ret
      exact ⟨ret_int hy.out, rfl⟩

theorem unranked_in (k : Nat) (r : Int) (hk : k ≤ 8) (ho : unrOk 0 r k = true) (w : World) : Calls Tryd.prog 45 #[.int .i64 (k : Nat), .int .i64 r] w fun e w' => e = .returned (.int .u64 (unrI 0 r k)) ∧ w = w' := by
  have ho := Lib.hid ho
  obtain ⟨U, hU⟩ : ∃ U, unrI 0 r k = U := ⟨_, rfl⟩
  rw [hU]
  have hU := Lib.hid hU
  go_enter Tryd.func45, Tryd.ntmps45
  go_wp2
  go_loop [1, 5, 6, 7] (fun r s j _ => ∃ (jj : Nat) (ss rr : Int), jj ≤ 8 ∧ j = .int .i64 jj ∧ s = .int .u64 ss ∧ r = .int .i64 rr ∧ Hid (unrI ss rr jj = U) ∧ Hid (unrOk ss rr jj = true)) (fun _ _ j _ => (intOf j).toNat)
  case atStart => exact ⟨k, 0, r, hk, rfl, rfl, rfl, hU, ho⟩
  case round =>
    obtain ⟨jj, ss, rr, hj, rfl, rfl, rfl, hu, hok⟩ := hrel
    cases jj with
    | zero =>
      have hz := Lib.hid (show ss = U from hu.out)
      clear hu
      go_wp2
      go_ret
      exact ⟨ret_int hz.out, rfl⟩
    | succ j =>
      have hok' := hok.out
      simp only [unrOk, Bool.and_eq_true, decide_eq_true_eq] at hok'
      obtain ⟨⟨s1, s2, r1, r2, t1, t2, t3⟩, hn⟩ := hok'
      have eT : topI rr (j + 1 : Nat) j 42 = topOf rr ((j : Int) + 1) := by
        unfold topOf; simp
      have hu' := hu.out
      simp only [unrI] at hu'
      rw [eT] at t1 t2 t3 hn hu'
      obtain ⟨T, hT⟩ : ∃ T, Hid (topOf rr ((j : Int) + 1) = T) := ⟨_, Lib.hid rfl⟩
      rw [hT.out] at t1 t2 t3 hn hu'
      have c := chI_bounds (n := T) (k := (j : Int) + 1) (by omega) (by omega) (by omega) (by omega)
      obtain ⟨c1, c2⟩ := c
      have hn := Lib.hid hn
      have hu' := Lib.hid hu'
      clear hu hok eT
      have ht := Lib.hid (fun W => top_of rr ((j : Int) + 1) (by omega) (by omega) W)
      rw [hT.out] at ht
      simp only [Int.natCast_add, Int.cast_ofNat_Int] at t3
      clear hT
      go_wp2_with (first | (go_at_call 57; refine (ht.out _).mono ?_; rintro e w' ⟨rfl, rfl⟩) | (go_at_call 38; refine (set_with _ _ s1 s2 t1 t2 _).mono ?_; rintro e w' ⟨rfl, rfl⟩) | (go_at_call 44; refine (choose_in _ _ (by omega) (by omega) (by omega) (by omega) _).mono ?_; rintro e w' ⟨rfl, rfl⟩) | go_in)
      go_round
      case rel => exact ⟨j, _, _, by omega, by go_num, rfl, rfl, hu', hn⟩
      case measure => simp [intOf]

/-- there is a set of the size and the rank. -/
def unrankOk (n k r : Int) : Prop := 1 ≤ n ∧ n ≤ 8 ∧ 0 ≤ k ∧ k ≤ n ∧ 0 ≤ r ∧ r < chI n k
theorem unrankOk_facts {n k r : Int} (h : unrankOk n k r) : unrOk 0 r k.toNat = true ∧ 0 ≤ unrI 0 r k.toNat ∧ unrI 0 r k.toNat < 2 ^ n.toNat ∧ cntI (unrI 0 r k.toNat) = k ∧ rankI (unrI 0 r k.toNat) = r := by
  obtain ⟨n1, n2, k1, k2, r1, r2⟩ := h
  have e1 : ((n.toNat : Nat) : Int) = n := Int.toNat_of_nonneg (by omega)
  have e2 : ((k.toNat : Nat) : Int) = k := Int.toNat_of_nonneg (by omega)
  have e3 : ((r.toNat : Nat) : Int) = r := Int.toNat_of_nonneg (by omega)
  have c := ch_small ⟨n.toNat, by omega⟩ ⟨k.toNat, by omega⟩
  simp only [e1, e2] at c
  have a := unr_ok ⟨n.toNat, by omega⟩ ⟨k.toNat, by omega⟩ ⟨r.toNat, by omega⟩ (by simp; omega)
  have b := unr_at ⟨n.toNat, by omega⟩ ⟨k.toNat, by omega⟩ ⟨r.toNat, by omega⟩ (by simp; omega)
  simp only [e1, e2, e3] at a b
  obtain ⟨b1, b2, b3, b4⟩ := b r2
  refine ⟨a r2, b1, b2, ?_, b4⟩
  unfold cntI
  rw [b3]; exact e2
theorem rank_only {s : Int} (h1 : 0 ≤ s) (h2 : s < 256) : s = unrI 0 (rankI s) (cntI s).toNat := by
  have := all256 (P := fun s => unrI 0 (rankI s) (cntTo s 8) = s) (fun s => unr_back s) h1 h2
  simpa [cntI] using this.symm
theorem rank_fits {n s : Int} (n1 : 1 ≤ n) (n2 : n ≤ 8) (h1 : 0 ≤ s) (h2 : s < 2 ^ n.toNat) : 0 ≤ rankI s ∧ rankI s < chI n (cntI s) := by
  have p := pow_le256 n1 n2
  have e1 : ((n.toNat : Nat) : Int) = n := Int.toNat_of_nonneg (by omega)
  have e2 : ((s.toNat : Nat) : Int) = s := Int.toNat_of_nonneg h1
  have h := rank_lt ⟨n.toNat, by omega⟩ ⟨s.toNat, by omega⟩ (by
    have : ((s.toNat : Nat) : Int) < ((2 ^ n.toNat : Nat) : Int) := by rw [e2]; simpa using h2
    simpa using Int.ofNat_lt.1 this)
  simpa only [e1, e2] using h

theorem im_unrank_yes (n k r : Int) (h : unrankOk n k r) (w : World) : Calls Tryd.prog 23 #[.int .i64 n, .int .i64 k, .int .i64 r] w fun e w' => e = .returned (.tuple #[.int .i64 (unrI 0 r k.toNat), .bool true]) ∧ w = w' := by
  obtain ⟨f1, f2, f3, _, _⟩ := unrankOk_facts h
  obtain ⟨n1, n2, k1, k2, r1, r2⟩ := h
  have p := pow_le256 n1 n2
  have hp := ptsB_mk n1 n2
  have e2 : ((k.toNat : Nat) : Int) = k := Int.toNat_of_nonneg (by omega)
  have hu := fun W => unranked_in k.toNat r (by omega) f1 W
  rw [e2] at hu
  have hu := Lib.hid hu
  clear f1 e2
  have f4 : unrI 0 r k.toNat < 256 := by omega
  go_enter Tryd.func23, Tryd.ntmps23
  go_wp2_with (first | (go_at_call 32; refine (pts_in _ _).mono ?_; rintro e w' ⟨rfl, rfl⟩) | (go_at_call 44; refine (choose_in _ _ (by omega) (by omega) (by omega) (by omega) _).mono ?_; rintro e w' ⟨rfl, rfl⟩) | (go_at_call 45; refine (hu.out _).mono ?_; rintro e w' ⟨rfl, rfl⟩) | go_in)
  go_ret2
  exact ⟨rfl, rfl⟩
theorem im_unrank_no (n k r : Int) (h : ¬ unrankOk n k r) (w : World) : Calls Tryd.prog 23 #[.int .i64 n, .int .i64 k, .int .i64 r] w fun e w' => e = .returned (.tuple #[.int .i64 0, .bool false]) ∧ w = w' := by
  rcases (by cases ptsB n <;> simp : ptsB n = true ∨ ptsB n = false) with hp | hp
  · obtain ⟨n1, n2⟩ := ptsB_yes hp
    by_cases k1 : 0 ≤ k
    · by_cases k2 : k ≤ n
      · by_cases r1 : 0 ≤ r
        · have r2 : ¬ r < chI n k := fun r2 => h ⟨n1, n2, k1, k2, r1, r2⟩
          clear h
          go_enter Tryd.func23, Tryd.ntmps23
          go_wp2_with (first | (go_at_call 32; refine (pts_in _ _).mono ?_; rintro e w' ⟨rfl, rfl⟩) | (go_at_call 44; refine (choose_in _ _ (by omega) (by omega) (by omega) (by omega) _).mono ?_; rintro e w' ⟨rfl, rfl⟩) | go_in)
          go_ret2
          exact ⟨rfl, rfl⟩
        · clear h
          go_enter Tryd.func23, Tryd.ntmps23
          go_wp2_with (first | (go_at_call 32; refine (pts_in _ _).mono ?_; rintro e w' ⟨rfl, rfl⟩) | go_in)
          go_ret2
          exact ⟨rfl, rfl⟩
      · clear h
        go_enter Tryd.func23, Tryd.ntmps23
        go_wp2_with (first | (go_at_call 32; refine (pts_in _ _).mono ?_; rintro e w' ⟨rfl, rfl⟩) | go_in)
        go_ret2
        exact ⟨rfl, rfl⟩
    · clear h
      go_enter Tryd.func23, Tryd.ntmps23
      go_wp2_with (first | (go_at_call 32; refine (pts_in _ _).mono ?_; rintro e w' ⟨rfl, rfl⟩) | go_in)
      go_ret2
      exact ⟨rfl, rfl⟩
  · clear h
    go_enter Tryd.func23, Tryd.ntmps23
    go_wp2_with (first | (go_at_call 32; refine (pts_in _ _).mono ?_; rintro e w' ⟨rfl, rfl⟩) | go_in)
    go_ret2
    exact ⟨rfl, rfl⟩

/-- the model's search: what it finds. -/
theorem sp_unrank_pts (n k r : Int) (n1 : 1 ≤ n) (n2 : n ≤ 8) (k1 : 0 ≤ k) (k2 : k ≤ n) (V : Int) (B : Bool)
    (hit : ∀ s : Int, 0 ≤ s → s < 2 ^ n.toNat → cntI s = k → rankI s = r → V = s ∧ B = true)
    (miss : (∀ s : Int, 0 ≤ s → s < 2 ^ n.toNat → ¬ (cntI s = k ∧ rankI s = r)) → V = 0 ∧ B = false)
    (w : World) : Calls Tryd.prog 26 #[.int .i64 n, .int .i64 k, .int .i64 r] w fun e w' => e = .returned (.tuple #[.int .i64 V, .bool B]) ∧ w = w' := by
  have p := pow_le256 n1 n2
  have hp := ptsB_mk n1 n2
  have hq : inB k 0 n = true := decide_eq_true ⟨k1, k2⟩
  obtain ⟨M, hM, hw⟩ : ∃ M : Int, 2 ^ n.toNat = M ∧ wrap64 (2 ^ n.toNat) = M := ⟨_, rfl, by
    rcases n8 n1 n2 with rfl | rfl | rfl | rfl | rfl | rfl | rfl | rfl <;> decide +kernel⟩
  rw [hM] at p hit miss
  clear hM
  have hit := Lib.hid hit
  have miss := Lib.hid miss
  obtain ⟨p1, p2⟩ := p
  go_enter Tryd.func26, Tryd.ntmps26
  go_wp2_with (first | (go_at_call 34; refine (l1pts _ _).mono ?_; rintro e w' ⟨rfl, rfl⟩) | (go_at_call 35; refine (l6in _ _ _ _).mono ?_; rintro e w' ⟨rfl, rfl⟩) | go_in)
  go_loop [8] (fun i => ∃ j : Nat, i = .int .i64 j ∧ (j : Int) ≤ M ∧ Hid (∀ s : Int, 0 ≤ s → s < j → ¬ (cntI s = k ∧ rankI s = r))) (fun i => (M - intOf i).toNat)
  case atStart => exact ⟨0, rfl, by omega, Lib.hid (fun s a b => by omega)⟩
  case round =>
    obtain ⟨j, rfl, hj, hn⟩ := hrel
    by_cases hlt : (j : Int) < M
    · have hc := cnt_le j 8
      rcases (by by_cases x : cntI j = k <;> simp [x] : (cntI j == k) = true ∨ (cntI j == k) = false) with a | a
      · rcases (by by_cases x : rankI j = r <;> simp [x] : (rankI j == r) = true ∨ (rankI j == r) = false) with b | b
        · obtain ⟨v1, v2⟩ := hit.out j (by omega) hlt (by simpa using a) (by simpa using b)
          have hv := Lib.hid (show (j : Int) = V ∧ true = B from ⟨v1.symm, v2.symm⟩)
          clear v1 v2
          go_wp2_with (first | (go_at_call 49; refine (l1size _ (by omega) (by omega) _).mono ?_; rintro e w' ⟨rfl, rfl⟩) | (go_at_call 42; refine (l1rank _ (by omega) (by omega) _).mono ?_; rintro e w' ⟨rfl, rfl⟩) | go_in)
          go_ret2
          exact ⟨ret_ibb hv.out.1 hv.out.2, rfl⟩
        · have hn' := Lib.hid (show ∀ s : Int, 0 ≤ s → s < (j + 1 : Nat) → ¬ (cntI s = k ∧ rankI s = r) from fun s x y => by
            by_cases e : s = j
            · subst e; simp at b; exact fun z => b z.2
            · exact hn.out s x (by omega))
          clear hn
          go_wp2_with (first | (go_at_call 49; refine (l1size _ (by omega) (by omega) _).mono ?_; rintro e w' ⟨rfl, rfl⟩) | (go_at_call 42; refine (l1rank _ (by omega) (by omega) _).mono ?_; rintro e w' ⟨rfl, rfl⟩) | go_in)
          go_round
          case rel => exact ⟨j + 1, by go_num, by omega, hn'⟩
          case measure => simp [intOf]; omega
      · have hn' := Lib.hid (show ∀ s : Int, 0 ≤ s → s < (j + 1 : Nat) → ¬ (cntI s = k ∧ rankI s = r) from fun s x y => by
          by_cases e : s = j
          · subst e; simp at a; exact fun z => a z.1
          · exact hn.out s x (by omega))
        clear hn
        go_wp2_with (first | (go_at_call 49; refine (l1size _ (by omega) (by omega) _).mono ?_; rintro e w' ⟨rfl, rfl⟩) | go_in)
        go_round
        case rel => exact ⟨j + 1, by go_num, by omega, hn'⟩
        case measure => simp [intOf]; omega
    · have e : (j : Int) = M := by omega
      obtain ⟨v1, v2⟩ := miss.out (fun s x y => hn.out s x (by omega))
      have hv := Lib.hid (show (0 : Int) = V ∧ false = B from ⟨v1.symm, v2.symm⟩)
      clear v1 v2 e
      go_wp2_with fail
      go_ret2
      exact ⟨ret_ibb hv.out.1 hv.out.2, rfl⟩
theorem sp_unrank_yes (n k r : Int) (h : unrankOk n k r) (w : World) : Calls Tryd.prog 26 #[.int .i64 n, .int .i64 k, .int .i64 r] w fun e w' => e = .returned (.tuple #[.int .i64 (unrI 0 r k.toNat), .bool true]) ∧ w = w' := by
  obtain ⟨f1, f2, f3, f4, f5⟩ := unrankOk_facts h
  obtain ⟨n1, n2, k1, k2, r1, r2⟩ := h
  have p := pow_le256 n1 n2
  refine sp_unrank_pts n k r n1 n2 k1 k2 _ _ (fun s s1 s2 c d => ⟨?_, rfl⟩) (fun m => absurd ⟨f4, f5⟩ (m _ f2 f3)) w
  have := rank_only s1 (by omega : s < 256)
  rw [c, d] at this
  exact this.symm
theorem sp_unrank_no (n k r : Int) (h : ¬ unrankOk n k r) (w : World) : Calls Tryd.prog 26 #[.int .i64 n, .int .i64 k, .int .i64 r] w fun e w' => e = .returned (.tuple #[.int .i64 0, .bool false]) ∧ w = w' := by
  rcases (by cases ptsB n <;> simp : ptsB n = true ∨ ptsB n = false) with hp | hp
  · obtain ⟨n1, n2⟩ := ptsB_yes hp
    by_cases hk : 0 ≤ k ∧ k ≤ n
    · refine sp_unrank_pts n k r n1 n2 hk.1 hk.2 0 false (fun s s1 s2 c d => ?_) (fun _ => ⟨rfl, rfl⟩) w
      have := rank_fits n1 n2 s1 s2
      rw [c, d] at this
      exact absurd ⟨n1, n2, hk.1, hk.2, this.1, this.2⟩ h
    · have hq : inB k 0 n = false := decide_eq_false hk
      clear h hk
      go_enter Tryd.func26, Tryd.ntmps26
      go_wp2_with (first | (go_at_call 34; refine (l1pts _ _).mono ?_; rintro e w' ⟨rfl, rfl⟩) | (go_at_call 35; refine (l6in _ _ _ _).mono ?_; rintro e w' ⟨rfl, rfl⟩) | go_in)
      go_ret2
      exact ⟨rfl, rfl⟩
  · clear h
    go_enter Tryd.func26, Tryd.ntmps26
    go_wp2_with (first | (go_at_call 34; refine (l1pts _ _).mono ?_; rintro e w' ⟨rfl, rfl⟩) | go_in)
    go_ret2
    exact ⟨rfl, rfl⟩
end Go.Proofs.YtmaddbkpolecmaaDoor
