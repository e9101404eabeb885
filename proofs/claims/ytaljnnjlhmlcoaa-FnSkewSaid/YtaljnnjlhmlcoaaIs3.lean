/- IntersectStar: the program, the model, the law. -/
import Derived.Test.YtaljnnjlhmlcoaaIs2
import Derived.Test.YtaljnnjlhmlcoaaFams8
import Derived.Test.YtaljnnjlhmlcoaaFLaws
namespace Go.Proofs.Ytaljnnjlhmlcoaa
open Go.ChangeShapes Go.WideShapes Go.ChangeAt Go.RowKit Go.Proofs

theorem cells_kept {w w' : World} {v : Value} {b o : Nat} {xs : List Int} (h : CellsAt w b o xs) (hb : b < w.heap.size) (hg : w.grownBy w' v.ownBlock) (hv : v.ownBlock ≠ some b) : CellsAt w' b o xs := fun i hi => by
  have e := hg.block b hb (fun e => hv e.symm)
  have h1 := h i hi
  simp only [World.cell?, e] at h1 ⊢
  exact h1
theorem cells_below {w w' : World} {B b o : Nat} {xs : List Int} (h : CellsAt w b o xs) (hb : Below B w w') (hB : b < B) : CellsAt w' b o xs := fun i hi => (hb.cell (p := ⟨b, o + i, none⟩) hB).trans (h i hi)
/-- the list as it stands, apart from the block that grows. -/
def Apart (w : World) (a : Option Addr) (v : Value) (b o : Nat) (xs : List Int) : Prop := 0 < xs.length → a = some ⟨b, o, none⟩ ∧ v.ownBlock ≠ some b ∧ b < w.heap.size ∧ CellsAt w b o xs
theorem star_clo (p : Int) (Bn : Nat) (xs : List Int) (w : World) (hB : Bn < w.heap.size) (hc : w.cell? ⟨Bn, 0, none⟩ = some (.int .i64 p)) (p1 : 0 ≤ p) (p2 : p ≤ 7) (hz : ∀ z ∈ xs, 0 ≤ z ∧ z < 256) :
    PredV 31 #[] #[.pointer (some ⟨Bn, 0, none⟩)] (fun x => hasB x p) xs w := fun W x hx hb => by
  have hcW : W.cell? ⟨Bn, 0, none⟩ = some (.int .i64 p) := (hb.cell (p := ⟨Bn, 0, none⟩) hB).trans hc
  obtain ⟨x1, x2⟩ := hz x hx
  have hh := Lib.hid (set_has x p x1 x2 p1 p2)
  replace hx := Lib.hid hx
  show Calls Try.prog 31 #[.int .u64 x, .pointer (some ⟨Bn, 0, none⟩)] W fun e w' => e = .returned (.bool (hasB x p)) ∧ Below W.heap.size W w'
  obtain ⟨r, hr⟩ : ∃ r, hasB x p = r := ⟨_, rfl⟩
  rw [hr] at hh ⊢
  replace hr := Lib.hid hr
  go_enter Try.func31, Try.ntmps31
  go_wp2_with (go_at_call 32; refine (hh.out _).mono ?_; rintro e w' ⟨rfl, rfl⟩)
  go_ret
  exact ⟨rfl, Below.refl _ _⟩
/-- the star. -/
def strL (n k p : Int) : List Int := (levL n k).filter (fun x => hasB x p)
def strB (n k p : Int) : Bool := mstB n k && ptB n p
theorem strL_lt {n k : Int} (p : Int) (n1 : 1 ≤ n) (n2 : n ≤ 8) : ∀ z ∈ strL n k p, 0 ≤ z ∧ z < 256 := fun z hz => levL_lt n1 n2 z (List.mem_filter.1 hz).1
theorem strL_len {n k : Int} (p : Int) (n1 : 1 ≤ n) (n2 : n ≤ 8) : (strL n k p).length ≤ 256 := by
  have := List.length_filter_le (fun x => hasB x p) (levL n k)
  have := levL_len256 (k := k) n1 n2
  unfold strL; omega
theorem str_cases (n k p : Int) : (strB n k p = true ∧ 1 ≤ n ∧ n ≤ 8 ∧ 1 ≤ k ∧ k ≤ n ∧ 0 ≤ p ∧ p < n) ∨ (strB n k p = false ∧ ¬ (1 ≤ n ∧ n ≤ 8 ∧ 1 ≤ k ∧ k ≤ n ∧ 0 ≤ p ∧ p < n)) := by
  rcases mst_cases n k with ⟨h, a, b, c, d⟩ | ⟨h, hno⟩
  · rcases ptB_cases n p with hp | hp
    · obtain ⟨e, f⟩ := ptB_yes hp
      exact .inl ⟨by unfold strB; rw [h, hp]; rfl, a, b, c, d, e, f⟩
    · refine .inr ⟨by unfold strB; rw [h, hp]; rfl, fun hh => ?_⟩
      rw [ptB_mk hh.2.2.2.2.1 hh.2.2.2.2.2] at hp; cases hp
  · exact .inr ⟨by unfold strB; rw [h]; rfl, fun hh => hno ⟨hh.1, hh.2.1, hh.2.2.1, hh.2.2.2.1⟩⟩
set_option maxHeartbeats 4000000 in
theorem im_IntersectStar (n k p : Int) (w : World) : Calls Try.prog 8 #[.int .i64 n, .int .i64 k, .int .i64 p] w (ListPost (ifL (strB n k p) (strL n k p)) (strB n k p) w) := by
  have hmf := mkfunc
  have hsz := fun W => size_in n k W
  have hpt := fun W => pt_in n p W
  rcases str_cases n k p with ⟨hb, n1, n2, k1, k2, p1, p2⟩ | ⟨hb, hno⟩
  · rw [szB_mk ⟨n1, n2, by omega, k2⟩] at hsz
    rw [ptB_mk p1 p2] at hpt
    rw [hb]
    show Calls Try.prog 8 #[.int .i64 n, .int .i64 k, .int .i64 p] w (ListPost (strL n k p) true w)
    replace hsz := Lib.hid hsz
    replace hpt := Lib.hid hpt
    have hlev := Lib.hid (fun W => lev_at n k n1 n2 W)
    have hlz := levL_lt (k := k) n1 n2
    have hll := levL_len256 (k := k) n1 n2
    have hsl := strL_len (k := k) p n1 n2
    have hslt := Lib.hid (strL_lt (k := k) p n1 n2)
    have hre := Lib.hid (show sortL ((levL n k).filter (fun x => hasB x p)) = strL n k p from sortL_asc (asc_filter (levL_asc n k) _))
    obtain ⟨ys, hys⟩ : ∃ ys, strL n k p = ys := ⟨_, rfl⟩
    rw [hys] at hsl hslt hre ⊢
    have hk := Lib.hid (fun (W : World) (lv : Value) (h0 : w.heap.size < W.heap.size) (hc : W.cell? ⟨w.heap.size, 0, none⟩ = some (.int .i64 p)) (hx : SRow W W.heap.size lv (levL n k)) => kept_any 31 (enters_of Try.func31 (by kernel_rfl) rfl) #[] #[.pointer (some ⟨w.heap.size, 0, none⟩)] (fun x => hasB x p) lv (levL n k) _ W hx (Nat.le_refl _) (by omega) hlz (star_clo p w.heap.size (levL n k) W h0 hc p1 (by omega) hlz))
    have hci := new_cell_int w p
    have hbb := (Below.refl w.heap.size w).alloc (Nat.le_refl _) (.cells #[.int .i64 p] 3)
    replace hbb := Lib.hid hbb
    replace hlz := Lib.hid hlz
    replace hys := Lib.hid hys
    replace hb := Lib.hid hb
    go_enter Try.func8, Try.ntmps8
    go_wp2_with (first | (go_at_call 26; refine (hsz.out _).mono ?_; rintro e w' ⟨rfl, rfl⟩) | (go_at_call 27; refine (hpt.out _).mono ?_; rintro e w' ⟨rfl, rfl⟩))
    refine (hlev.out _).mono ?_
    rintro e w3 ⟨v3, rfl, hS3, hb3⟩
    obtain ⟨a3, c3, rfl⟩ := hS3.form
    have hz3 := hb3.size
    rw [World.size_alloc] at hz3 hb3
    have hk2 := Lib.hid (hk.out w3 _ (by omega) ((hb3.cell (p := ⟨w.heap.size, 0, none⟩) (by simp)).trans hci) hS3.row)
    replace hb3 := Lib.hid (hbb.out.trans (hb3.mono (by omega)))
    clear hS3 hci
    go_wp2_with fail
    refine hk2.out.mono ?_
    rintro e w4 ⟨v4, rfl, hS4, hb4⟩
    rw [hre.out] at hS4
    obtain ⟨a4, c4, rfl⟩ := hS4.form
    have hz4 := hb4.size
    have hnum := Lib.hid (numbers_at _ _ _ _ hS4.row (Nat.le_refl _) (by omega) hslt.out)
    replace hb4 := Lib.hid (hb3.out.trans (hb4.mono (by omega)))
    clear hS4 hk2 hb3
    go_wp2_with fail
    refine hnum.out.mono ?_
    rintro e w5 ⟨t, rfl, hO, hb5⟩
    obtain ⟨ua, uc, rfl, _⟩ := id hO
    replace hb5 := Lib.hid (hb4.out.trans (hb5.mono (by omega)))
    replace hO := Lib.hid (hO.mono (show w.heap.size ≤ w4.heap.size by omega) (Nat.le_refl _))
    go_wp2_with fail
    go_ret2
    exact ⟨_, rfl, hO.out, hb5.out⟩
  · rw [hb]
    have hoe := fun (W : World) => own_empty W w.heap.size
    replace hb := Lib.hid hb
    rcases szB_cases n k with hs | hs
    · obtain ⟨a, b, c, d⟩ := szB_yes hs
      rw [hs] at hsz
      replace hsz := Lib.hid hsz
      replace hs := Lib.hid hs
      by_cases hk : k < 1
      · replace hpt := Lib.hid hpt
        clear hno
        go_enter Try.func8, Try.ntmps8
        go_wp2_with (first | (go_at_call 26; refine (hsz.out _).mono ?_; rintro e w' ⟨rfl, rfl⟩))
        go_ret2
        exact ⟨_, rfl, own_empty _ _ _ _ _, ((Below.refl _ _).alloc (Nat.le_refl _) _).alloc (by simp) _⟩
      · rw [ptB_mk0 (by omega)] at hpt
        replace hpt := Lib.hid hpt
        clear hno
        go_enter Try.func8, Try.ntmps8
        go_wp2_with (first | (go_at_call 26; refine (hsz.out _).mono ?_; rintro e w' ⟨rfl, rfl⟩) | (go_at_call 27; refine (hpt.out _).mono ?_; rintro e w' ⟨rfl, rfl⟩))
        go_ret2
        exact ⟨_, rfl, own_empty _ _ _ _ _, ((Below.refl _ _).alloc (Nat.le_refl _) _).alloc (by simp) _⟩
    · rw [hs] at hsz
      replace hsz := Lib.hid hsz
      replace hs := Lib.hid hs
      replace hpt := Lib.hid hpt
      clear hno
      go_enter Try.func8, Try.ntmps8
      go_wp2_with (first | (go_at_call 26; refine (hsz.out _).mono ?_; rintro e w' ⟨rfl, rfl⟩))
      go_ret2
      exact ⟨_, rfl, own_empty _ _ _ _ _, ((Below.refl _ _).alloc (Nat.le_refl _) _).alloc (by simp) _⟩
set_option maxHeartbeats 4000000 in
theorem sp_IntersectStar (n k p : Int) (w : World) : Calls Try.prog 9 #[.int .i64 n, .int .i64 k, .int .i64 p] w (ListPost (ifL (strB n k p) (strL n k p)) (strB n k p) w) := by
  have hpp := fun W => l1pts n W
  have hin := fun W => l6in k 1 n W
  have hip := fun W => l6in p 0 (n - 1) W
  rw [inB_one] at hin
  rw [inB_pt] at hip
  rcases str_cases n k p with ⟨hb, n1, n2, k1, k2, p1, p2⟩ | ⟨hb, hno⟩
  · rw [ptsB_mk n1 n2] at hpp
    rw [decide_eq_true ⟨k1, k2⟩] at hin
    rw [ptB_mk p1 p2] at hip
    rw [hb]
    show Calls Try.prog 9 #[.int .i64 n, .int .i64 k, .int .i64 p] w (ListPost (strL n k p) true w)
    have hlv := Lib.hid (fun W => level_at n k W n1 n2)
    have hEq := show mkL (fun j => cntI (j : Nat) == k) (2 ^ n.toNat) = levL n k from level_eq _ _
    rw [hEq] at hlv
    have hlz := Lib.hid (levL_lt (k := k) n1 n2)
    have hll := levL_len256 (k := k) n1 n2
    have hst : strL n k p = (levL n k).filter (fun x => hasB x p) := rfl
    rw [hst]
    obtain ⟨xs, hxs⟩ : ∃ xs, levL n k = xs := ⟨_, rfl⟩
    rw [hxs] at hlv hlz hll ⊢
    have hou := Lib.hid (OwnL.lit w (Nat.le_refl w.heap.size))
    obtain ⟨pw1, pw2, pw3⟩ := pow8 p1 (show p ≤ 7 by omega)
    have p7 : p ≤ 7 := by omega
    replace hpp := Lib.hid hpp
    replace hin := Lib.hid hin
    replace hip := Lib.hid hip
    replace hxs := Lib.hid hxs
    replace hb := Lib.hid hb
    clear hEq hst
    go_enter Try.func9, Try.ntmps9
    go_wp2_with (first | (go_at_call 33; refine (hpp.out _).mono ?_; rintro e w' ⟨rfl, rfl⟩) | (go_at_call 34; (with_reducible refine (hin.out _).mono ?_); rintro e w' ⟨rfl, rfl⟩) | (go_at_call 34; (with_reducible refine (hip.out _).mono ?_); rintro e w' ⟨rfl, rfl⟩))
    refine (hlv.out _).mono ?_
    rintro e w3 ⟨v, rfl, hO, hb3⟩
    obtain ⟨a3, c3, hv3, hO2⟩ := hO.own
    subst hv3
    have hz3 := hb3.size
    have hou3 := Lib.hid (hou.out.below hb3 (Nat.le_refl _))
    rw [World.size_alloc] at hz3 hb3
    obtain ⟨b0, o0, hap⟩ : ∃ b0 o0, Apart w3 a3 (.slice (some ⟨w.heap.size, 0, none⟩) 0 0) b0 o0 xs := by
      by_cases h : 0 < xs.length
      · obtain ⟨b0, o0, ea, t1, t2, c1⟩ := hO2 h
        refine ⟨b0, o0, fun _ => ⟨ea, ?_, t2, c1.1⟩⟩
        intro e; injection e with e; dsimp only at e; rw [World.size_alloc] at t1; omega
      · exact ⟨0, 0, fun h2 => absurd h2 h⟩
    replace hap := Lib.hid hap
    replace hb3 := Lib.hid (((Below.refl w.heap.size w).alloc (Nat.le_refl _) (.cells #[] 3)).trans (hb3.mono (by omega)))
    clear hO hO2
    go_wp2_with fail
    go_loopw [8, 10] (fun v s wr => ∃ j : Nat, j ≤ xs.length ∧ s = .int .i64 j ∧ Hid (OwnL wr w.heap.size v ((xs.take j).filter (fun x => hasB x p))) ∧ Hid (Apart wr a3 v b0 o0 xs) ∧ Hid (Below w.heap.size w wr)) (fun _ s _ => xs.length - (intOf s).toNat)
    case atStart => exact ⟨0, by omega, rfl, hou3, hap, hb3⟩
    case round =>
      obtain ⟨j, hj, rfl, hown, hap2, hbel⟩ := hrel
      have hsz := hbel.out.size
      by_cases hlt : j < xs.length
      · obtain ⟨rfl, v1, t2, c1⟩ := hap2.out (by omega)
        have k1 : (0 : Int) ≤ (j : Int) := by omega
        have k2 : (j : Int) < (xs.length : Nat) := by omega
        have e1 : wr.cell? ⟨b0, o0 + j, none⟩ = some (.int .i64 (xs.getD j 0)) := c1 j hlt
        obtain ⟨x, hx0⟩ : ∃ x, xs.getD j 0 = x := ⟨_, rfl⟩
        rw [hx0] at e1
        obtain ⟨z1, z2⟩ := hlz.out x (by rw [← hx0]; exact getD_mem hlt)
        have hh := fun W => l1has x p z1 z2 p1 p7 W
        have hlen : ((xs.take j).filter (fun x => hasB x p)).length ≤ 1073741824 := by
          have := List.length_filter_le (fun x => hasB x p) (xs.take j)
          rw [List.length_take] at this; omega
        have hft := filter_take hlt hx0 (fun x => hasB x p)
        rcases (by cases hasB x p <;> simp : hasB x p = true ∨ hasB x p = false) with hp | hp
        · rw [hp] at hh hft
          rw [if_pos rfl] at hft
          replace hh := Lib.hid hh
          obtain ⟨ys, hys⟩ : ∃ ys, (xs.take j).filter (fun x => hasB x p) = ys := ⟨_, rfl⟩
          rw [hys] at hown hft hlen
          obtain ⟨a', c', rfl⟩ := hown.out.form
          have hB1 : w.heap.size ≤ (wr.alloc (.cells #[.int .i64 x] 3)).heap.size := by rw [World.size_alloc]; omega
          clear hx0
          replace hp := Lib.hid hp
          replace hys := Lib.hid hys
          replace hft := Lib.hid hft.symm
          replace c1 := Lib.hid c1
          replace v1 := Lib.hid v1
          replace hap2 := Lib.hid hap2
          go_wp2_with (first | (go_at_call 36; refine (hh.out _).mono ?_; rintro e w' ⟨rfl, rfl⟩) | (at_builtin; refine app_int_at rfl _ _ rfl w.heap.size _ ys rfl (hown.out.alloc _) x wr.heap.size rfl (cell_new _ _ _) hlen hB1 ?_; intro v' w1 hown1 hg1 hat1))
          rw [hft.out] at hown1
          replace hown1 := Lib.hid hown1
          have hb2 := Lib.hid (below_own (hbel.out.alloc hsz _) hg1 (hown.out.alloc _) hB1)
          have hap3 := Lib.hid (show Apart w1 (some ⟨b0, o0, none⟩) v' b0 o0 xs from fun _ => by
            refine ⟨rfl, fun e => ?_, ?_, cells_kept (cells_below c1.out ((Below.refl wr.heap.size wr).alloc (Nat.le_refl _) _) t2) (by rw [World.size_alloc]; omega) hg1 v1.out⟩
            · rcases hat1 with h | h
              · exact v1.out (h.symm.trans e)
              · rw [h] at e; injection e with e; rw [World.size_alloc] at e; omega
            · have := hg1.size; rw [World.size_alloc] at this; omega)
          go_roundw
          case rel => exact ⟨j + 1, by omega, by go_num, hown1, hap3, hb2⟩
          case measure => simp [intOf]; omega
        · rw [hp] at hh hft
          rw [if_neg (by simp), List.append_nil] at hft
          replace hh := Lib.hid hh
          rw [← hft] at hown
          obtain ⟨zs, hzs⟩ : ∃ zs, (xs.take (j + 1)).filter (fun x => hasB x p) = zs := ⟨_, rfl⟩
          rw [hzs] at hown
          obtain ⟨a', c', rfl⟩ := hown.out.form
          clear hx0 hft hlen
          replace hp := Lib.hid hp
          replace hzs := Lib.hid hzs
          replace c1 := Lib.hid c1
          replace v1 := Lib.hid v1
          go_wp2_with (go_at_call 36; refine (hh.out _).mono ?_; rintro e w' ⟨rfl, rfl⟩)
          go_roundw
          case rel => exact ⟨j + 1, by omega, by go_num, by rw [hzs.out]; exact hown, hap2, hbel⟩
          case measure => simp [intOf]; omega
      · obtain rfl : j = xs.length := by omega
        have hO := hown.out
        rw [List.take_length] at hO
        obtain ⟨a', c', rfl⟩ := hO.form
        replace hO := Lib.hid hO.own
        clear hown
        go_wp2_with fail
        go_ret2
        exact ⟨_, rfl, hO.out, hbel.out⟩
  · rw [hb]
    replace hb := Lib.hid hb
    by_cases hp : 1 ≤ n ∧ n ≤ 8
    · rw [ptsB_mk hp.1 hp.2] at hpp
      replace hpp := Lib.hid hpp
      by_cases hk : 1 ≤ k ∧ k ≤ n
      · rw [decide_eq_true hk] at hin
        rw [ptB_mk0 (by omega)] at hip
        replace hin := Lib.hid hin
        replace hip := Lib.hid hip
        clear hno
        go_enter Try.func9, Try.ntmps9
        go_wp2_with (first | (go_at_call 33; refine (hpp.out _).mono ?_; rintro e w' ⟨rfl, rfl⟩) | (go_at_call 34; (with_reducible refine (hin.out _).mono ?_); rintro e w' ⟨rfl, rfl⟩) | (go_at_call 34; (with_reducible refine (hip.out _).mono ?_); rintro e w' ⟨rfl, rfl⟩))
        go_ret2
        exact ⟨_, rfl, own_empty0 _ _ _ _ _, (Below.refl _ _).alloc (Nat.le_refl _) _⟩
      · rw [decide_eq_false hk] at hin
        replace hin := Lib.hid hin
        replace hip := Lib.hid hip
        clear hno
        go_enter Try.func9, Try.ntmps9
        go_wp2_with (first | (go_at_call 33; refine (hpp.out _).mono ?_; rintro e w' ⟨rfl, rfl⟩) | (go_at_call 34; (with_reducible refine (hin.out _).mono ?_); rintro e w' ⟨rfl, rfl⟩))
        go_ret2
        exact ⟨_, rfl, own_empty0 _ _ _ _ _, (Below.refl _ _).alloc (Nat.le_refl _) _⟩
    · rw [ptsB_mk0 (by omega)] at hpp
      replace hpp := Lib.hid hpp
      replace hin := Lib.hid hin
      replace hip := Lib.hid hip
      clear hno
      go_enter Try.func9, Try.ntmps9
      go_wp2_with (first | (go_at_call 33; refine (hpp.out _).mono ?_; rintro e w' ⟨rfl, rfl⟩))
      go_ret2
      exact ⟨_, rfl, own_empty0 _ _ _ _ _, (Below.refl _ _).alloc (Nat.le_refl _) _⟩
end Go.Proofs.Ytaljnnjlhmlcoaa
