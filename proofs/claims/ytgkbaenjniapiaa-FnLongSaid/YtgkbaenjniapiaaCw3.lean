/- The sets of which a set is no part are kept: slices.DeleteFunc. -/
import Derived.Test.YtgkbaenjniapiaaCw2
namespace Go.Proofs.Ytgkbaenjniapiaa
open Go.ChangeShapes Go.WideShapes Go.ChangeAt Go.RowKit Go.Proofs

theorem enters_part : EntersG 80 := fun args w => enters_of Try.func80 (by kernel_rfl) rfl args w
def FirstPost (p : Int → Bool) (xs : List Int) (w : World) (e : Ending) (w' : World) : Prop :=
  w = w' ∧ ((e = .returned (.int .i64 (-1)) ∧ xs.any p = false) ∨ ∃ k : Nat, e = .returned (.int .i64 (k : Nat)) ∧ k < xs.length ∧ (xs.take k).any p = false ∧ p (xs.getD k 0) = true)
theorem index_part (x : Int) (lv : Value) (xs : List Int) (S : Nat) (w : World) (hx : SRow w S lv xs) (hl : xs.length ≤ 1000) (x1 : 0 ≤ x) (x2 : x < 256) (hz : ∀ z ∈ xs, 0 ≤ z ∧ z < 256) :
    Calls Try.prog 97 #[lv, .func (.func 80) #[.int .u64 x] #[]] w (FirstPost (partB x) xs w) := by
  have eg1 := enters_part
  unfold EntersG at eg1
  obtain ⟨a, cap, rfl, ha⟩ := hx
  replace ha := Lib.hid ha
  replace hz := Lib.hid hz
  go_enter Try.func97, Try.ntmps97
  go_wp2_with fail
  go_loop [8] (fun q => ∃ k : Nat, k ≤ xs.length ∧ q = .int .i64 k ∧ Hid ((xs.take k).any (partB x) = false)) (fun q => xs.length - (intOf q).toNat)
  case atStart => exact ⟨0, by omega, rfl, Lib.hid rfl⟩
  case round =>
    obtain ⟨k, hk, rfl, hn⟩ := hrel
    by_cases hlt : k < xs.length
    · obtain ⟨b1, o1, rfl, s1, c1⟩ := ha.out (by omega)
      have k1 : (0 : Int) ≤ (k : Int) := by omega
      have k2 : (k : Int) < (xs.length : Nat) := by omega
      have e1 := c1 k hlt
      obtain ⟨y, hy⟩ : ∃ y, xs.getD k 0 = y := ⟨_, rfl⟩
      obtain ⟨y1, y2⟩ := hz.out y (by rw [← hy]; exact getD_mem hlt)
      have hft := any_take hlt hy (partB x)
      rw [hy] at e1
      rw [hn.out, Bool.false_or] at hft
      have hcall := set_part x y x1 x2 y1 y2 w
      obtain ⟨bb, hbb⟩ : ∃ bb, partB x y = bb := ⟨_, rfl⟩
      rw [hbb] at hcall hft
      replace hcall := Lib.hid hcall
      replace hft := Lib.hid hft
      clear c1
      rcases (by cases bb <;> simp : bb = true ∨ bb = false) with rfl | rfl
      · have hpk := Lib.hid (show partB x (xs.getD k 0) = true by rw [hy]; exact hbb)
        replace hbb := Lib.hid hbb
        replace hy := Lib.hid hy
        go_wp2_with fail
        refine hcall.out.mono ?_
        rintro e w2 ⟨rfl, rfl⟩
        go_wp2_with fail
        go_ret
        exact ⟨rfl, .inr ⟨k, rfl, hlt, hn.out, hpk.out⟩⟩
      · replace hbb := Lib.hid hbb
        replace hy := Lib.hid hy
        go_wp2_with fail
        refine hcall.out.mono ?_
        rintro e w2 ⟨rfl, rfl⟩
        go_wp2_with fail
        go_round
        case rel => exact ⟨k + 1, by omega, by go_num, hft⟩
        case measure => simp [intOf]; omega
    · have hf := Lib.hid (show xs.any (partB x) = false by
        have h := hn.out
        rw [List.take_of_length_le (by omega)] at h
        exact h)
      go_wp2_with fail
      go_ret
      exact ⟨rfl, .inl ⟨rfl, hf.out⟩⟩
theorem keep_none {p : Int → Bool} {xs : List Int} (h : xs.any p = false) : xs.filter (fun y => !p y) = xs := List.filter_eq_self.2 fun y hy => by
  have := List.any_eq_false.1 h y hy
  simp only [Bool.not_eq_true] at this
  rw [this]; rfl
theorem keep_step {p : Int → Bool} {xs : List Int} {j : Nat} {y : Int} (hj : j < xs.length) (hy : xs.getD j 0 = y) : (xs.take (j + 1)).filter (fun y => !p y) = (xs.take j).filter (fun y => !p y) ++ (if p y then [] else [y]) := by
  rw [take_snoc hj, hy, filter_snoc]
  cases p y <;> rfl
theorem drop_getD {xs ys : List Int} {j : Nat} (h : ys.drop j = xs.drop j) : ys.getD j 0 = xs.getD j 0 ∧ ys.drop (j + 1) = xs.drop (j + 1) := by
  constructor
  · rw [List.getD_eq_getElem?_getD, List.getD_eq_getElem?_getD]
    have h1 := congrArg (fun l => l[0]?) h
    simp only [List.getElem?_drop, Nat.add_zero] at h1
    rw [h1]
  · have h1 := congrArg (List.drop 1) h
    rw [List.drop_drop, List.drop_drop] at h1
    exact h1
set_option maxHeartbeats 8000000 in
theorem delete_part (x : Int) (v : Value) (xs : List Int) (B : Nat) (w : World) (hv : SetL w B v xs) (hl : xs.length ≤ 1000) (x1 : 0 ≤ x) (x2 : x < 256) (hz : ∀ z ∈ xs, 0 ≤ z ∧ z < 256) :
    Calls Try.prog 78 #[v, .func (.func 80) #[.int .u64 x] #[]] w fun e w' => ∃ v', e = .returned v' ∧ SetL w' B v' (apL x xs) ∧ Below B w w' := by
  have hidx := Lib.hid (index_part x v xs _ w hv.row hl x1 x2 hz)
  have eg1 := enters_part
  unfold EntersG at eg1
  have hform := hv.form
  have hsome := hv.out
  obtain ⟨a0, c0, rfl⟩ := hform
  replace hz := Lib.hid hz
  replace hsome := Lib.hid hsome
  replace hv := Lib.hid hv
  go_enter Try.func78, Try.ntmps78
  go_wp2_with fail
  refine hidx.out.mono ?_
  rintro e w1 ⟨rfl, ⟨rfl, hn⟩ | ⟨k0, rfl, hk0, hn, hp⟩⟩
  · have hK := Lib.hid (show SetL w B (.slice a0 xs.length c0) (apL x xs) from by unfold apL; rw [keep_none hn]; exact hv.out)
    replace hn := Lib.hid hn
    go_wp2_with fail
    go_ret
    exact ⟨_, rfl, hK.out, Below.refl _ _⟩
  · obtain ⟨g, cap, hvs, hN0⟩ : ∃ g cap, Value.slice a0 xs.length c0 = .slice (some ⟨g, 0, none⟩) xs.length cap ∧ SetN w B g xs.length cap xs := by
      rcases hsome.out with ⟨_, h⟩ | ⟨g, cap, cur, h, _⟩
      · rw [h] at hk0; simp at hk0
      · exact ⟨g, cap, h, by have h2 := hv.out; rw [h] at h2; exact h2⟩
    injection hvs with e1 e2 e3
    subst e1 e3
    obtain ⟨hcap, hcm⟩ := hN0.cap
    obtain ⟨hgB, hgl⟩ := hN0.ge
    have hst0 : (xs.take (k0 + 1)).filter (fun y => !partB x y) = xs.take k0 := by
      rw [keep_step hk0 rfl, hp, if_pos rfl, List.append_nil, keep_none hn]
    obtain ⟨m, hm⟩ : ∃ m, xs.length = m := ⟨_, rfl⟩
    rw [hm] at hk0 hcap hl hN0
    have hm' := Lib.hid hm
    have m1 : (k0 : Int) < (m : Nat) := by omega
    have hkm : ((k0 : Int) == -1) = false := by rw [beq_eq_false_iff_ne]; omega
    have hm9 : (m : Int) ≤ 1000 := by omega
    have hi0 := Lib.hid (show ∃ cur : List Int, SetN w B g m c0 cur ∧ cur.take k0 = (xs.take (k0 + 1)).filter (fun y => !partB x y) ∧ cur.drop (k0 + 1) = xs.drop (k0 + 1) from ⟨xs, hN0, hst0.symm, rfl⟩)
    replace hn := Lib.hid hn
    replace hp := Lib.hid hp
    replace hst0 := Lib.hid hst0
    replace hN0 := Lib.hid hN0
    rw [hm]
    clear hv hsome hidx hm
    go_wp2_with fail
    go_loopw [5, 6] (fun p q wr => ∃ i j : Nat, i < j ∧ j ≤ m ∧ p = .int .i64 i ∧ q = .int .i64 j ∧ Hid (∃ cur : List Int, SetN wr B g m c0 cur ∧ cur.take i = (xs.take j).filter (fun y => !partB x y) ∧ cur.drop j = xs.drop j) ∧ Hid (Below B w wr)) (fun _ q _ => m - (intOf q).toNat)
    case atStart => exact ⟨k0, k0 + 1, by omega, by omega, rfl, by first | rfl | go_num, hi0, Lib.hid (Below.refl _ _)⟩
    case round =>
      obtain ⟨i, j, hij, hj, rfl, rfl, hc, hbel⟩ := hrel
      obtain ⟨cur, hN, ht, hd⟩ := hc.out
      by_cases hlt : j < m
      · have j1 : (0 : Int) ≤ (j : Int) := by omega
        have j2 : (j : Int) < (m : Nat) := by omega
        have i1 : (0 : Int) ≤ (i : Int) := by omega
        have i2 : (i : Int) < (m : Nat) := by omega
        have hjx : j < xs.length := by rw [hm'.out]; exact hlt
        obtain ⟨hg1, hd1⟩ := drop_getD hd
        obtain ⟨y, hy⟩ : ∃ y, xs.getD j 0 = y := ⟨_, rfl⟩
        obtain ⟨y1, y2⟩ := hz.out y (by rw [← hy]; exact getD_mem hjx)
        have hks := keep_step (p := partB x) hjx hy
        have e1 := hN.cell hlt
        rw [hg1, hy] at e1
        have e2 := hN.cell (i := i) (by omega)
        have e3 := hN.frozen i
        have hcall := fun W => set_part x y x1 x2 y1 y2 W
        have hcl := hN.len
        obtain ⟨bb, hbb⟩ : ∃ bb, partB x y = bb := ⟨_, rfl⟩
        rw [hbb] at hcall hks
        replace hcall := Lib.hid hcall
        rcases (by cases bb <;> simp : bb = true ∨ bb = false) with rfl | rfl
        · rw [if_pos rfl, List.append_nil] at hks
          have hnx := Lib.hid (show ∃ cur : List Int, SetN wr B g m c0 cur ∧ cur.take i = (xs.take (j + 1)).filter (fun y => !partB x y) ∧ cur.drop (j + 1) = xs.drop (j + 1) from ⟨cur, hN, by rw [ht, hks], hd1⟩)
          replace hbb := Lib.hid hbb
          replace hks := Lib.hid hks
          replace hN := Lib.hid hN
          clear hg1 hy hd ht hd1 e2 e3
          go_wp2_with fail
          refine (hcall.out _).mono ?_
          rintro e w2 ⟨rfl, rfl⟩
          go_wp2_with fail
          go_roundw
          case rel => exact ⟨i, j + 1, by omega, by omega, rfl, by first | rfl | go_num, hnx, hbel⟩
          case measure => simp [intOf]; omega
        · rw [if_neg (by simp)] at hks
          have hnx := Lib.hid (show ∃ cur2 : List Int, SetN (wr.setCell ⟨g, i, none⟩ (.int .u64 y)) B g m c0 cur2 ∧ cur2.take (i + 1) = (xs.take (j + 1)).filter (fun y => !partB x y) ∧ cur2.drop (j + 1) = xs.drop (j + 1) from
            ⟨cur.set i y, hN.put i y, by rw [hks, ← ht, List.take_set, take_snoc (xs := cur) (by omega), List.set_append_right _ _ (by rw [List.length_take]; omega)]; simp [Nat.min_eq_left (show i ≤ cur.length by omega)], by rw [List.drop_set_of_lt (by omega), hd1]⟩)
          have hbn := Lib.hid (below_setCell (p := ⟨g, i, none⟩) hbel.out hgB (.int .u64 y))
          replace hbb := Lib.hid hbb
          replace hks := Lib.hid hks
          replace hN := Lib.hid hN
          clear hg1 hy hd ht hd1
          go_wp2_with fail
          refine (hcall.out _).mono ?_
          rintro e w2 ⟨rfl, rfl⟩
          go_wp2_with fail
          go_roundw
          case rel => exact ⟨i + 1, j + 1, by omega, by omega, by first | rfl | go_num, by first | rfl | go_num, hnx, hbn⟩
          case measure => simp [intOf]; omega
      · obtain rfl : j = m := by omega
        have i1 : (0 : Int) ≤ (i : Int) := by omega
        have i2 : (i : Int) < (j : Nat) := by omega
        have i3 : (i : Int) ≤ (j : Nat) := by omega
        have i4 : (i : Int) ≤ (c0 : Nat) := by omega
        have i5 : (j : Int) ≤ (c0 : Nat) := by omega
        have i6 : ¬ c0 = i := by omega
        have i7 : ¬ i = c0 := by omega
        have hzv : ∀ W, (zeroValue 50).run Try.prog W = .ok (.int .u64 0) W := fun W => by kernel_rfl
        have hcl : ∀ ty c, (Builtin.clear_ #[40] ty #[.slice (some ⟨g, i, none⟩) (j - i) c]).run Try.prog wr = .ok (.tuple #[]) (wr.setCells g i (List.replicate (j - i) (.int .u64 0))) := fun ty c =>
          Lib.run_clear_slice wr 40 50 ty (.int .u64 0) Try.underlying40 hzv rfl rfl g i _ _ (by omega) (fun t ht => by rw [hN.cell (by omega)]; rfl) (fun t _ => hN.frozen _)
        obtain ⟨ys, hy1, hy2⟩ := setN_cells (j - i) i wr cur hN
        have hT := hy1.take (i := i) (by omega)
        rw [hy2, ht, List.take_of_length_le (by rw [hm'.out]; exact Nat.le_refl _)] at hT
        have hF := Lib.hid (show SetL (wr.setCells g i (List.replicate (j - i) (.int .u64 0))) B (.slice (some ⟨g, 0, none⟩) i c0) (apL x xs) from hT.toL)
        have hbn := Lib.hid (below_cells (List.replicate (j - i) (.int .u64 0)) i _ _ hbel.out hgB)
        obtain ⟨W9, hW9⟩ : ∃ W9, wr.setCells g i (List.replicate (j - i) (.int .u64 0)) = W9 := ⟨_, rfl⟩
        rw [hW9] at hF hbn hcl
        clear hT hy1 hy2 hN ht hd hW9
        go_wp2_with (simp only [hcl])
        go_ret
        exact ⟨_, rfl, hF.out, hbn.out⟩
end Go.Proofs.Ytgkbaenjniapiaa
