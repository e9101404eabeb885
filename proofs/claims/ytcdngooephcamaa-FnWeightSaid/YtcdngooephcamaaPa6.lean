/- The law of weights. -/
import Derived.Test.YtcdngooephcamaaPa5
import Derived.Test.YtcdngooephcamaaCk8
namespace Go.Proofs.Ytcdngooephcamaa
open Go.ChangeShapes Go.WideShapes Go.ChangeAt Go.RowKit Go.Proofs

set_option maxRecDepth 100000 in
set_option maxHeartbeats 4000000 in
theorem law_FnWeight (v : Value) (a : Option Addr) (len cap : Nat) (w : World) (hv : v = .slice a len cap) (hc : len ≤ cap) (hcap : cap ≤ 9223372036854775807) (hB : Bytes w w.heap.size a len) :
    Calls Try.prog 3 #[v] w fun e w' => e = .returned (.bool true) ∧ Below w.heap.size w w' := by
  have h0 := Lib.hid (draw_WeightOf v a len cap w hv hc hcap hB)
  subst hv
  clear hB
  by_cases hbig : 1048576 < len
  · go_enter Try.func3, Try.ntmps3
    go_wp2_with fail
    go_ret
    exact ⟨rfl, Below.refl _ _⟩
  · go_enter Try.func3, Try.ntmps3
    go_wp2_with fail
    refine (h0.out).mono ?_
    rintro e w1 ⟨n, u, xs, rfl, hl, hO, hb⟩
    obtain ⟨ua, uc, rfl, _⟩ := id hO
    have z1 := hb.size
    have hi := im_WeightOf n _ xs _ w1 hO.row (Nat.le_refl _) (by omega)
    have hs := fun (W : World) (hW : Below w1.heap.size w1 W) => sp_WeightOf n _ xs w1.heap.size W (hO.row.below hW (Nat.le_refl _)) hW.size (by omega)
    have ho := fun (W : World) (hW : Below w1.heap.size w1 W) => im_FamilyOther n _ xs w1.heap.size W (hO.row.below hW (Nat.le_refl _)) hW.size (by omega)
    have hr := fun (W : World) (hW : Below w1.heap.size w1 W) => im_FamilyRest n _ xs w1.heap.size W (hO.row.below hW (Nat.le_refl _)) hW.size (by omega)
    replace hb := Lib.hid hb
    clear hO
    rcases (by cases famB n xs <;> simp : famB n xs = true ∨ famB n xs = false) with fx | fx
    · obtain ⟨n1, n2, _⟩ := famB_all fx
      have lx := famB_len fx
      have g1 := wS_oth fx
      have g2 := wS_rest fx
      have fO := fam_other fx
      have fR := rest_famq fx
      have lO := famB_len fO
      have lR := famB_len fR
      have hcb := cb_bd n.toNat
      have hwl := wS_le n.toNat xs
      rw [← rest_eqq] at g2 fR lR
      obtain ⟨O, hOe⟩ : ∃ O, sortL (xs.map (otherI n)) = O := ⟨_, rfl⟩
      obtain ⟨R, hRe⟩ : ∃ R, sortL ((sortL (upI (2 ^ n.toNat))).filter (fun x => !memB x xs)) = R := ⟨_, rfl⟩
      unfold wgtI botI at hi hs
      rw [hOe] at g1 fO lO
      rw [hRe] at g2 fR lR
      rw [fx, if_pos rfl, if_pos rfl] at hi
      simp only [fx, if_pos, hOe, hRe] at hs ho hr
      have hcO := fun (v : Value) (W : World) (h1 : Row W W.heap.size v O) => im_WeightOf n v O W.heap.size W h1 (Nat.le_refl _) (by omega)
      have hcR := fun (v : Value) (W : World) (h1 : Row W W.heap.size v R) => im_WeightOf n v R W.heap.size W h1 (Nat.le_refl _) (by omega)
      unfold wgtI botI at hcO hcR
      simp only [fO, if_pos, g1] at hcO
      simp only [fR, if_pos] at hcR
      have hwr := wS_le n.toNat R
      obtain ⟨X, hX⟩ : ∃ X, wS n.toNat xs = X := ⟨_, rfl⟩
      obtain ⟨Y, hY⟩ : ∃ Y, wS n.toNat R = Y := ⟨_, rfl⟩
      obtain ⟨C, hC⟩ : ∃ C, cbN n.toNat = C := ⟨_, rfl⟩
      rw [hX, hC] at hi
      simp only [hX, hY, hC] at hs hcO hcR g2 hcb hwl hwr
      have hnC : (n + 1) * (C : Int) = ((Y + X : Nat) : Int) := by
        rw [g2]
        obtain ⟨N, rfl⟩ := Int.eq_ofNat_of_zero_le (show 0 ≤ n by omega)
        simp
      obtain ⟨P, hP⟩ : ∃ P, (n + 1) * (C : Int) = P := ⟨_, rfl⟩
      have hPb : 0 ≤ P ∧ P ≤ 1000000 := by rw [← hP, hnC]; omega
      have hPe : P = (Y : Int) + (X : Int) := by rw [← hP, hnC]; omega
      have hX6 : X ≤ 100000 := by omega
      have hY6 : Y ≤ 100000 := by omega
      have hw1 : IntKind.i64.wrap (n + 1) = n + 1 := by rw [IntKind.wrap_i64]; omega
      replace hi := Lib.hid (show Calls _ _ _ _ (PairPost X C true w1) from hi)
      replace hs := Lib.hid (show ∀ (W : World), Below w1.heap.size w1 W → Calls _ _ _ W (PairPost X C true W) from hs)
      replace ho := Lib.hid (show ∀ (W : World), Below w1.heap.size w1 W → Calls Try.prog 7 #[.int .i64 n, .slice ua xs.length uc] W (ListPost O true W) from ho)
      replace hr := Lib.hid (show ∀ (W : World), Below w1.heap.size w1 W → Calls Try.prog 8 #[.int .i64 n, .slice ua xs.length uc] W (ListPost R true W) from hr)
      replace hcO := Lib.hid (show ∀ (v : Value) (W : World), Row W W.heap.size v O → Calls Try.prog 5 #[.int .i64 n, v] W (PairPost X C true W) from hcO)
      replace hcR := Lib.hid (show ∀ (v : Value) (W : World), Row W W.heap.size v R → Calls Try.prog 5 #[.int .i64 n, v] W (PairPost Y C true W) from hcR)
      replace hOe := Lib.hid hOe
      replace hRe := Lib.hid hRe
      replace hX := Lib.hid hX
      replace hY := Lib.hid hY
      replace hC := Lib.hid hC
      replace g1 := Lib.hid g1
      replace g2 := Lib.hid g2
      replace fx := Lib.hid fx
      replace fO := Lib.hid fO
      replace fR := Lib.hid fR
      replace hnC := Lib.hid hnC
      clear hwl hwr
      go_wp2_with fail
      refine hi.out.mono ?_
      rintro e w2 ⟨rfl, hb2⟩
      replace hb2 := Lib.hid hb2
      go_wp2_with fail
      refine (hs.out _ hb2.out).mono ?_
      rintro e w3 ⟨rfl, hb3⟩
      replace hb3 := Lib.hid (hb2.out.trans (hb3.mono hb2.out.size))
      go_wp2_with fail
      refine (ho.out _ hb3.out).mono ?_
      rintro e w4 ⟨v4, rfl, hO4, hb4⟩
      obtain ⟨c4, d4, rfl, _⟩ := id hO4
      have hk4 := Lib.hid (hcO.out _ w4 hO4.row)
      replace hb4 := Lib.hid (hb3.out.trans (hb4.mono hb3.out.size))
      go_wp2_with fail
      refine hk4.out.mono ?_
      rintro e w5 ⟨rfl, hb5⟩
      replace hb5 := Lib.hid (hb4.out.trans (hb5.mono hb4.out.size))
      go_wp2_with fail
      refine (hr.out _ hb5.out).mono ?_
      rintro e w6 ⟨v6, rfl, hO6, hb6⟩
      obtain ⟨c6, d6, rfl, _⟩ := id hO6
      have hk6 := Lib.hid (hcR.out _ w6 hO6.row)
      replace hb6 := Lib.hid (hb5.out.trans (hb6.mono hb5.out.size))
      go_wp2_with fail
      refine hk6.out.mono ?_
      rintro e w7 ⟨rfl, hb7⟩
      replace hb7 := Lib.hid (hb.out.trans ((hb6.out.trans (hb7.mono hb6.out.size)).mono z1))
      go_wp2_with fail
      go_ret
      exact ⟨ret_bool (by simp), hb7.out⟩
    · unfold wgtI botI at hi hs
      rw [fx, if_neg (by simp), if_neg (by simp)] at hi
      simp only [fx, if_neg, Bool.false_eq_true, not_false_eq_true] at hs
      replace hi := Lib.hid (show Calls _ _ _ _ (PairPost 0 0 false w1) from hi)
      replace hs := Lib.hid (show ∀ (W : World), Below w1.heap.size w1 W → Calls _ _ _ W (PairPost 0 0 false W) from hs)
      replace fx := Lib.hid fx
      clear ho hr
      go_wp2_with fail
      refine hi.out.mono ?_
      rintro e w2 ⟨rfl, hb2⟩
      replace hb2 := Lib.hid hb2
      go_wp2_with fail
      refine (hs.out _ hb2.out).mono ?_
      rintro e w3 ⟨rfl, hb3⟩
      replace hb3 := Lib.hid (hb.out.trans ((hb2.out.trans (hb3.mono hb2.out.size)).mono z1))
      go_wp2_with fail
      go_ret
      exact ⟨rfl, hb3.out⟩
end Go.Proofs.Ytcdngooephcamaa
