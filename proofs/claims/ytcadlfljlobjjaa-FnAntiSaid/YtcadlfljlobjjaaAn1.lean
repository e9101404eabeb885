/- The shares of an antichain: the law. -/
import Derived.Test.YtcadlfljlobjjaaLy2
import Derived.Test.YtcadlfljlobjjaaPa5
import Derived.Test.YtcadlfljlobjjaaCk6
import Derived.Test.YtcadlfljlobjjaaAcLaw
import Derived.Test.YtcadlfljlobjjaaLawsB
namespace Go.Proofs.Ytcadlfljlobjjaa
open Go.ChangeShapes Go.WideShapes Go.ChangeAt Go.RowKit Go.Proofs

set_option maxRecDepth 100000 in
set_option maxHeartbeats 4000000 in
theorem draw_AntichainIn (v : Value) (a : Option Addr) (len cap : Nat) (w : World) (hv : v = .slice a len cap) (hc : len ≤ cap) (hcap : cap ≤ 9223372036854775807) (hB : Bytes w w.heap.size a len) :
    Calls Try.prog 5 #[v] w (GivenDraw w) := by
  have h0 := Lib.hid (draw_anti v a len cap w hv hc hcap hB)
  clear hv hc hcap hB
  go_enter Try.func5, Try.ntmps5
  go_wp2_with fail
  refine (h0.out).mono ?_
  rintro e w1 ⟨n, u, xs, rfl, hl, hO, hb⟩
  obtain ⟨fa, fc, rfl, _⟩ := id hO
  replace hO := Lib.hid hO
  replace hb := Lib.hid hb
  go_wp2_with fail
  go_ret2
  exact ⟨_, _, xs, rfl, hl, hO.out, hb.out⟩
set_option maxRecDepth 100000 in
set_option maxHeartbeats 4000000 in
theorem law_FnAnti (v : Value) (a : Option Addr) (len cap : Nat) (w : World) (hv : v = .slice a len cap) (hc : len ≤ cap) (hcap : cap ≤ 9223372036854775807) (hB : Bytes w w.heap.size a len) :
    Calls Try.prog 3 #[v] w fun e w' => e = .returned (.bool true) ∧ Below w.heap.size w w' := by
  have h0 := Lib.hid (draw_AntichainIn v a len cap w hv hc hcap hB)
  subst hv
  clear hB
  by_cases hbig : 1048576 < len
  · go_enter Try.func3, Try.ntmps3
    go_wp2_with fail
    go_ret
    exact ⟨rfl, Below.refl _ _⟩
  · go_enter Try.func3, Try.ntmps3
    go_wp2_with fail
    refine (h0.out).mono ?_
    rintro e w1 ⟨n, u, xs, rfl, hl, hO, hb⟩
    obtain ⟨ua, uc, rfl, _⟩ := id hO
    have z1 := hb.size
    have hi := im_AntichainIn n _ xs _ w1 hO.row (Nat.le_refl _) (by omega)
    have hs := fun (W : World) (hW : Below w1.heap.size w1 W) => sp_AntichainIn n _ xs w1.heap.size W (hO.row.below hW (Nat.le_refl _)) hW.size (by omega)
    have hwt := fun (W : World) (hW : Below w1.heap.size w1 W) => im_WeightOf n _ xs w1.heap.size W (hO.row.below hW (Nat.le_refl _)) hW.size (by omega)
    have hb1 := Lib.hid hb
    clear hb hO
    obtain ⟨B, hBv⟩ : ∃ B, (famB n xs && antiB xs) = B := ⟨_, rfl⟩
    rw [hBv] at hi hs
    rcases (by cases B <;> simp : B = true ∨ B = false) with rfl | rfl
    · rw [Bool.and_eq_true] at hBv
      obtain ⟨hf, ha⟩ := hBv
      obtain ⟨n1, n2, _⟩ := famB_all hf
      obtain ⟨a1, a2⟩ := anti_ly hf ha
      have en : ((n.toNat : Nat) : Int) = n := Int.toNat_of_nonneg (by omega)
      have eh : ((n.toNat / 2 : Nat) : Int) = n / 2 := by omega
      have hch := (ch_N (n := n.toNat) (k := n.toNat / 2) (by omega) (by omega)).1
      rw [en, eh] at hch
      have q1 : wgtI n xs ≤ botI n xs := by unfold wgtI botI; rw [hf, if_pos rfl, if_pos rfl]; omega
      have q2 : ((xs.length : Nat) : Int) ≤ chI n (n / 2) := by rw [hch]; omega
      have hq : n.tdiv 2 = n / 2 := Int.tdiv_eq_ediv_of_nonneg (by omega)
      have hcc := fun W => im_Choose_yes n (n / 2) (by unfold chooseOk; omega) W
      obtain ⟨h, hh⟩ : ∃ h, n / 2 = h := ⟨_, rfl⟩
      have h01 : 0 ≤ h := by omega
      have h08 : h ≤ 8 := by omega
      rw [hh] at hq hcc q2
      obtain ⟨C, hC⟩ : ∃ C, chI n h = C := ⟨_, rfl⟩
      rw [hC] at hcc q2
      rw [hf] at hwt
      obtain ⟨A, hA⟩ : ∃ A, wgtI n xs = A := ⟨_, rfl⟩
      obtain ⟨D, hD⟩ : ∃ D, botI n xs = D := ⟨_, rfl⟩
      rw [hA, hD] at hwt q1
      replace hi := Lib.hid hi
      replace hs := Lib.hid hs
      replace hwt := Lib.hid hwt
      replace hcc := Lib.hid hcc
      replace hf := Lib.hid hf
      replace ha := Lib.hid ha
      replace hch := Lib.hid hch
      replace hh := Lib.hid hh
      replace hC := Lib.hid hC
      replace hA := Lib.hid hA
      replace hD := Lib.hid hD
      clear a1 a2 en eh
      go_wp2_with fail
      refine hi.out.mono ?_
      rintro e w2 ⟨rfl, hb2⟩
      have q2' := Lib.hid hb2
      have c2 := Lib.hid (hs.out w2 hb2)
      clear hb2
      go_wp2_with fail
      refine c2.out.mono ?_
      rintro e w3 ⟨rfl, hb3⟩
      have q3 := Lib.hid (q2'.out.trans (hb3.mono q2'.out.size))
      have c3 := Lib.hid (hwt.out w3 q3.out)
      clear hb3
      go_wp2_with fail
      refine c3.out.mono ?_
      rintro e w4 ⟨rfl, hb4⟩
      have q4 := Lib.hid (q3.out.trans (hb4.mono q3.out.size))
      clear hb4
      go_wp2_with (go_at_call 9; (with_reducible refine (hcc.out _).mono ?_); rintro e w' ⟨rfl, rfl⟩)
      go_ret
      exact ⟨rfl, hb1.out.trans (q4.out.mono z1)⟩
    · replace hi := Lib.hid hi
      replace hs := Lib.hid hs
      replace hBv := Lib.hid hBv
      clear hwt
      go_wp2_with fail
      refine hi.out.mono ?_
      rintro e w2 ⟨rfl, hb2⟩
      have q2' := Lib.hid hb2
      have c2 := Lib.hid (hs.out w2 hb2)
      clear hb2
      go_wp2_with fail
      refine c2.out.mono ?_
      rintro e w3 ⟨rfl, hb3⟩
      have q3 := Lib.hid (q2'.out.trans (hb3.mono q2'.out.size))
      clear hb3
      go_wp2_with fail
      go_ret
      exact ⟨rfl, hb1.out.trans (q3.out.mono z1)⟩
end Go.Proofs.Ytcadlfljlobjjaa
