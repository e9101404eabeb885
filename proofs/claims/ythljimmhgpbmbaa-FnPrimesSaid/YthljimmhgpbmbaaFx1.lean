/- The draws of chapter 9. -/
import Derived.Test.YthljimmhgpbmbaaDrawC
import Derived.Test.YthljimmhgpbmbaaCs1
import Derived.Test.YthljimmhgpbmbaaAs2
namespace Go.Proofs.Ythljimmhgpbmbaa
open Go.ChangeShapes Go.WideShapes Go.ChangeAt Go.RowKit Go.Proofs

set_option maxRecDepth 100000 in
set_option maxHeartbeats 4000000 in
theorem draw_UnionPrimes (v : Value) (a : Option Addr) (len cap : Nat) (w : World) (hv : v = .slice a len cap) (hc : len ≤ cap) (hcap : cap ≤ 9223372036854775807) (hB : Bytes w w.heap.size a len) :
    Calls Try.prog 15 #[v] w (GivenDraw w) := by
  have h0 := Lib.hid (draw_few v a len cap w hv hc hcap hB)
  subst hv
  clear hB
  go_enter Try.func15, Try.ntmps15
  go_wp2_with fail
  refine (h0.out).mono ?_
  rintro e w1 ⟨n, u, xs, rfl, hl, hO, hb, _, _⟩
  obtain ⟨ua, uc, rfl, _⟩ := id hO
  have z1 := hb.size
  have h1 := sp_UnionOf n _ xs _ w1 hO.row (Nat.le_refl _) (by omega)
  replace hO := Lib.hid hO
  replace hb := Lib.hid hb
  have hm0 : (0 : Int) ≤ (len : Nat) := by omega
  rcases (by cases famB n xs <;> simp : famB n xs = true ∨ famB n xs = false) with hbv | hbv
  · have f1 := ucL_len semi_or (famB_all hbv).2.2
    rw [hbv] at h1
    obtain ⟨T1, hT1⟩ : ∃ T, ucL orI xs = T := ⟨_, rfl⟩
    rw [hT1] at h1 f1
    replace h1 := Lib.hid (show Calls _ _ _ _ (ListPost T1 true w1) from h1)
    replace hbv := Lib.hid hbv
    go_wp2_with fail
    refine h1.out.mono ?_
    rintro e w2 ⟨v2, rfl, hO2, hb2⟩
    obtain ⟨va, vc, rfl, _⟩ := id hO2
    have z2 := hb2.size
    have hO12 := Lib.hid (hO.out.below hb2 (Nat.le_refl _))
    replace hO2 := Lib.hid hO2
    replace hb2 := Lib.hid (hb.out.trans (hb2.mono z1))
    rcases (by omega : (len : Int) % 5 = 0 ∨ (len : Int) % 5 = 1 ∨ (len : Int) % 5 = 2 ∨ (len : Int) % 5 = 3 ∨ (len : Int) % 5 = 4) with hm | hm | hm | hm | hm
    · go_wp2_with fail
      go_ret2
      exact ⟨_, _, xs, rfl, by omega, hO12.out.mono (by omega) (by omega), hb2.out⟩
    · go_wp2_with fail
      go_ret2
      exact ⟨_, _, T1, rfl, by omega, hO2.out.mono (by omega) (Nat.le_refl _), hb2.out⟩
    · go_wp2_with fail
      go_ret2
      exact ⟨_, _, T1, rfl, by omega, hO2.out.mono (by omega) (Nat.le_refl _), hb2.out⟩
    · go_wp2_with fail
      go_ret2
      exact ⟨_, _, T1, rfl, by omega, hO2.out.mono (by omega) (Nat.le_refl _), hb2.out⟩
    · go_wp2_with fail
      go_ret2
      exact ⟨_, _, T1, rfl, by omega, hO2.out.mono (by omega) (Nat.le_refl _), hb2.out⟩
  · rw [hbv] at h1
    replace h1 := Lib.hid (show Calls _ _ _ _ (ListPost [] false w1) from h1)
    replace hbv := Lib.hid hbv
    go_wp2_with fail
    refine h1.out.mono ?_
    rintro e w2 ⟨v2, rfl, hO2, hb2⟩
    obtain ⟨va, vc, rfl, _⟩ := id hO2
    have z2 := hb2.size
    have hO12 := Lib.hid (hO.out.below hb2 (Nat.le_refl _))
    replace hb2 := Lib.hid (hb.out.trans (hb2.mono z1))
    clear hO2
    go_wp2_with fail
    go_ret2
    exact ⟨_, _, xs, rfl, by omega, hO12.out.mono (by omega) (by omega), hb2.out⟩
end Go.Proofs.Ythljimmhgpbmbaa
