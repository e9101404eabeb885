/- The draws of chapter 9. -/
import Derived.Test.YthljimmhgpbmbabDrawC
import Derived.Test.YthljimmhgpbmbabCs1
import Derived.Test.YthljimmhgpbmbabAs2
namespace Go.Proofs.Ythljimmhgpbmbab
open Go.ChangeShapes Go.WideShapes Go.ChangeAt Go.RowKit Go.Proofs

set_option maxRecDepth 100000 in
set_option maxHeartbeats 4000000 in
theorem draw_DifferenceOf (v : Value) (a : Option Addr) (len cap : Nat) (w : World) (hv : v = .slice a len cap) (hc : len ≤ cap) (hcap : cap ≤ 9223372036854775807) (hB : Bytes w w.heap.size a len) :
    Calls Try.prog 13 #[v] w (GivenDraw w) := by
  have h0 := Lib.hid (draw_given v a len cap w hv hc hcap hB)
  clear hv hc hcap hB
  go_enter Try.func13, Try.ntmps13
  go_wp2_with fail
  refine (h0.out).mono ?_
  rintro e w1 ⟨n, u, xs, rfl, hl, hO, hb⟩
  obtain ⟨fa, fc, rfl, _⟩ := id hO
  replace hO := Lib.hid hO
  replace hb := Lib.hid hb
  go_wp2_with fail
  go_ret2
  exact ⟨_, _, xs, rfl, hl, hO.out, hb.out⟩
set_option maxRecDepth 100000 in
set_option maxHeartbeats 4000000 in
theorem draw_UpIn (v : Value) (a : Option Addr) (len cap : Nat) (w : World) (hv : v = .slice a len cap) (hc : len ≤ cap) (hcap : cap ≤ 9223372036854775807) (hB : Bytes w w.heap.size a len) :
    Calls Try.prog 37 #[v] w (GivenDraw w) := by
  have h0 := Lib.hid (draw_given v a len cap w hv hc hcap hB)
  clear hv hc hcap hB
  go_enter Try.func37, Try.ntmps37
  go_wp2_with fail
  refine (h0.out).mono ?_
  rintro e w1 ⟨n, u, xs, rfl, hl, hO, hb⟩
  obtain ⟨fa, fc, rfl, _⟩ := id hO
  replace hO := Lib.hid hO
  replace hb := Lib.hid hb
  go_wp2_with fail
  go_ret2
  exact ⟨_, _, xs, rfl, hl, hO.out, hb.out⟩
set_option maxRecDepth 100000 in
set_option maxHeartbeats 4000000 in
theorem draw_UnionOf (v : Value) (a : Option Addr) (len cap : Nat) (w : World) (hv : v = .slice a len cap) (hc : len ≤ cap) (hcap : cap ≤ 9223372036854775807) (hB : Bytes w w.heap.size a len) :
    Calls Try.prog 32 #[v] w (GivenDraw w) := by
  have h0 := Lib.hid (draw_few v a len cap w hv hc hcap hB)
  clear hv hc hcap hB
  go_enter Try.func32, Try.ntmps32
  go_wp2_with fail
  refine (h0.out).mono ?_
  rintro e w1 ⟨n, u, xs, rfl, hl, hO, hb, _, _⟩
  obtain ⟨fa, fc, rfl, _⟩ := id hO
  replace hO := Lib.hid hO
  replace hb := Lib.hid hb
  go_wp2_with fail
  go_ret2
  exact ⟨_, _, xs, rfl, by omega, hO.out, hb.out⟩
set_option maxRecDepth 100000 in
set_option maxHeartbeats 4000000 in
theorem draw_MeetOf (v : Value) (a : Option Addr) (len cap : Nat) (w : World) (hv : v = .slice a len cap) (hc : len ≤ cap) (hcap : cap ≤ 9223372036854775807) (hB : Bytes w w.heap.size a len) :
    Calls Try.prog 35 #[v] w (GivenDraw w) := by
  have h0 := Lib.hid (draw_few v a len cap w hv hc hcap hB)
  clear hv hc hcap hB
  go_enter Try.func35, Try.ntmps35
  go_wp2_with fail
  refine (h0.out).mono ?_
  rintro e w1 ⟨n, u, xs, rfl, hl, hO, hb, _, _⟩
  obtain ⟨fa, fc, rfl, _⟩ := id hO
  replace hO := Lib.hid hO
  replace hb := Lib.hid hb
  go_wp2_with fail
  go_ret2
  exact ⟨_, _, xs, rfl, by omega, hO.out, hb.out⟩
set_option maxRecDepth 100000 in
set_option maxHeartbeats 4000000 in
theorem draw_closed (v : Value) (a : Option Addr) (len cap : Nat) (w : World) (hv : v = .slice a len cap) (hc : len ≤ cap) (hcap : cap ≤ 9223372036854775807) (hB : Bytes w w.heap.size a len) :
    Calls Try.prog 68 #[v] w (GivenDraw w) := by
  have h0 := Lib.hid (draw_few v a len cap w hv hc hcap hB)
  subst hv
  clear hB
  go_enter Try.func68, Try.ntmps68
  go_wp2_with fail
  refine (h0.out).mono ?_
  rintro e w1 ⟨n, u, xs, rfl, hl, hO, hb, _, _⟩
  obtain ⟨ua, uc, rfl, _⟩ := id hO
  have z1 := hb.size
  have h1 := sp_UnionOf n _ xs _ w1 hO.row (Nat.le_refl _) (by omega)
  have h2 := fun (W : World) (hW : Below w1.heap.size w1 W) => sp_MeetOf n _ xs w1.heap.size W (hO.row.below hW (Nat.le_refl _)) hW.size (by omega)
  replace hO := Lib.hid hO
  replace hb := Lib.hid hb
  have hm0 : (0 : Int) ≤ (len : Nat) := by omega
  rcases (by cases famB n xs <;> simp : famB n xs = true ∨ famB n xs = false) with hbv | hbv
  · have f1 := ucL_len semi_or (famB_all hbv).2.2
    have f2 := ucL_len semi_and (famB_all hbv).2.2
    rw [hbv] at h1 h2
    obtain ⟨T1, hT1⟩ : ∃ T, ucL orI xs = T := ⟨_, rfl⟩
    obtain ⟨T2, hT2⟩ : ∃ T, ucL andI xs = T := ⟨_, rfl⟩
    rw [hT1] at h1 f1
    rw [hT2] at h2 f2
    replace h1 := Lib.hid (show Calls _ _ _ _ (ListPost T1 true w1) from h1)
    replace h2 := Lib.hid (fun (W : World) (hW : Below w1.heap.size w1 W) => (show Calls _ _ _ _ (ListPost T2 true W) from h2 W hW))
    replace hbv := Lib.hid hbv
    go_wp2_with fail
    refine h1.out.mono ?_
    rintro e w2 ⟨v2, rfl, hO2, hb2⟩
    obtain ⟨va, vc, rfl, _⟩ := id hO2
    have z2 := hb2.size
    have h3 := Lib.hid (h2.out w2 hb2)
    have hO12 := Lib.hid (hO.out.below hb2 (Nat.le_refl _))
    replace hO2 := Lib.hid hO2
    replace hb2 := Lib.hid (hb.out.trans (hb2.mono z1))
    rcases (by omega : (len : Int) % 4 = 0 ∨ (len : Int) % 4 = 1 ∨ (len : Int) % 4 = 2 ∨ (len : Int) % 4 = 3) with hm | hm | hm | hm
    · go_wp2_with fail
      go_ret2
      exact ⟨_, _, T1, rfl, by omega, hO2.out.mono (by omega) (Nat.le_refl _), hb2.out⟩
    · go_wp2_with fail
      refine h3.out.mono ?_
      rintro e w3 ⟨v3, rfl, hO3, hb3⟩
      obtain ⟨ya, yc, rfl, _⟩ := id hO3
      have z3 := hb3.size
      replace hO3 := Lib.hid hO3
      replace hb3 := Lib.hid (hb2.out.trans (hb3.mono hb2.out.size))
      go_wp2_with fail
      go_ret2
      exact ⟨_, _, T2, rfl, by omega, hO3.out.mono (by omega) (Nat.le_refl _), hb3.out⟩
    · go_wp2_with fail
      refine h3.out.mono ?_
      rintro e w3 ⟨v3, rfl, hO3, hb3⟩
      obtain ⟨ya, yc, rfl, _⟩ := id hO3
      have z3 := hb3.size
      have hO13 := Lib.hid (hO12.out.below hb3 z2)
      replace hb3 := Lib.hid (hb2.out.trans (hb3.mono hb2.out.size))
      go_wp2_with fail
      go_ret2
      exact ⟨_, _, xs, rfl, by omega, hO13.out.mono (by omega) (by omega), hb3.out⟩
    · go_wp2_with fail
      refine h3.out.mono ?_
      rintro e w3 ⟨v3, rfl, hO3, hb3⟩
      obtain ⟨ya, yc, rfl, _⟩ := id hO3
      have z3 := hb3.size
      have hO13 := Lib.hid (hO12.out.below hb3 z2)
      replace hb3 := Lib.hid (hb2.out.trans (hb3.mono hb2.out.size))
      go_wp2_with fail
      go_ret2
      exact ⟨_, _, xs, rfl, by omega, hO13.out.mono (by omega) (by omega), hb3.out⟩
  · rw [hbv] at h1 h2
    replace h1 := Lib.hid (show Calls _ _ _ _ (ListPost [] false w1) from h1)
    replace h2 := Lib.hid (fun (W : World) (hW : Below w1.heap.size w1 W) => (show Calls _ _ _ _ (ListPost [] false W) from h2 W hW))
    replace hbv := Lib.hid hbv
    go_wp2_with fail
    refine h1.out.mono ?_
    rintro e w2 ⟨v2, rfl, hO2, hb2⟩
    obtain ⟨va, vc, rfl, _⟩ := id hO2
    have z2 := hb2.size
    have h3 := Lib.hid (h2.out w2 hb2)
    have hO12 := Lib.hid (hO.out.below hb2 (Nat.le_refl _))
    replace hb2 := Lib.hid (hb.out.trans (hb2.mono z1))
    clear hO2
    go_wp2_with fail
    refine h3.out.mono ?_
    rintro e w3 ⟨v3, rfl, hO3, hb3⟩
    obtain ⟨ya, yc, rfl, _⟩ := id hO3
    have z3 := hb3.size
    have hO13 := Lib.hid (hO12.out.below hb3 z2)
    replace hb3 := Lib.hid (hb2.out.trans (hb3.mono hb2.out.size))
    clear hO3
    go_wp2_with fail
    go_ret2
    exact ⟨_, _, xs, rfl, by omega, hO13.out.mono (by omega) (by omega), hb3.out⟩
set_option maxRecDepth 100000 in
set_option maxHeartbeats 4000000 in
theorem draw_UnionIn (v : Value) (a : Option Addr) (len cap : Nat) (w : World) (hv : v = .slice a len cap) (hc : len ≤ cap) (hcap : cap ≤ 9223372036854775807) (hB : Bytes w w.heap.size a len) :
    Calls Try.prog 24 #[v] w (GivenDraw w) := by
  have h0 := Lib.hid (draw_closed v a len cap w hv hc hcap hB)
  clear hv hc hcap hB
  go_enter Try.func24, Try.ntmps24
  go_wp2_with fail
  refine (h0.out).mono ?_
  rintro e w1 ⟨n, u, xs, rfl, hl, hO, hb⟩
  obtain ⟨fa, fc, rfl, _⟩ := id hO
  replace hO := Lib.hid hO
  replace hb := Lib.hid hb
  go_wp2_with fail
  go_ret2
  exact ⟨_, _, xs, rfl, hl, hO.out, hb.out⟩
set_option maxRecDepth 100000 in
set_option maxHeartbeats 4000000 in
theorem draw_MeetIn (v : Value) (a : Option Addr) (len cap : Nat) (w : World) (hv : v = .slice a len cap) (hc : len ≤ cap) (hcap : cap ≤ 9223372036854775807) (hB : Bytes w w.heap.size a len) :
    Calls Try.prog 29 #[v] w (GivenDraw w) := by
  have h0 := Lib.hid (draw_closed v a len cap w hv hc hcap hB)
  clear hv hc hcap hB
  go_enter Try.func29, Try.ntmps29
  go_wp2_with fail
  refine (h0.out).mono ?_
  rintro e w1 ⟨n, u, xs, rfl, hl, hO, hb⟩
  obtain ⟨fa, fc, rfl, _⟩ := id hO
  replace hO := Lib.hid hO
  replace hb := Lib.hid hb
  go_wp2_with fail
  go_ret2
  exact ⟨_, _, xs, rfl, hl, hO.out, hb.out⟩
end Go.Proofs.Ythljimmhgpbmbab
